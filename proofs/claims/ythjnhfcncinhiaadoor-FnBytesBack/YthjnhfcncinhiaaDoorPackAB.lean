/-
  Events as bytes: what a list of events is encoded to, what bytes are decoded to, and that the two are one.
-/
import Derived.Test.YthjnhfcncinhiaaDoorPackAA
import Derived.Laws.Bits128
import Derived.Laws.Shifts
import Derived.Laws.Pointers
import Derived.LaidEql
import Derived.Stop.Asserts
import Derived.RowKitTokens
import Derived.Laws.AppendOwnNone
import Derived.Maps.AppendAt
namespace Go.Proofs.YthjnhfcncinhiaaDoor
open Go.RowKit

/-- An event's numbers by their places. -/
def Ev.at (e : Ev) (i : Nat) : Int := [e.k, e.g, e.o, e.w, e.l, e.s, e.f, e.t].getD i 0
def Ev.put (e : Ev) (i : Nat) (x : Int) : Ev :=
  match i with
  | 0 => { e with k := x }
  | 1 => { e with g := x }
  | 2 => { e with o := x }
  | 3 => { e with w := x }
  | 4 => { e with l := x }
  | 5 => { e with s := x }
  | 6 => { e with f := x }
  | 7 => { e with t := x }
  | _ => e
/-- The places of the fields from the i-th on that a Kind has. -/
def offF (k : Int) (i : Nat) : List Nat := ((List.range' i (6 - i)).filter fun j => hasB k (2 ^ j)).map (· + 2)
/-- The places that are kept behind the Kind. -/
def offs (k : Int) : List Nat := 1 :: offF k 0
/-- The bytes of an event's numbers at these places. -/
def numsL (e : Ev) (os : List Nat) : List Int := os.flatMap fun o => putL (e.at o)
def evL (e : Ev) : List Int := putL e.k ++ numsL e (offs e.k)
def encL (l : List Ev) : List Int := [82, 50, 49] ++ l.flatMap evL
/-- Encoded. -/
def encB (l : List Ev) : Bool := l.all evOk && decide (l.length ≤ 300)

/-- Numbers one after the other, each to its place. -/
def rdSeq (bs : List Int) : List Nat → Nat → Ev → Option (Ev × Nat)
  | [], p, e => some (e, p)
  | o :: os, p, e => match rdN bs p with
    | none => none
    | some (n, q) => rdSeq bs os q (e.put o n)

def ev0 (k : Int) : Ev := ⟨k, 0, 0, 0, 0, 0, 0, 0⟩

/-- An event at a place: it and its end, or a code. -/
def rdEv (bs : List Int) (p : Nat) : Except Int (Ev × Nat) :=
  match rdN bs p with
  | none => .error 2
  | some (k, q) => if inB 1 22 k then (match rdSeq bs (offs k) q (ev0 k) with
    | none => .error 2
    | some (e, r) => if evOk e then .ok (e, r) else .error 3) else .error 3

/-- The events from a place on: f how many may come, out those that came. -/
def decG (bs : List Int) : Nat → Nat → List Ev → List Ev × Int
  | 0, p, out => (out, if p < bs.length then 4 else 0)
  | f + 1, p, out => if p < bs.length then (match rdEv bs p with
    | .error c => (out, c)
    | .ok (e, q) => decG bs f q (out ++ [e])) else (out, 0)

def hdB (bs : List Int) : Bool := decide (bs.take 3 = [82, 50, 49])
/-- Decoded. -/
def decL (bs : List Int) : List Ev × Int := if hdB bs then decG bs 300 3 [] else ([], 1)

/-! numbers -/
theorem putL_u8 {n : Int} (h0 : 0 ≤ n) (h1 : n ≤ 4398046511103) : ∀ x ∈ putL n, U8 x := putF_u8 5 n h0 (by simpa using (by omega : n < 4398046511104))
theorem putL_len (n : Int) : 1 ≤ (putL n).length ∧ (putL n).length ≤ 6 := putF_len 5 n
theorem rdN_put {bs rest : List Int} {n : Int} {p : Nat} (h0 : 0 ≤ n) (h1 : n ≤ 4398046511103) (hb : bs.drop p = putL n ++ rest) : rdN bs p = some (n, p + (putL n).length) := by
  have := rd_put bs p rest 5 n 1 0 p h0 (by simpa using (by omega : n < 4398046511104)) hb (by omega)
  simpa [rdN, putL] using this
theorem rdN_cut {bs : List Int} {n : Int} {p : Nat} (h0 : 0 ≤ n) (hb : bs.drop p = (putL n).dropLast) : rdN bs p = none := rd_cut bs p 5 n 1 0 p h0 hb
theorem rdN_some {bs : List Int} {p q : Nat} {n : Int} (hu : ∀ x ∈ bs, U8 x) (h : rdN bs p = some (n, q)) : 0 ≤ n ∧ n ≤ 4398046511103 ∧ q = p + (putL n).length ∧ bs.drop p = putL n ++ bs.drop q := by
  obtain ⟨m, h0, h1, hm, hq, hd, -⟩ := put_rd bs p hu 5 1 0 p n q (Nat.le_refl _) h
  have e : n = m := by omega
  subst e
  have h2 : n < 4398046511104 := by simpa using h1
  exact ⟨h0, by omega, hq, hd⟩
theorem rdN_lt {bs : List Int} {p q : Nat} {n : Int} (hu : ∀ x ∈ bs, U8 x) (h : rdN bs p = some (n, q)) : p < q ∧ q ≤ bs.length := by
  obtain ⟨-, -, hq, hd⟩ := rdN_some hu h
  have := (putL_len n).1
  have hl := congrArg List.length hd
  simp at hl
  omega

/-! places -/
theorem at_put {e : Ev} {i j : Nat} {x : Int} (hi : i < 8) : (e.put i x).at j = if j = i then x else e.at j := by
  rcases (by omega : i = 0 ∨ i = 1 ∨ i = 2 ∨ i = 3 ∨ i = 4 ∨ i = 5 ∨ i = 6 ∨ i = 7) with rfl | rfl | rfl | rfl | rfl | rfl | rfl | rfl
  all_goals
    by_cases hj : j < 8
    · rcases (by omega : j = 0 ∨ j = 1 ∨ j = 2 ∨ j = 3 ∨ j = 4 ∨ j = 5 ∨ j = 6 ∨ j = 7) with rfl | rfl | rfl | rfl | rfl | rfl | rfl | rfl <;> rfl
    · rw [if_neg (by omega), Ev.at, Ev.at, List.getD_eq_getElem?_getD, List.getD_eq_getElem?_getD, List.getElem?_eq_none (by simp; omega), List.getElem?_eq_none (by simp; omega)]
theorem ev_ext {a b : Ev} (h : ∀ j, j < 8 → a.at j = b.at j) : a = b := by
  obtain ⟨a0, a1, a2, a3, a4, a5, a6, a7⟩ := a
  obtain ⟨b0, b1, b2, b3, b4, b5, b6, b7⟩ := b
  have h0 : a0 = b0 := h 0 (by omega)
  have h1 : a1 = b1 := h 1 (by omega)
  have h2 : a2 = b2 := h 2 (by omega)
  have h3 : a3 = b3 := h 3 (by omega)
  have h4 : a4 = b4 := h 4 (by omega)
  have h5 : a5 = b5 := h 5 (by omega)
  have h6 : a6 = b6 := h 6 (by omega)
  have h7 : a7 = b7 := h 7 (by omega)
  subst h0 h1 h2 h3 h4 h5 h6 h7
  rfl
theorem offs_in {k : Int} : (∀ o ∈ offs k, 1 ≤ o ∧ o < 8) ∧ (offs k).Nodup := by
  have h : ∀ b : Nat → Bool, (∀ o ∈ 1 :: ((List.range' 0 6).filter b).map (· + 2), 1 ≤ o ∧ o < 8) ∧ (1 :: ((List.range' 0 6).filter b).map (· + 2)).Nodup := by
    intro b
    simp only [List.range', List.filter]
    cases b 0 <;> cases b (0 + 1) <;> cases b (0 + 1 + 1) <;> cases b (0 + 1 + 1 + 1) <;> cases b (0 + 1 + 1 + 1 + 1) <;> cases b (0 + 1 + 1 + 1 + 1 + 1) <;> decide
  exact h _

/-- What is put of numbers is read to their places. -/
theorem rdSeq_put (bs rest : List Int) (e : Ev) (os : List Nat) (p : Nat) (a : Ev) (ho : ∀ o ∈ os, 0 ≤ e.at o ∧ e.at o ≤ 4398046511103) (hb : bs.drop p = numsL e os ++ rest) :
    rdSeq bs os p a = some (os.foldl (fun a o => a.put o (e.at o)) a, p + (numsL e os).length) := by
  induction os generalizing p a with
  | nil => simp [rdSeq, numsL]
  | cons o os ih =>
    have hn : numsL e (o :: os) = putL (e.at o) ++ numsL e os := rfl
    rw [hn, List.append_assoc] at hb
    have h := ho o (by simp)
    have hr := rdN_put h.1 h.2 hb
    rw [rdSeq, hr]
    simp only []
    have hb2 : bs.drop (p + (putL (e.at o)).length) = numsL e os ++ rest := by
      rw [← List.drop_drop, hb, List.drop_left]
    rw [ih _ _ (fun o' ho' => ho o' (by simp [ho'])) hb2, hn]
    simp [Nat.add_assoc]

theorem foldl_at (e : Ev) (os : List Nat) (a : Ev) (h : ∀ o ∈ os, o < 8) (j : Nat) : (os.foldl (fun a o => a.put o (e.at o)) a).at j = if j ∈ os then e.at j else a.at j := by
  induction os generalizing a with
  | nil => simp
  | cons o os ih =>
    rw [List.foldl_cons, ih _ (fun o' ho' => h o' (by simp [ho'])), at_put (h o (by simp))]
    by_cases h1 : j ∈ os
    · simp [h1]
    · by_cases h2 : j = o
      · subst h2; simp [h1]
      · simp [h1, h2]

/-- What is read came so. -/
theorem rdSeq_some {bs : List Int} (hu : ∀ x ∈ bs, U8 x) (os : List Nat) (p : Nat) (a e : Ev) (q : Nat) (h : rdSeq bs os p a = some (e, q)) (hl : ∀ o ∈ os, o < 8) (hn : os.Nodup) :
    q = p + (numsL e os).length ∧ bs.drop p = numsL e os ++ bs.drop q ∧ (∀ j, j ∉ os → e.at j = a.at j) ∧ ∀ j, j ∈ os → 0 ≤ e.at j ∧ e.at j ≤ 4398046511103 := by
  induction os generalizing p a with
  | nil =>
    simp only [rdSeq, Option.some.injEq, Prod.mk.injEq] at h
    obtain ⟨rfl, rfl⟩ := h
    simp [numsL]
  | cons o os ih =>
    rw [rdSeq] at h
    cases hr : rdN bs p with
    | none => rw [hr] at h; cases h
    | some nq =>
      obtain ⟨n, r⟩ := nq
      rw [hr] at h
      obtain ⟨h0, h1, hrp, hd⟩ := rdN_some hu hr
      rw [List.nodup_cons] at hn
      obtain ⟨hq, hd2, ha, hi⟩ := ih r (a.put o n) h (fun o' ho' => hl o' (by simp [ho'])) hn.2
      have eo : e.at o = n := by rw [ha o hn.1, at_put (hl o (by simp)), if_pos rfl]
      have en : numsL e (o :: os) = putL n ++ numsL e os := by rw [← eo]; rfl
      refine ⟨?_, ?_, fun j hj => ?_, fun j hj => ?_⟩
      · rw [en, hq, hrp]; simp [Nat.add_assoc]
      · rw [en, hd, hd2, List.append_assoc]
      · simp only [List.mem_cons, not_or] at hj
        rw [ha j hj.2, at_put (hl o (by simp)), if_neg hj.1]
      · rcases List.mem_cons.1 hj with rfl | hj
        · rw [eo]; exact ⟨h0, h1⟩
        · exact hi j hj

/-! events -/
theorem fit_out {h : Bool} {n lo hi : Int} (hf : fitB h n lo hi = true) (hn : h = false) : n = 0 := by subst hn; simpa [fitB] using hf
theorem fit_in {h : Bool} {n lo hi : Int} (hf : fitB h n lo hi = true) (h0 : 0 ≤ lo) (h1 : hi ≤ 65535) : 0 ≤ n ∧ n ≤ 65535 := by
  cases h
  · have := fit_out hf rfl; omega
  · have := inB_true (by simpa [fitB] using hf); omega
theorem sizes_in (k : Int) : 0 ≤ loV k ∧ hiV k ≤ 64 := by
  rw [loV, hiV]
  constructor
  · split <;> omega
  · repeat' split
    all_goals omega

/-- A right event's numbers are small, and those that its Kind hasn't are 0. -/
theorem ok_at {e : Ev} (h : evOk e = true) : (∀ j, 0 ≤ e.at j ∧ e.at j ≤ 65535) ∧ ∀ j, j < 6 → hasB e.k (2 ^ j) = false → e.at (j + 2) = 0 := by
  simp only [evOk, Bool.and_eq_true] at h
  obtain ⟨⟨⟨⟨⟨⟨⟨hk, hg⟩, h1⟩, h2⟩, h3⟩, h4⟩, h5⟩, h6⟩ := h
  have hk' := inB_true hk
  have hg' := inB_true hg
  have hz := sizes_in e.k
  refine ⟨fun j => ?_, fun j hj hn => ?_⟩
  · by_cases hj : j < 8
    · rcases (by omega : j = 0 ∨ j = 1 ∨ j = 2 ∨ j = 3 ∨ j = 4 ∨ j = 5 ∨ j = 6 ∨ j = 7) with rfl | rfl | rfl | rfl | rfl | rfl | rfl | rfl
      · exact ⟨by simp [Ev.at]; omega, by simp [Ev.at]; omega⟩
      · exact ⟨by simp [Ev.at]; omega, by simp [Ev.at]; omega⟩
      · exact fit_in h1 (by omega) (by omega)
      · exact fit_in h2 (by omega) (by omega)
      · exact fit_in h3 (by omega) (by omega)
      · exact fit_in h4 (by omega) (by omega)
      · exact fit_in h5 (by omega) (by omega)
      · exact fit_in h6 (by omega) (by omega)
    · rw [Ev.at, List.getD_eq_getElem?_getD, List.getElem?_eq_none (by simp; omega)]; simp
  · rcases (by omega : j = 0 ∨ j = 1 ∨ j = 2 ∨ j = 3 ∨ j = 4 ∨ j = 5) with rfl | rfl | rfl | rfl | rfl | rfl
    · exact fit_out h1 hn
    · exact fit_out h2 hn
    · exact fit_out h3 hn
    · exact fit_out h4 hn
    · exact fit_out h5 hn
    · exact fit_out h6 hn

theorem offs_mem {k : Int} {j : Nat} (hj : j < 6) : j + 2 ∈ offs k ↔ hasB k (2 ^ j) = true := by
  simp only [offs, offF, List.mem_cons, List.mem_map, List.mem_filter]
  constructor
  · rintro (h | ⟨i, ⟨-, hb⟩, hi⟩)
    · omega
    · have : i = j := by omega
      subst this; exact hb
  · intro h
    exact .inr ⟨j, ⟨by rw [List.mem_range']; exact ⟨j, by omega, by omega⟩, h⟩, rfl⟩

/-- What is put of a right event is read as it. -/
theorem rdEv_put {bs rest : List Int} {e : Ev} {p : Nat} (h : evOk e = true) (hb : bs.drop p = evL e ++ rest) : rdEv bs p = .ok (e, p + (evL e).length) := by
  obtain ⟨hi, hz⟩ := ok_at h
  have hk := hi 0
  have hk' : 0 ≤ e.k ∧ e.k ≤ 65535 := hk
  rw [evL, List.append_assoc] at hb
  have hr := rdN_put hk'.1 (by omega) hb
  have hb2 : bs.drop (p + (putL e.k).length) = numsL e (offs e.k) ++ rest := by rw [← List.drop_drop, hb, List.drop_left]
  have hs := rdSeq_put bs rest e (offs e.k) _ (ev0 e.k) (fun o _ => ⟨(hi o).1, by have := (hi o).2; omega⟩) hb2
  have hkr : inB 1 22 e.k = true := by
    simp only [evOk, Bool.and_eq_true] at h
    exact h.1.1.1.1.1.1.1
  have he : (offs e.k).foldl (fun a o => a.put o (e.at o)) (ev0 e.k) = e := by
    apply ev_ext
    intro j hj
    rw [foldl_at e _ _ (fun o ho => (offs_in.1 o ho).2)]
    by_cases hm : j ∈ offs e.k
    · rw [if_pos hm]
    · rw [if_neg hm]
      have hw : j = 0 ∨ j = 1 ∨ ∃ i, i < 6 ∧ j = i + 2 := by
        by_cases h2 : j < 2
        · omega
        · exact .inr (.inr ⟨j - 2, by omega, by omega⟩)
      rcases hw with rfl | rfl | ⟨i, hi6, rfl⟩
      · rfl
      · exact absurd (by simp [offs]) hm
      · rw [offs_mem hi6] at hm
        rw [hz i hi6 (by simpa using hm)]
        rcases (by omega : i = 0 ∨ i = 1 ∨ i = 2 ∨ i = 3 ∨ i = 4 ∨ i = 5) with rfl | rfl | rfl | rfl | rfl | rfl <;> rfl
  rw [rdEv, hr]
  simp only [hkr, if_true, hs, he, h]
  rw [evL, List.length_append]
  simp [Nat.add_assoc]

/-- What is read came so. -/
theorem rdEv_ok {bs : List Int} (hu : ∀ x ∈ bs, U8 x) {p q : Nat} {e : Ev} (h : rdEv bs p = .ok (e, q)) : evOk e = true ∧ q = p + (evL e).length ∧ bs.drop p = evL e ++ bs.drop q := by
  rw [rdEv] at h
  cases hr : rdN bs p with
  | none => rw [hr] at h; cases h
  | some kr =>
    obtain ⟨k, r⟩ := kr
    rw [hr] at h
    simp only at h
    obtain ⟨h0, h1, hrp, hd⟩ := rdN_some hu hr
    by_cases hk : inB 1 22 k = true
    · rw [if_pos hk] at h
      cases hs : rdSeq bs (offs k) r (ev0 k) with
      | none => rw [hs] at h; cases h
      | some er =>
        obtain ⟨e', r'⟩ := er
        rw [hs] at h
        simp only at h
        obtain ⟨hq, hd2, ha, -⟩ := rdSeq_some hu _ _ _ _ _ hs (fun o ho => (offs_in.1 o ho).2) offs_in.2
        by_cases ho : evOk e' = true
        · rw [if_pos ho] at h
          simp only [Except.ok.injEq, Prod.mk.injEq] at h
          obtain ⟨rfl, rfl⟩ := h
          have hek : e'.k = k := by
            have := ha 0 (fun h => by have := (offs_in.1 _ h).1; omega)
            exact this
          subst hek
          refine ⟨ho, ?_, ?_⟩
          · rw [evL, List.length_append, hq, hrp]; omega
          · rw [evL, hd, hd2, List.append_assoc]
        · rw [if_neg ho] at h; cases h
    · rw [if_neg hk] at h; cases h

theorem evL_len (e : Ev) : 1 ≤ (evL e).length := by
  rw [evL, List.length_append]
  have := (putL_len e.k).1
  omega

/-! traces -/
theorem decG_put (bs : List Int) (l : List Ev) (f p : Nat) (out : List Ev) (hl : l.length ≤ f) (h : ∀ e ∈ l, evOk e = true) (hp : p ≤ bs.length) (hb : bs.drop p = l.flatMap evL) : decG bs f p out = (out ++ l, 0) := by
  induction l generalizing f p out with
  | nil =>
    have : ¬ p < bs.length := by
      have := congrArg List.length hb
      simp at this
      omega
    cases f with
    | zero => simp [decG, this]
    | succ f => simp [decG, this]
  | cons e l ih =>
    cases f with
    | zero => simp at hl
    | succ f =>
      have hb1 : bs.drop p = evL e ++ l.flatMap evL := by rw [hb]; rfl
      have hr := rdEv_put (h e (by simp)) hb1
      have hlen := congrArg List.length hb1
      have hne := evL_len e
      simp only [List.length_drop, List.length_append] at hlen
      rw [decG, if_pos (by omega), hr]
      simp only []
      rw [ih f _ _ (by simp at hl; omega) (fun e' he' => h e' (by simp [he'])) (by omega) (by rw [← List.drop_drop, hb1, List.drop_left])]
      simp

theorem dec_enc (l : List Ev) (h : encB l = true) : decL (encL l) = (l, 0) := by
  simp only [encB, Bool.and_eq_true, List.all_eq_true, decide_eq_true_eq] at h
  have hh : hdB (encL l) = true := by simp [hdB, encL]
  rw [decL, if_pos hh, decG_put _ l 300 3 [] h.2 h.1 (by simp [encL]) (by simp [encL])]
  simp

theorem decG_some {bs : List Int} (hu : ∀ x ∈ bs, U8 x) (f p : Nat) (out l : List Ev) (c : Int) (hp : p ≤ bs.length) (h : decG bs f p out = (l, c)) :
    ∃ m, l = out ++ m ∧ m.length ≤ f ∧ (∀ e ∈ m, evOk e = true) ∧ (∃ r, bs.drop p = m.flatMap evL ++ r ∧ (c = 0 → r = [])) ∧ (c = 0 ∨ c = 2 ∨ c = 3 ∨ c = 4) := by
  induction f generalizing p out with
  | zero =>
    simp only [decG, Prod.mk.injEq] at h
    obtain ⟨rfl, hc⟩ := h
    by_cases hlt : p < bs.length
    · rw [if_pos hlt] at hc
      exact ⟨[], by simp, by simp, by simp, ⟨bs.drop p, by simp, by omega⟩, by omega⟩
    · rw [if_neg hlt] at hc
      exact ⟨[], by simp, by simp, by simp, ⟨bs.drop p, by simp, fun _ => List.drop_eq_nil_of_le (by omega)⟩, by omega⟩
  | succ f ih =>
    rw [decG] at h
    by_cases hlt : p < bs.length
    · rw [if_pos hlt] at h
      cases hr : rdEv bs p with
      | error d =>
        rw [hr] at h
        simp only [Prod.mk.injEq] at h
        obtain ⟨rfl, rfl⟩ := h
        have hd : d = 2 ∨ d = 3 := by
          rw [rdEv] at hr
          split at hr
          · simp only [Except.error.injEq] at hr; omega
          · split at hr
            · split at hr
              · simp only [Except.error.injEq] at hr; omega
              · split at hr
                · cases hr
                · simp only [Except.error.injEq] at hr; omega
            · simp only [Except.error.injEq] at hr; omega
        exact ⟨[], by simp, by simp, by simp, ⟨bs.drop p, by simp, by omega⟩, by omega⟩
      | ok eq =>
        obtain ⟨e, q⟩ := eq
        rw [hr] at h
        simp only at h
        obtain ⟨ho, hq, hd⟩ := rdEv_ok hu hr
        have hlen := congrArg List.length hd
        simp only [List.length_drop, List.length_append] at hlen
        have hne := evL_len e
        obtain ⟨m, hm, hml, hmo, ⟨r, hr2, hr3⟩, hc⟩ := ih q _ (by omega) h
        refine ⟨e :: m, by rw [hm]; simp, by simp; omega, ?_, ⟨r, ?_, hr3⟩, hc⟩
        · intro x hx
          rcases List.mem_cons.1 hx with rfl | hx
          · exact ho
          · exact hmo x hx
        · rw [hd, hr2]; simp
    · rw [if_neg hlt] at h
      simp only [Prod.mk.injEq] at h
      obtain ⟨rfl, rfl⟩ := h
      exact ⟨[], by simp, by simp, by simp, ⟨bs.drop p, by simp, fun _ => List.drop_eq_nil_of_le (by omega)⟩, by omega⟩

/-- Bytes that are decoded: the events are encoded to their beginning; to all of them where there is no fault. -/
theorem enc_dec {bs : List Int} (hu : ∀ x ∈ bs, U8 x) (h : hdB bs = true) : encB (decL bs).1 = true ∧ (∃ r, bs = encL (decL bs).1 ++ r ∧ ((decL bs).2 = 0 → r = [])) ∧ (decL bs).2 ≠ 1 := by
  have h3 : bs.take 3 = [82, 50, 49] := by simpa [hdB] using h
  have hlen : 3 ≤ bs.length := by have := congrArg List.length h3; simp at this; omega
  obtain ⟨m, hm, hml, hmo, ⟨r, hr, hr0⟩, hc⟩ := decG_some hu 300 3 [] (decL bs).1 (decL bs).2 hlen (by rw [decL, if_pos h])
  rw [List.nil_append] at hm
  rw [hm]
  refine ⟨?_, ⟨r, ?_, hr0⟩, by omega⟩
  · simp only [encB, Bool.and_eq_true, List.all_eq_true, decide_eq_true_eq]
    exact ⟨hmo, hml⟩
  · conv => lhs; rw [← List.take_append_drop 3 bs, h3, hr]
    rw [encL, List.append_assoc]
end Go.Proofs.YthjnhfcncinhiaaDoor
/-
  Reading a number: the specification's ReadNumber.
-/
namespace Go.Proofs.YthjnhfcncinhiaaDoor
open Go.RowKit

/-- What ReadNumber answers. -/
def rdV (bs : List Int) (i : Int) : Int × Int × Bool :=
  if 0 ≤ i then (match rdN bs i.toNat with | some (n, q) => (n, (q : Int), true) | none => (0, i, false)) else (0, i, false)

theorem rdV_at (bs : List Int) (p : Nat) : rdV bs (p : Int) = (match rdN bs p with | some (n, q) => (n, (q : Int), true) | none => (0, (p : Int), false)) := by
  rw [rdV, if_pos (by omega)]
  rfl
theorem rdV_none {bs : List Int} {p : Nat} (h : rdN bs p = none) : rdV bs (p : Int) = (0, (p : Int), false) := by rw [rdV_at, h]
theorem rdV_some {bs : List Int} {p q : Nat} {n : Int} (h : rdN bs p = some (n, q)) : rdV bs (p : Int) = (n, (q : Int), true) := by rw [rdV_at, h]
theorem rdN_out {bs : List Int} {p : Nat} (h : bs.length ≤ p) : rdN bs p = none := by
  rw [rdN, rdG, List.getElem?_eq_none h]
theorem rdV_out {bs : List Int} {i : Int} (h : i < 0 ∨ (bs.length : Int) ≤ i) : rdV bs i = (0, i, false) := by
  rw [rdV]
  by_cases h0 : 0 ≤ i
  · rw [if_pos h0, rdN_out (by omega)]
  · rw [if_neg h0]

/-- The number was read up to the place p: f bytes may come. -/
structure RS (bs : List Int) (s f p : Nat) (u acc : Int) : Prop where
  sp : s ≤ p
  fp : p + f = s + 6
  same : rdG bs s f p u acc = rdN bs s
  unit : u = 128 ^ (6 - f)
  acc0 : 0 ≤ acc
  acc1 : acc < u

theorem RS.start (bs : List Int) (s : Nat) : RS bs s 6 s 1 0 := ⟨Nat.le_refl _, rfl, rfl, rfl, by omega, by omega⟩
theorem RS.unit_in {bs : List Int} {s f p : Nat} {u acc : Int} (h : RS bs s f p u acc) : 1 ≤ u ∧ u ≤ 4398046511104 ∧ (0 < f → u ≤ 34359738368) := by
  have hf : f ≤ 6 ∨ 6 < f := by omega
  rcases hf with hf | hf
  · rw [h.unit]
    rcases (by omega : f = 0 ∨ f = 1 ∨ f = 2 ∨ f = 3 ∨ f = 4 ∨ f = 5 ∨ f = 6) with rfl | rfl | rfl | rfl | rfl | rfl | rfl <;> decide
  · have : u = 1 := by rw [h.unit, Nat.sub_eq_zero_of_le (by omega)]; rfl
    omega
theorem RS.more {bs : List Int} {s f p : Nat} {u acc b : Int} (h : RS bs s (f + 1) p u acc) (hb : bs[p]? = some b) (h1 : 128 ≤ b) (h2 : b ≤ 255) : RS bs s f (p + 1) (u * 128) (acc + (b - 128) * u) := by
  have hu := h.unit_in
  have h3 : 0 ≤ (b - 128) * u := Int.mul_nonneg (by omega) (by omega)
  have h4 : (b - 128) * u ≤ 127 * u := Int.mul_le_mul_of_nonneg_right (by omega) (by omega)
  have := h.acc0
  have := h.acc1
  have h5 := h.fp
  have h6 := h.sp
  refine ⟨by omega, by omega, ?_, ?_, by omega, by omega⟩
  · rw [← h.same, rdG, hb]
    simp only []
    rw [if_pos h1]
  · rw [h.unit, ← Int.pow_succ]
    congr 1
    omega
theorem RS.last {bs : List Int} {s f p : Nat} {u acc b : Int} (h : RS bs s (f + 1) p u acc) (hb : bs[p]? = some b) (h1 : b < 128) : rdN bs s = if b = 0 ∧ s < p then none else some (acc + b * u, p + 1) := by
  rw [← h.same, rdG, hb]
  simp only []
  rw [if_neg (by omega)]
theorem RS.stop {bs : List Int} {s f p : Nat} {u acc : Int} (h : RS bs s f p u acc) (hb : f = 0 ∨ bs.length ≤ p) : rdN bs s = none := by
  rw [← h.same]
  cases f with
  | zero => rfl
  | succ f => rw [rdG, List.getElem?_eq_none (by omega)]

/-- ReadNumber's three results. -/
def rdT (x : Int × Int × Bool) : Value := .tuple #[.int .i64 x.1, .int .i64 x.2.1, .bool x.2.2]

set_option maxHeartbeats 1000000 in
theorem specRead_any (ao : Option Addr) (n cap : Nat) (bs : List Int) (i : Int) (w : World) (hn : bs.length = n) (hi : I64 i) (h : ReadsB w ao bs) :
    Calls Tryd.prog 46 #[.slice ao n cap, .int .i64 i] w fun e w' => e = .returned (rdT (rdV bs i)) ∧ w' = w := by
  subst hn
  have hl := h.len
  have c1 := fun w => l1In_any i 0 ((bs.length : Int) - 1) w
  cases hk : inB 0 ((bs.length : Int) - 1) i
  · have e := inB_false hk
    rw [rdV_out (by omega)]
    simp only [hk] at c1
    clear hk
    go_enter Tryd.func46, Tryd.ntmps46
    go_wp2_with fail
    refine (c1 _).mono ?_
    rintro e w1 ⟨rfl, rfl⟩
    go_wp2_with fail
    go_ret3
    exact ⟨rfl, rfl⟩
  · obtain ⟨i0, i1⟩ := inB_true hk
    simp only [hk] at c1
    clear hk
    obtain ⟨s, rfl⟩ : ∃ s : Nat, i = (s : Int) := ⟨i.toNat, by omega⟩
    go_enter Tryd.func46, Tryd.ntmps46
    go_wp2_with fail
    refine (c1 _).mono ?_
    rintro e w1 ⟨rfl, rfl⟩
    go_wp2_with fail
    go_loop [7, 8, 9] (fun a u j => ∃ (f p : Nat) (U A : Int), a = .int .i64 A ∧ u = .int .i64 U ∧ j = .int .i64 (p : Int) ∧ s ≤ p ∧ p ≤ bs.length ∧ Hid (RS bs s f p U A)) (fun _ _ j => bs.length - (intOf j).toNat)
    case atStart => exact ⟨6, s, 1, 0, rfl, rfl, rfl, Nat.le_refl _, by omega, RS.start bs s⟩
    case round =>
      obtain ⟨f, p, U, A, rfl, rfl, rfl, hsp, hpl, HR⟩ := hrel
      have hfp := HR.out.fp
      have hu := HR.out.unit_in
      have ha0 := HR.out.acc0
      have ha1 := HR.out.acc1
      by_cases hlt : p < bs.length
      · by_cases hf : f = 0
        · subst hf
          have e := HR.out.stop (.inl rfl)
          have HE : Hid (rdV bs s = (0, (s : Int), false)) := rdV_none e
          clear e HR
          go_wp2_with fail
          go_ret3
          rw [HE.out]
          exact ⟨rfl, rfl⟩
        · obtain ⟨f', rfl⟩ : ∃ f', f = f' + 1 := ⟨f - 1, by omega⟩
          obtain ⟨b, off, rfl, hc⟩ := h.at_ p hlt
          have hcp := hc p hlt
          rw [getD_at hlt] at hcp
          have hbp : bs[p]? = some bs[p] := List.getElem?_eq_getElem hlt
          have hby := h.bd _ (List.getElem_mem hlt)
          obtain ⟨y, hy⟩ : ∃ y, y = bs[p] := ⟨_, rfl⟩
          rw [← hy] at hcp hbp hby
          obtain ⟨y0, y1⟩ := hby
          have hu2 := hu.2.2 (by omega)
          have m1 : 0 ≤ (y % 128) * U := Int.mul_nonneg (by omega) (by omega)
          have m2 : (y % 128) * U ≤ 127 * U := Int.mul_le_mul_of_nonneg_right (by omega) (by omega)
          by_cases h128 : 128 ≤ y
          · have HM := HR.out.more hbp h128 y1
            have e1 : y - 128 = y % 128 := by omega
            rw [e1] at HM
            have HM : Hid (RS bs s f' (p + 1) (U * 128) (A + (y % 128) * U)) := HM
            clear hc hy HR hbp e1 hu
            go_wp2_with fail
            refine ⟨⟨f', p + 1, U * 128, A + y % 128 * U, rfl, rfl, by simp, by omega, by omega, HM⟩, ?_⟩
            simp only [intOf]
            omega
          · have HL := HR.out.last hbp (by omega)
            have e1 : y % 128 = y := by omega
            rw [e1] at m1 m2
            by_cases h0 : y = 0 ∧ s < p
            · rw [if_pos h0] at HL
              have HE : Hid (rdV bs s = (0, (s : Int), false)) := rdV_none HL
              obtain ⟨rfl, hsp'⟩ := h0
              clear hc hy HR hbp HL hu e1
              go_wp2_with fail
              go_ret3
              rw [HE.out]
              exact ⟨rfl, rfl⟩
            · rw [if_neg h0] at HL
              have HE : Hid (rdV bs s = (A + y * U, ((p + 1 : Nat) : Int), true)) := rdV_some HL
              by_cases hy0 : y = 0
              · have hsp' : s = p := by omega
                subst hy0 hsp'
                have HE : Hid (rdV bs s = (A, (s : Int) + 1, true)) := by
                  have := HE.out
                  show _ = _
                  simpa using this
                clear hc hy HR hbp HL hu e1 h0
                go_wp2_with fail
                go_ret3
                rw [HE.out]
                exact ⟨rfl, rfl⟩
              · clear hc hy HR hbp HL hu h0
                go_wp2_with fail
                go_ret3
                rw [HE.out]
                exact ⟨rfl, rfl⟩
      · have e := HR.out.stop (.inr (by omega))
        have HE : Hid (rdV bs s = (0, (s : Int), false)) := rdV_none e
        clear e HR
        go_wp2_with fail
        go_ret3
        rw [HE.out]
        exact ⟨rfl, rfl⟩
end Go.Proofs.YthjnhfcncinhiaaDoor
/-
  The program's reader behind its pointer: more and number.
-/
namespace Go.Proofs.YthjnhfcncinhiaaDoor
open Go.RowKit

/-- A reader lies in the block r: the bytes v, at the place i. -/
def Rdr (w : World) (r : Nat) (v : Value) (i : Int) : Prop := w.heap[r]? = some (.cells #[v, .int .i64 i] 47 (0, 0))
theorem Rdr.lt {w : World} {r : Nat} {v : Value} {i : Int} (h : Rdr w r v i) : r < w.heap.size := (Array.getElem?_eq_some_iff.1 h).1
theorem Rdr.c0 {w : World} {r : Nat} {v : Value} {i : Int} (h : Rdr w r v i) : w.cell? ⟨r, 0, none⟩ = some v := by rw [cell_of_row _ _ _ _ _ _ h]; rfl
theorem Rdr.c1 {w : World} {r : Nat} {v : Value} {i : Int} (h : Rdr w r v i) : w.cell? ⟨r, 1, none⟩ = some (.int .i64 i) := by rw [cell_of_row _ _ _ _ _ _ h]; rfl
theorem Rdr.free {w : World} {r : Nat} {v : Value} {i : Int} (h : Rdr w r v i) (k : Nat) : w.frozen? ⟨r, k, none⟩ = false := frozen_of_row w r k _ _ h
theorem Rdr.set {w : World} {r : Nat} {v : Value} {i : Int} (h : Rdr w r v i) (j : Int) : Rdr (w.setCell ⟨r, 1, none⟩ (.int .i64 j)) r v j := by
  have := heap_setCell_same w r 1 #[v, .int .i64 i] _ (.int .i64 j) h
  simpa [Rdr] using this
theorem Rdr.keep {w w' : World} {r : Nat} {v : Value} {i : Int} {row : Option Nat} (h : Rdr w r v i) (k : w.grownBy w' row) (hr : row ≠ some r) : Rdr w' r v i := (k.block r h.lt (fun q => hr q.symm)).trans h
theorem Rdr.fr {w w' : World} {r : Nat} {v : Value} {i : Int} (h : Rdr w r v i) (k : Fr w w') : Rdr w' r v i := h.keep k (by simp)
theorem Rdr.new (w : World) (v : Value) (i : Int) : Rdr (w.alloc (.cells #[v, .int .i64 i] 47)) w.heap.size v i := heap_alloc_new w _

/-- A fault lies in the block b: where, and why. -/
def Flt (w : World) (b : Nat) (i : Int) (why : Value) : Prop := w.heap[b]? = some (.cells #[.int .i64 i, why] 80 (0, 0))
theorem Flt.lt {w : World} {b : Nat} {v : Value} {i : Int} (h : Flt w b i v) : b < w.heap.size := (Array.getElem?_eq_some_iff.1 h).1
theorem Flt.c0 {w : World} {b : Nat} {v : Value} {i : Int} (h : Flt w b i v) : w.cell? ⟨b, 0, none⟩ = some (.int .i64 i) := by rw [cell_of_row _ _ _ _ _ _ h]; rfl
theorem Flt.c1 {w : World} {b : Nat} {v : Value} {i : Int} (h : Flt w b i v) : w.cell? ⟨b, 1, none⟩ = some v := by rw [cell_of_row _ _ _ _ _ _ h]; rfl
theorem Flt.keep {w w' : World} {b : Nat} {v : Value} {i : Int} {row : Option Nat} (h : Flt w b i v) (k : w.grownBy w' row) (hr : row ≠ some b) : Flt w' b i v := (k.block b h.lt (fun q => hr q.symm)).trans h
theorem Flt.new (w : World) (v : Value) (i : Int) : Flt (w.alloc (.cells #[.int .i64 i, v] 80)) w.heap.size i v := heap_alloc_new w _

theorem grown_trans' {a b c : World} {row : Option Nat} (h : a.grownBy b row) (k : b.grownBy c row) : a.grownBy c row :=
  ⟨k.os.trans h.os, k.tape.trans h.tape, k.output.trans h.output, Nat.le_trans h.size k.size, fun i hi hne => (k.block i (Nat.lt_of_lt_of_le hi h.size) hne).trans (h.block i hi hne)⟩
theorem Fr.row {a b : World} (row : Option Nat) (h : Fr a b) : a.grownBy b row := ⟨h.os, h.tape, h.output, h.size, fun i hi _ => h.block i hi (by simp)⟩
theorem grown_setCell (w : World) (g o : Nat) (v : Value) : w.grownBy (w.setCell ⟨g, o, none⟩ v) (some g) :=
  ⟨rfl, rfl, rfl, by simp, fun k _ hk => heap_setCell_other w ⟨g, o, none⟩ k v (fun e => hk (by simp [e]))⟩

set_option maxHeartbeats 400000 in
theorem more_any (r : Nat) (ao : Option Addr) (n cap : Nat) (i : Int) (w : World) (hr : Rdr w r (.slice ao n cap) i) :
    Calls Tryd.prog 43 #[.pointer (some ⟨r, 0, none⟩)] w fun e w' => e = .returned (.bool (inB 0 ((n : Int) - 1) i)) ∧ ∃ nq, w' = w.drewN nq := by
  have c0 := hr.c0
  have c1 := hr.c1
  by_cases h0 : 0 ≤ i
  · by_cases h1 : i < (n : Int)
    · rw [inB_mk h0 (by omega)]
      go_enter Tryd.func43, Tryd.ntmps43
      go_wp2
      go_quiet (fail)
      go_wp2
      go_ret
      exact ⟨rfl, _, rfl⟩
    · rw [inB_not (by omega)]
      have hb : decide (i < (n : Int)) = false := by simpa using h1
      go_enter Tryd.func43, Tryd.ntmps43
      go_wp2
      go_quiet (fail)
      go_wp2
      go_ret
      exact ⟨rfl, _, rfl⟩
  · rw [inB_not (by omega)]
    have hb : decide (0 ≤ i) = false := by simpa using h0
    go_enter Tryd.func43, Tryd.ntmps43
    go_wp2
    go_quiet (fail)
    go_wp2
    go_ret
    exact ⟨rfl, _, rfl⟩
end Go.Proofs.YthjnhfcncinhiaaDoor
/-
  errors.Is at a fault that wraps an error of errors.New's make: Go's text of it is walked (after the guide's section on errors.Is).
-/
namespace Go.Proofs.YthjnhfcncinhiaaDoor
open Go.RowKit Go.Extern.Stop Go.Stop Go.Extern

theorem Tryd.isTypeOf (v : Value) (w : World) : (Extern.ReflectliteType.typeOf #[.iface 135 v]).run Tryd.prog w = .ok (.iface 122 (.agg #[.pointer (some ⟨5, 135, none⟩)])) w := by kernel_rfl
/-- rtype's entry 'Comparable'. -/
def cmpE : Array Value → Sem Value := ReflectliteType.method fun t => do Rtype.noPackHeld "Comparable" t; pure (.bool (← typeInfo t).comparable)
theorem Tryd.isComparable (w : World) : (cmpE #[.agg #[.pointer (some ⟨5, 135, none⟩)]]).run Tryd.prog w = .ok (.bool true) w := by kernel_rfl
theorem Tryd.isMethodComparable (v : Value) (w : World) : (Go.method 273 122 v "Comparable").run Tryd.prog w = .ok (97, v) w := by kernel_rfl
theorem Tryd.isComp : (Tryd.prog.info? 135).map (·.comparable) = some true := by kernel_rfl
theorem Tryd.isSize : (Tryd.prog.info? 161).map (·.size) = some 1 := by kernel_rfl
theorem Tryd.noIsE (v : Value) (xT : TypeId) (w : World) : (Instr.typeAssert (.iface 135 v) xT 124 true).run Tryd.prog w = .ok (.tuple #[.nilIface, .bool false]) w := run_typeAssert_lacksB Tryd.underlying124 (by kernel_rfl) (by kernel_rfl) v xT w
theorem Tryd.noUnwrapE (v : Value) (xT : TypeId) (w : World) : (Instr.typeAssert (.iface 135 v) xT 127 true).run Tryd.prog w = .ok (.tuple #[.nilIface, .bool false]) w := run_typeAssert_lacksB Tryd.underlying127 (by kernel_rfl) (by kernel_rfl) v xT w
theorem Tryd.noUnwrapsE (v : Value) (xT : TypeId) (w : World) : (Instr.typeAssert (.iface 135 v) xT 128 true).run Tryd.prog w = .ok (.tuple #[.nilIface, .bool false]) w := run_typeAssert_lacksB Tryd.underlying128 (by kernel_rfl) (by kernel_rfl) v xT w
theorem Tryd.noIsW (v : Value) (xT : TypeId) (w : World) : (Instr.typeAssert (.iface 78 v) xT 124 true).run Tryd.prog w = .ok (.tuple #[.nilIface, .bool false]) w := run_typeAssert_lacksB Tryd.underlying124 (by kernel_rfl) (by kernel_rfl) v xT w
theorem Tryd.hasUnwrapW (v : Value) (xT : TypeId) (w : World) : (Instr.typeAssert (.iface 78 v) xT 127 true).run Tryd.prog w = .ok (.tuple #[.iface 78 v, .bool true]) w := run_typeAssert_hasB Tryd.underlying127 (by kernel_rfl) v xT w
theorem Tryd.methodUnwrap (v : Value) (w : World) : (Go.method 273 78 v "Unwrap").run Tryd.prog w = .ok (93, v) w := by kernel_rfl

set_option maxHeartbeats 1000000 in
/-- errors.Is of a fault and what it wraps. -/
theorem is_same (b : Nat) (i : Int) (y : Addr) (w : World) (h : Flt w b i (.iface 135 (.pointer (some y)))) :
    Calls Tryd.prog 45 #[.iface 78 (.pointer (some ⟨b, 0, none⟩)), .iface 135 (.pointer (some y))] w fun e w' => e = .returned (.bool true) ∧ w' = w := by
  obtain ⟨ti, hi, hcmp⟩ := Option.map_eq_some_iff.1 Tryd.isComp
  obtain ⟨j, hj, hjs⟩ := Option.map_eq_some_iff.1 Tryd.isSize
  have h1 := h.c1
  have hx := @run_callFunc_extern Tryd.prog 59 _ Extern.ReflectliteType.typeOf Tryd.func59 (by kernel_rfl) (by kernel_rfl) (by kernel_rfl) (by kernel_rfl)
  have hc := @run_callFunc_extern Tryd.prog 97 _ cmpE Tryd.func97 (by kernel_rfl) (by kernel_rfl) (by kernel_rfl) (by kernel_rfl)
  have tT := Tryd.isTypeOf
  have cT := Tryd.isComparable
  have mR := Tryd.isMethodComparable
  have nE := Tryd.noIsE
  have uE := Tryd.noUnwrapE
  have vE := Tryd.noUnwrapsE
  have nW := Tryd.noIsW
  have uW := Tryd.hasUnwrapW
  have mU := Tryd.methodUnwrap
  have heq := run_eql_iface_ptr_same (P := Tryd.prog) w y Tryd.underlying49 Tryd.underlying135 hi hcmp hj
  have hty := run_eql_iface_types (P := Tryd.prog) 78 135 (.pointer (some ⟨b, 0, none⟩)) (.pointer (some y)) Tryd.underlying49 (by decide) w
  go_enter Tryd.func45, Tryd.ntmps45
  go_wp2
  refine wp_loop_rounds 2 ?_
  rw [rounds_succ]
  go_wp2
  rw [rounds_succ]
  go_wp2
  go_ret
  exact ⟨rfl, rfl⟩

set_option maxHeartbeats 1000000 in
/-- errors.Is of a fault and another error than the one that it wraps. -/
theorem is_other (b : Nat) (i : Int) (x y : Addr) (cx cy : Array Value) (tx ty : TypeId) (w : World) (h : Flt w b i (.iface 135 (.pointer (some x)))) (hne : x ≠ y) (ha : w.heap[x.block]? = some (.cells cx tx (0, 0))) (hb : w.heap[y.block]? = some (.cells cy ty (0, 0))) :
    Calls Tryd.prog 45 #[.iface 78 (.pointer (some ⟨b, 0, none⟩)), .iface 135 (.pointer (some y))] w fun e w' => e = .returned (.bool false) ∧ w' = w := by
  obtain ⟨ti, hi, hcmp⟩ := Option.map_eq_some_iff.1 Tryd.isComp
  obtain ⟨j, hj, hjs⟩ := Option.map_eq_some_iff.1 Tryd.isSize
  have h1 := h.c1
  have hx := @run_callFunc_extern Tryd.prog 59 _ Extern.ReflectliteType.typeOf Tryd.func59 (by kernel_rfl) (by kernel_rfl) (by kernel_rfl) (by kernel_rfl)
  have hc := @run_callFunc_extern Tryd.prog 97 _ cmpE Tryd.func97 (by kernel_rfl) (by kernel_rfl) (by kernel_rfl) (by kernel_rfl)
  have tT := Tryd.isTypeOf
  have cT := Tryd.isComparable
  have mR := Tryd.isMethodComparable
  have nE := Tryd.noIsE
  have uE := Tryd.noUnwrapE
  have vE := Tryd.noUnwrapsE
  have nW := Tryd.noIsW
  have uW := Tryd.hasUnwrapW
  have mU := Tryd.methodUnwrap
  have heq := run_eql_iface_ptr_other (P := Tryd.prog) w Tryd.underlying49 Tryd.underlying135 hi hcmp hj (by rw [hjs]; decide) hne ha hb
  have hty := run_eql_iface_types (P := Tryd.prog) 78 135 (.pointer (some ⟨b, 0, none⟩)) (.pointer (some y)) Tryd.underlying49 (by decide) w
  go_enter Tryd.func45, Tryd.ntmps45
  go_wp2
  refine wp_loop_rounds 2 ?_
  rw [rounds_succ]
  go_wp2
  rw [rounds_succ]
  go_wp2
  go_ret
  exact ⟨rfl, rfl⟩
end Go.Proofs.YthjnhfcncinhiaaDoor
/-
  The program's codeOf: which code an error is.
-/
namespace Go.Proofs.YthjnhfcncinhiaaDoor
open Go.RowKit

/-- The four errors lie as the program's text lays them: each in a block of its own. -/
structure ErrV (eh en ee em : Addr) (w : World) : Prop where
  ch : w.cell? ⟨2, 0, none⟩ = some (.iface 135 (.pointer (some eh)))
  cn : w.cell? ⟨3, 0, none⟩ = some (.iface 135 (.pointer (some en)))
  ce : w.cell? ⟨4, 0, none⟩ = some (.iface 135 (.pointer (some ee)))
  cm : w.cell? ⟨1, 0, none⟩ = some (.iface 135 (.pointer (some em)))
  rh : ∃ c t, w.heap[eh.block]? = some (.cells c t (0, 0))
  rn : ∃ c t, w.heap[en.block]? = some (.cells c t (0, 0))
  re : ∃ c t, w.heap[ee.block]? = some (.cells c t (0, 0))
  rm : ∃ c t, w.heap[em.block]? = some (.cells c t (0, 0))
  hn : eh ≠ en
  he : eh ≠ ee
  hm : eh ≠ em
  ne : en ≠ ee
  nm : en ≠ em
  em_ : ee ≠ em

theorem row_fr {w w' : World} (k : Fr w w') {a : Nat} (h : ∃ c t, w.heap[a]? = some (.cells c t (0, 0))) : ∃ c t, w'.heap[a]? = some (.cells c t (0, 0)) := by
  obtain ⟨c, t, h⟩ := h
  exact ⟨c, t, (k.block a (Array.getElem?_eq_some_iff.1 h).1 (by simp)).trans h⟩
theorem ErrV.fr {eh en ee em : Addr} {w w' : World} (h : ErrV eh en ee em w) (k : Fr w w') : ErrV eh en ee em w' :=
  ⟨k.cell h.ch, k.cell h.cn, k.cell h.ce, k.cell h.cm, row_fr k h.rh, row_fr k h.rn, row_fr k h.re, row_fr k h.rm, h.hn, h.he, h.hm, h.ne, h.nm, h.em_⟩

theorem code_nil (w : World) : Calls Tryd.prog 24 #[.nilIface] w fun e w' => e = .returned (.int .i64 0) ∧ w' = w := by
  go_enter Tryd.func24, Tryd.ntmps24
  go_wp2
  go_ret
  exact ⟨rfl, rfl⟩

/-- The code of a fault, by the error that it wraps. -/
def isCode (eh en ee em y : Addr) (c : Int) : Prop := (y = eh ∧ c = 1) ∨ (y = en ∧ c = 2) ∨ (y = ee ∧ c = 3) ∨ (y = em ∧ c = 4)

set_option maxHeartbeats 1000000 in
theorem code_any (eh en ee em y : Addr) (b : Nat) (i c : Int) (w : World) (hv : ErrV eh en ee em w) (h : Flt w b i (.iface 135 (.pointer (some y)))) (hc : isCode eh en ee em y c) :
    Calls Tryd.prog 24 #[.iface 78 (.pointer (some ⟨b, 0, none⟩))] w fun e w' => e = .returned (.int .i64 c) ∧ w' = w := by
  have ch := hv.ch
  have cn := hv.cn
  have ce := hv.ce
  obtain ⟨ca, ta, ra⟩ := hv.rh
  obtain ⟨cb, tb, rb⟩ := hv.rn
  obtain ⟨cc, tc, rc⟩ := hv.re
  obtain ⟨cd, td, rd⟩ := hv.rm
  rcases hc with ⟨rfl, rfl⟩ | ⟨rfl, rfl⟩ | ⟨rfl, rfl⟩ | ⟨rfl, rfl⟩
  · go_enter Tryd.func24, Tryd.ntmps24
    go_wp2_with fail
    refine (is_same b i y w h).mono ?_
    rintro e w1 ⟨rfl, rfl⟩
    go_wp2_with fail
    go_ret
    exact ⟨rfl, rfl⟩
  · have i1 := is_other b i y eh _ _ _ _ w h (Ne.symm hv.hn) rb ra
    go_enter Tryd.func24, Tryd.ntmps24
    go_wp2_with fail
    refine (i1).mono ?_
    rintro e w1 ⟨rfl, rfl⟩
    go_wp2_with fail
    refine (is_same b i y _ h).mono ?_
    rintro e w2 ⟨rfl, rfl⟩
    go_wp2_with fail
    go_ret
    exact ⟨rfl, rfl⟩
  · have i1 := is_other b i y eh _ _ _ _ w h (Ne.symm hv.he) rc ra
    have i2 := is_other b i y en _ _ _ _ w h (Ne.symm hv.ne) rc rb
    go_enter Tryd.func24, Tryd.ntmps24
    go_wp2_with fail
    refine (i1).mono ?_
    rintro e w1 ⟨rfl, rfl⟩
    go_wp2_with fail
    refine (i2).mono ?_
    rintro e w2 ⟨rfl, rfl⟩
    go_wp2_with fail
    refine (is_same b i y _ h).mono ?_
    rintro e w3 ⟨rfl, rfl⟩
    go_wp2_with fail
    go_ret
    exact ⟨rfl, rfl⟩
  · have i1 := is_other b i y eh _ _ _ _ w h (Ne.symm hv.hm) rd ra
    have i2 := is_other b i y en _ _ _ _ w h (Ne.symm hv.nm) rd rb
    have i3 := is_other b i y ee _ _ _ _ w h (Ne.symm hv.em_) rd rc
    go_enter Tryd.func24, Tryd.ntmps24
    go_wp2_with fail
    refine (i1).mono ?_
    rintro e w1 ⟨rfl, rfl⟩
    go_wp2_with fail
    refine (i2).mono ?_
    rintro e w2 ⟨rfl, rfl⟩
    go_wp2_with fail
    refine (i3).mono ?_
    rintro e w3 ⟨rfl, rfl⟩
    go_wp2_with fail
    go_ret
    exact ⟨rfl, rfl⟩
end Go.Proofs.YthjnhfcncinhiaaDoor
/-
  What a call of a law finds in the program's table and its four errors, as the program's text lays them.
-/
namespace Go.Proofs.YthjnhfcncinhiaaDoor
open Go.ChangeShapes Go.WideShapes Go.ChangeAt Go.RowKit

theorem laid_skip {P : Program} {x y : String × DataW Unit} {r : List (String × DataW Unit)} {w : World} (h : laidMet P (x :: y :: r) w) : laidMet P (x :: r) w := by
  obtain ⟨ps, hv, hnd, hrows⟩ := h
  obtain ⟨n, d⟩ := x
  obtain ⟨n', d'⟩ := y
  obtain ⟨g, t, cs, fuel, p, q, h1, h2, h3, h4, ⟨g', t', cs', fuel', p', q', _, _, _, _, hq', rfl⟩, rfl⟩ := hv
  refine ⟨MemPlace.row ⟨g, 0, none⟩ cs.size ++ p ++ q', ⟨g, t, cs, fuel, p, q', h1, h2, h3, h4, hq', rfl⟩, ?_, fun b off hm => hrows b off ?_⟩
  · exact List.Nodup.sublist (List.Sublist.append (List.Sublist.refl _) (List.sublist_append_right _ _)) hnd
  · rcases List.mem_append.1 hm with hm | hm
    · exact List.mem_append_left _ hm
    · exact List.mem_append_right _ (List.mem_append_right _ hm)

/-- Two errors of the laid list. -/
theorem two_of {W : World} {n0 n1 : String} {t0 t1 : List UInt8} {r : List (String × DataW Unit)} {g0 g1 : Nat}
    (h : laidMet Tryd.prog ((n0, .iface "*errors.errorString" (.ptr (.agg [.lit (.string t0)]))) :: (n1, .iface "*errors.errorString" (.ptr (.agg [.lit (.string t1)]))) :: r) W)
    (hg0 : Tryd.prog.globalNamed n0 = some g0) (ht0 : (Tryd.prog.globals[g0]?).map (·.type) = some 49) (hg1 : Tryd.prog.globalNamed n1 = some g1) (ht1 : (Tryd.prog.globals[g1]?).map (·.type) = some 49) :
    ∃ a0 a1 : Addr, W.cell? ⟨g0, 0, none⟩ = some (.iface 135 (.pointer (some a0))) ∧ W.cell? ⟨g1, 0, none⟩ = some (.iface 135 (.pointer (some a1))) ∧ a0 ≠ a1 ∧ (∃ c t, W.heap[a0.block]? = some (.cells c t (0, 0))) ∧ (∃ c t, W.heap[a1.block]? = some (.cells c t (0, 0))) := by
  obtain ⟨a0, a1, s0, s1, c0, c1, u0, u1, hv0, hv1, -, -, -, -, -, -, hne, hb0, hb1⟩ := laid_sentinels2 h hg0 ht0 hg1 ht1 Tryd.underlying49 Tryd.rowErr Tryd.underlying135 Tryd.underlying161 rfl rfl Tryd.underlying9 Tryd.cellsErr Tryd.cellsStr
  exact ⟨a0, a1, by simpa using World.var?_cell hg0 hv0 0, by simpa using World.var?_cell hg1 hv1 0, hne, ⟨c0, u0, hb0⟩, ⟨c1, u1, hb1⟩⟩

theorem same_err {W : World} {g : Nat} {a b : Addr} (h : W.cell? ⟨g, 0, none⟩ = some (.iface 135 (.pointer (some a)))) (h' : W.cell? ⟨g, 0, none⟩ = some (.iface 135 (.pointer (some b)))) : a = b := by
  rw [h] at h'
  simpa using h'

/-- The laid list of the laws on traces. -/
def laidAll : List (String × DataW Unit) := [("loop.example/g00720/impl.shapes", Rows.laid_loop_example_g00720_impl_shapes), ("loop.example/g00720/impl.errHeader", Rows.laid_loop_example_g00720_impl_errHeader), ("loop.example/g00720/impl.errNumber", Rows.laid_loop_example_g00720_impl_errNumber), ("loop.example/g00720/impl.errEvent", Rows.laid_loop_example_g00720_impl_errEvent), ("loop.example/g00720/impl.errMany", Rows.laid_loop_example_g00720_impl_errMany)]
theorem laidAll_plain (W : World) : laidMetH Tryd.prog laidAll W = laidMet Tryd.prog laidAll W := rfl

theorem all_of {W : World} (h : laidMetH Tryd.prog laidAll W) : Shapes W ∧ ∃ eh en ee em, ErrV eh en ee em W := by
  rw [laidAll_plain] at h
  have hsh : Shapes W := by
    obtain ⟨ps, hl, -⟩ := h
    exact shapes_of hl
  refine ⟨hsh, ?_⟩
  have t1 := h.tail
  obtain ⟨eh, en, ch, cn, hn, rh, rn⟩ := two_of t1 Tryd.gH Tryd.tH Tryd.gN Tryd.tN
  have t2 := t1.tail
  obtain ⟨en', ee, cn', ce, ne, -, re⟩ := two_of t2 Tryd.gN Tryd.tN Tryd.gE Tryd.tE
  have t3 := t2.tail
  obtain ⟨ee', em, ce', cm, em_, -, rm⟩ := two_of t3 Tryd.gE Tryd.tE Tryd.gM Tryd.tM
  obtain ⟨eh2, ee2, ch2, ce2, he, -, -⟩ := two_of (laid_skip t1) Tryd.gH Tryd.tH Tryd.gE Tryd.tE
  obtain ⟨eh3, em3, ch3, cm3, hm, -, -⟩ := two_of (laid_skip (laid_skip t1)) Tryd.gH Tryd.tH Tryd.gM Tryd.tM
  obtain ⟨en3, em4, cn3, cm4, nm, -, -⟩ := two_of (laid_skip t2) Tryd.gN Tryd.tN Tryd.gM Tryd.tM
  obtain rfl := same_err cn cn'
  obtain rfl := same_err ce ce'
  obtain rfl := same_err ch ch2
  obtain rfl := same_err ce ce2
  obtain rfl := same_err ch ch3
  obtain rfl := same_err cm cm3
  obtain rfl := same_err cn cn3
  obtain rfl := same_err cm cm4
  exact ⟨eh, en, ee, em, ch, cn, ce, cm, rh, rn, re, rm, hn, he, hm, ne, nm, em_⟩
end Go.Proofs.YthjnhfcncinhiaaDoor
/-
  'append' on a slice of int64 that the call owns.
-/
namespace Go.Proofs.YthjnhfcncinhiaaDoor
open Go.RowKit

/-- A slice that a call owns, not nil: it begins at the head of a block from base on. -/
def OwnS (w : World) (base : Nat) (v : Value) (xs : List Int) : Prop :=
  ∃ g cap, v = .slice (some ⟨g, 0, none⟩) xs.length cap ∧ OwnI w base (.slice (some ⟨g, 0, none⟩) xs.length cap) xs

theorem OwnI.keep {w w' : World} {base : Nat} {v : Value} {xs : List Int} {row : Option Nat} (h : OwnI w base v xs) (k : w.grownBy w' row) (hne : v.ownBlock = none ∨ v.ownBlock ≠ row) : OwnI w' base v xs :=
  ⟨h.1.kept k hne, h.2⟩
theorem OwnI.fr {w w' : World} {base : Nat} {v : Value} {xs : List Int} (h : OwnI w base v xs) (k : Fr w w') : OwnI w' base v xs :=
  h.keep k (by cases v.ownBlock <;> simp)
theorem OwnS.keep {w w' : World} {base : Nat} {v : Value} {xs : List Int} {row : Option Nat} (h : OwnS w base v xs) (k : w.grownBy w' row) (hne : v.ownBlock ≠ row) : OwnS w' base v xs := by
  obtain ⟨g, cap, rfl, ho⟩ := h
  exact ⟨g, cap, rfl, ho.keep k (.inr hne)⟩
theorem OwnS.fr {w w' : World} {base : Nat} {v : Value} {xs : List Int} (h : OwnS w base v xs) (k : Fr w w') : OwnS w' base v xs := by
  obtain ⟨g, cap, rfl, ho⟩ := h
  exact ⟨g, cap, rfl, ho.fr k⟩
theorem OwnI.lower {w : World} {base base' : Nat} {v : Value} {xs : List Int} (h : OwnI w base v xs) (hb : base' ≤ base) : OwnI w base' v xs := by
  refine ⟨⟨h.1.1, ?_⟩, h.2⟩
  rcases h.1.2 with e | ⟨g, cap, cur, e, hg, r⟩
  · exact .inl e
  · exact .inr ⟨g, cap, cur, e, by omega, r⟩
theorem OwnS.lower {w : World} {base base' : Nat} {v : Value} {xs : List Int} (h : OwnS w base v xs) (hb : base' ≤ base) : OwnS w base' v xs := by
  obtain ⟨g, cap, rfl, ho⟩ := h
  exact ⟨g, cap, rfl, ho.lower hb⟩
theorem OwnS.blk {w : World} {base : Nat} {v : Value} {xs : List Int} (h : OwnS w base v xs) : ∀ j, v.ownBlock = some j → base ≤ j := by
  obtain ⟨g, cap, rfl, ho⟩ := h
  intro j hj
  exact (ho.1.lt j hj).1
theorem OwnS.len {w : World} {base : Nat} {v : Value} {xs : List Int} (h : OwnS w base v xs) : xs.length ≤ 4294967296 := by
  obtain ⟨g, cap, rfl, ho⟩ := h
  exact ho.2.1

/-- '[]int64{}' -/
theorem own_empty (w : World) (base : Nat) (hb : base ≤ w.heap.size) : OwnS (w.alloc (.cells #[] 2)) base (.slice (some ⟨w.heap.size, 0, none⟩) 0 0) [] :=
  ⟨w.heap.size, 0, rfl, World.ownsRow_made w #[] 0 hb (by unfold maxLen; omega) rfl, by simp, by simp⟩

/-- The one new element of 'append(l, x)' lies in a block of its own. -/
theorem reads_one (w : World) (x : Int) (h : I64 x) : Reads (w.alloc (.cells #[.int .i64 x] 2)) (some ⟨w.heap.size, 0, none⟩) [x] := by
  refine ⟨by simp, by simpa using h, fun i _ => ⟨w.heap.size, 0, rfl, fun j hj => ?_⟩⟩
  have : j = 0 := by simpa using hj
  subst this
  rw [cell_of_row _ _ _ _ _ _ (heap_alloc_new w _)]
  rfl

theorem shape_of {w : World} {base : Nat} {v : Value} {xs : List Int} (h : w.ownsRow base 2 1 v xs.length (xs.map (Value.int .i64))) (hn : v ≠ .slice none 0 0) (hl : xs.length ≤ 4294967296) (hb : ∀ x ∈ xs, I64 x) : OwnS w base v xs := by
  rcases h.2 with ⟨e, _⟩ | ⟨g, cap, cur, e, r⟩
  · exact absurd e hn
  · subst e; exact ⟨g, cap, rfl, h, hl, hb⟩

theorem appI (w : World) {ops : Array Oper} {rest : List Oper} {o : Oper} {a : Act} {Q : Exit → Act → World → Prop} (hgd : o.guard = none) (s x : Operand)
    (ho : o.op = .call { callee := .builtin .append, args := #[s, x], argTypes := #[60, 60] })
    (base : Nat) (v : Value) (xs news : List Int) (hs : a.eval s = v) (hown : OwnS w base v xs)
    (ao : Option Addr) (m c : Nat) (hx : a.eval x = .slice ao m c) (hm : news.length = m) (hc : ao = none → c = 0) (hnews : Reads w ao news)
    (hlen : xs.length + news.length ≤ 4294967296) (hbase : base ≤ w.heap.size)
    (h : ∀ v' w', OwnS w' base v' (xs ++ news) → w.grownBy w' v.ownBlock → wpList Tryd.prog ops Q rest (a.put o.dst v') w') : wpList Tryd.prog ops Q (o :: rest) a w := by
  obtain ⟨i0, hi, hz0, hz1, hz2⟩ := info_parts Tryd.info2
  subst hm
  have hbd : ∀ x ∈ xs ++ news, I64 x := by
    obtain ⟨g, cap, rfl, ho⟩ := hown
    intro x hx
    rcases List.mem_append.1 hx with hx | hx
    · exact ho.2.2 x hx
    · exact hnews.bd x hx
  cases ao with
  | none =>
    have hnil : news = [] := by
      cases news with
      | nil => rfl
      | cons y ys => obtain ⟨b, off, e, _⟩ := hnews.at_ 0 (by simp); cases e
    subst hnil
    have := hc rfl
    subst this
    obtain ⟨g, cap, rfl, ho'⟩ := hown
    refine wpList_append_own_none hgd s x 60 ho base 2 i0 1 Tryd.underlying60 hi _ _ _ hs ho'.1 hx ?_
    refine h _ w ?_ ⟨rfl, rfl, rfl, Nat.le_refl _, fun _ _ _ => rfl⟩
    rw [List.append_nil]
    exact ⟨g, cap, rfl, ho'⟩
  | some ad =>
    have hcell : ∀ j u, (news.map (Value.int .i64))[j]? = some u → w.cell? (ad.add j) = some u := by
      intro j u hu
      have hj : j < news.length := by
        have := (List.getElem?_eq_some_iff.1 hu).1
        simpa using this
      obtain ⟨b, off, e, hcc⟩ := hnews.at_ j hj
      simp only [Option.some.injEq] at e
      subst e
      rw [Addr.add_lit, hcc j hj]
      rw [List.getElem?_map, List.getElem?_eq_getElem hj] at hu
      rw [getD_at hj]
      simpa using hu
    obtain ⟨g, cap, rfl, ho'⟩ := hown
    refine wpList_append_own w hgd s x 60 ho base 2 i0 (.int .i64 0) 1 8 Tryd.underlying60 hi hz0 hz1 hz2 rfl (by decide) _ _ _ hs ho'.1 ad news.length c (news.map (Value.int .i64)) hx (by simp) hcell (ints_oneCell _ _) (by unfold maxLen; omega) (by omega) hbase ?_
    intro v' w' hv hg hnz
    refine h v' w' (shape_of ?_ ?_ (by simp; omega) hbd) hg
    · simpa using hv
    · intro e
      have := (hnz.1 e).1
      simp at this

/-- Where the block of an owned slice lies. -/
theorem own_lt {w : World} {base g n cap : Nat} {xs : List Int} (h : OwnI w base (.slice (some ⟨g, 0, none⟩) n cap) xs) : base ≤ g ∧ g < w.heap.size := h.1.lt g rfl
theorem own_ne {g g' n cap : Nat} (h : g ≠ g') : (Value.slice (some ⟨g, 0, none⟩) n cap).ownBlock = none ∨ (Value.slice (some ⟨g, 0, none⟩) n cap).ownBlock ≠ some g' := .inr (by simpa [Value.ownBlock] using h)
theorem one_blk {a g : Nat} (h : a ≤ g) : ∀ j, some g = some j → a ≤ j := by
  intro j hj
  simp only [Option.some.injEq] at hj
  omega
end Go.Proofs.YthjnhfcncinhiaaDoor
/-
  Slices of structs in memory, whatever the struct: reading one, owning one, 'append' of one element.
-/
namespace Go.Proofs.YthjnhfcncinhiaaDoor
open Go.RowKit

/-- How an element lies: its type, its cells. -/
structure Lay (α : Type) where
  ty : Nat
  sz : Nat
  cs : α → List Value
  pos : 0 < sz
  len : ∀ x, (cs x).length = sz
  one : ∀ x, ∀ u ∈ cs x, u.oneCell' = true

/-- A slice at the address ao reads as the elements xs. -/
structure ReadsG {α : Type} (L : Lay α) (w : World) (ao : Option Addr) (xs : List α) : Prop where
  len : xs.length ≤ 16777216
  at_ : ∀ i, i < xs.length → ∃ b off, ao = some ⟨b, off, none⟩ ∧ ∀ j (hj : j < xs.length) k, k < L.sz → w.cell? ⟨b, off + j * L.sz + k, none⟩ = (L.cs xs[j])[k]?

theorem ReadsG.nil {α : Type} (L : Lay α) (w : World) (ao : Option Addr) : ReadsG L w ao [] := ⟨by simp, by simp⟩
theorem ReadsG.keep {α : Type} {L : Lay α} {w w' : World} {ao : Option Addr} {xs : List α} {row : Option Nat} (h : ReadsG L w ao xs) (k : w.grownBy w' row) (hne : row = none ∨ blk ao ≠ row) : ReadsG L w' ao xs := by
  refine ⟨h.len, fun i hi => ?_⟩
  obtain ⟨b, off, e, hc⟩ := h.at_ i hi
  refine ⟨b, off, e, fun j hj q hq => ?_⟩
  have h0 := hc j hj q hq
  have hlt : q < (L.cs xs[j]).length := by rw [L.len]; exact hq
  rw [List.getElem?_eq_getElem hlt] at h0 ⊢
  refine k.cell h0 ?_
  rcases hne with rfl | hne
  · simp
  · intro hh
    apply hne
    rw [e, ← hh]
    rfl
theorem ReadsG.fr {α : Type} {L : Lay α} {w w' : World} {ao : Option Addr} {xs : List α} (h : ReadsG L w ao xs) (k : Fr w w') : ReadsG L w' ao xs := h.keep k (.inl rfl)

theorem cellsG_at {α : Type} (L : Lay α) (xs : List α) (j k : Nat) (hj : j < xs.length) (hk : k < L.sz) : (xs.flatMap L.cs)[j * L.sz + k]? = (L.cs xs[j])[k]? := by
  induction xs generalizing j with
  | nil => simp at hj
  | cons e es ih =>
    have h8 := L.len e
    cases j with
    | zero => rw [List.flatMap_cons, Nat.zero_mul, Nat.zero_add, List.getElem?_append_left (by omega)]; rfl
    | succ j =>
      have e1 : (j + 1) * L.sz + k - L.sz = j * L.sz + k := by rw [Nat.succ_mul]; omega
      rw [List.flatMap_cons, List.getElem?_append_right (by rw [Nat.succ_mul]; omega), h8, e1, ih j (by simpa using hj)]
      rfl

/-- The slice of the elements xs that a call owns: it begins at the head of a block from base on. -/
def OwnG {α : Type} (L : Lay α) (w : World) (base : Nat) (v : Value) (xs : List α) : Prop :=
  ∃ g cap, v = .slice (some ⟨g, 0, none⟩) xs.length cap ∧ w.ownsRow base L.ty L.sz (.slice (some ⟨g, 0, none⟩) xs.length cap) xs.length (xs.flatMap L.cs) ∧ xs.length ≤ 16777216

theorem own_readsG {α : Type} {L : Lay α} {w : World} {base g cap : Nat} {xs : List α} (h : w.ownsRow base L.ty L.sz (.slice (some ⟨g, 0, none⟩) xs.length cap) xs.length (xs.flatMap L.cs)) (hl : xs.length ≤ 16777216) : ReadsG L w (some ⟨g, 0, none⟩) xs := by
  refine ⟨hl, fun i hi => ⟨g, 0, rfl, fun j hj k hk => ?_⟩⟩
  have hm : (j + 1) * L.sz ≤ xs.length * L.sz := Nat.mul_le_mul_right _ hj
  rw [Nat.succ_mul] at hm
  have := h.cellAt (j * L.sz + k) (by omega)
  rw [Nat.zero_add, this, cellsG_at L xs j k hj hk]
theorem OwnG.keep {α : Type} {L : Lay α} {w w' : World} {base : Nat} {v : Value} {xs : List α} {row : Option Nat} (h : OwnG L w base v xs) (k : w.grownBy w' row) (hne : v.ownBlock ≠ row) : OwnG L w' base v xs := by
  obtain ⟨g, cap, rfl, ho, hl⟩ := h
  exact ⟨g, cap, rfl, ho.kept k (.inr hne), hl⟩
theorem OwnG.fr {α : Type} {L : Lay α} {w w' : World} {base : Nat} {v : Value} {xs : List α} (h : OwnG L w base v xs) (k : Fr w w') : OwnG L w' base v xs := by
  obtain ⟨g, cap, rfl, ho, hl⟩ := h
  exact ⟨g, cap, rfl, ho.kept k (by simp [Value.ownBlock]), hl⟩
theorem OwnG.blk {α : Type} {L : Lay α} {w : World} {base : Nat} {v : Value} {xs : List α} (h : OwnG L w base v xs) : ∀ j, v.ownBlock = some j → base ≤ j := by
  obtain ⟨g, cap, rfl, ho, hl⟩ := h
  intro j hj
  exact (ho.lt j hj).1
theorem OwnG.lt {α : Type} {L : Lay α} {w : World} {base : Nat} {v : Value} {xs : List α} (h : OwnG L w base v xs) : ∀ j, v.ownBlock = some j → j < w.heap.size := by
  obtain ⟨g, cap, rfl, ho, hl⟩ := h
  intro j hj
  exact (ho.lt j hj).2
theorem OwnG.lower {α : Type} {L : Lay α} {w : World} {base base' : Nat} {v : Value} {xs : List α} (h : OwnG L w base v xs) (hb : base' ≤ base) : OwnG L w base' v xs := by
  obtain ⟨g, cap, rfl, ho, hl⟩ := h
  refine ⟨g, cap, rfl, ⟨ho.1, ?_⟩, hl⟩
  rcases ho.2 with e | ⟨g, cap, cur, e, hg, r⟩
  · exact .inl e
  · exact .inr ⟨g, cap, cur, e, by omega, r⟩
theorem ownG_new {α : Type} (L : Lay α) (w : World) (base : Nat) (hb : base ≤ w.heap.size) : OwnG L (w.alloc (.cells #[] L.ty)) base (.slice (some ⟨w.heap.size, 0, none⟩) 0 0) [] :=
  ⟨w.heap.size, 0, rfl, ⟨by simp, .inr ⟨w.heap.size, 0, #[], rfl, hb, heap_alloc_new w _, Nat.le_refl _, by unfold maxLen; omega, by simp, by simp⟩⟩, by simp⟩

theorem appG {α : Type} (L : Lay α) (w : World) {ops : Array Oper} {rest : List Oper} {o : Oper} {a : Act} {Q : Exit → Act → World → Prop} (hgd : o.guard = none) (s x : Operand) (T : TypeId) (z : Value) (bytes : Nat)
    (ho : o.op = .call { callee := .builtin .append, args := #[s, x], argTypes := #[T, T] })
    (hT : Tryd.prog.underlying T = some (.slice L.ty)) (hI : (Tryd.prog.info? L.ty).map (fun i => (i.zero, i.size, i.bytes)) = some (some z, L.sz, bytes)) (hzs : z.cells.size = L.sz) (hby : bytes ≤ 1000)
    (base : Nat) (v : Value) (xs : List α) (e : α) (hs : a.eval s = v) (hown : OwnG L w base v xs)
    (b : Nat) (c : Nat) (hx : a.eval x = .slice (some ⟨b, 0, none⟩) 1 c) (hnew : ∀ k, k < L.sz → w.cell? ⟨b, k, none⟩ = (L.cs e)[k]?)
    (hlen : xs.length ≤ 16777215) (hbase : base ≤ w.heap.size)
    (h : ∀ v' w', OwnG L w' base v' (xs ++ [e]) → w.grownBy w' v.ownBlock → (v'.ownBlock = v.ownBlock ∨ v'.ownBlock = some w.heap.size) → wpList Tryd.prog ops Q rest (a.put o.dst v') w') : wpList Tryd.prog ops Q (o :: rest) a w := by
  obtain ⟨i0, hi, hz0, hz1, hz2⟩ := info_parts hI
  obtain ⟨g, cap, rfl, ho', hl⟩ := hown
  have hb : (xs.length + 1) * bytes ≤ 140737488355328 := by
    have := Nat.mul_le_mul (show xs.length + 1 ≤ 16777216 by omega) hby
    omega
  refine wpList_append_own_at w hgd s x T ho base L.ty i0 z L.sz bytes hT hi hz0 hz1 hz2 hzs L.pos _ _ _ hs ho' ⟨b, 0, none⟩ 1 c (L.cs e) hx (by rw [L.len, Nat.one_mul]) ?_ (L.one e) (by unfold maxLen; omega) hb hbase ?_
  · intro j u hu
    rw [Addr.add_lit]
    have hj : j < L.sz := by
      have := (List.getElem?_eq_some_iff.1 hu).1
      rwa [L.len] at this
    rw [Nat.zero_add, hnew j hj, hu]
  · intro v' w' hv hg hnz hat
    refine h v' w' ?_ hg hat
    rcases hv.2 with ⟨e', _⟩ | ⟨g', cap', cur, e', r⟩
    · have := (hnz.1 e').1
      simp at this
    · subst e'
      exact ⟨g', cap', by simp, by simpa [List.flatMap_append] using hv, by simp; omega⟩
end Go.Proofs.YthjnhfcncinhiaaDoor
