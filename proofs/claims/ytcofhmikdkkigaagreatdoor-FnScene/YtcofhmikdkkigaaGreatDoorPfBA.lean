/-
  Pack BA: Num, Dec, LikeSc.
-/
import Derived.Test.YtcofhmikdkkigaaGreatDoorPfAY
import Derived.Test.YtcofhmikdkkigaaGreatDoorPfAE
import Derived.Test.YtcofhmikdkkigaaGreatDoorPfAN
import Derived.BigQuiet
import Derived.Deep.Cut
namespace Go.Proofs.YtcofhmikdkkigaaGreatDoor
open Go.RowKit

def putF : Nat → Int → List Int
  | 0, n => [n]
  | f + 1, n => if n < 128 then [n] else (n % 128 + 128) :: putF f (n / 128)

def rdG (bs : List Int) (s : Nat) : Nat → Nat → Int → Int → Option (Int × Nat)
  | 0, _, _, _ => none
  | f + 1, p, u, acc => match bs[p]? with
    | none => none
    | some b => if 128 ≤ b then rdG bs s f (p + 1) (u * 128) (acc + (b - 128) * u) else if b = 0 ∧ s < p then none else some (acc + b * u, p + 1)

def putL (n : Int) : List Int := putF 5 n
def rdN (bs : List Int) (p : Nat) : Option (Int × Nat) := rdG bs p 6 p 1 0

theorem putF_small {f : Nat} {n : Int} (h : n < 128) : putF f n = [n] := by
  cases f with
  | zero => rfl
  | succ f => rw [putF, if_pos h]
theorem putF_big {f : Nat} {n : Int} (h : ¬ n < 128) : putF (f + 1) n = (n % 128 + 128) :: putF f (n / 128) := by rw [putF, if_neg h]
theorem putF_ne (f : Nat) (n : Int) : putF f n ≠ [] := by
  cases f with
  | zero => simp [putF]
  | succ f => by_cases h : n < 128 <;> simp [putF, h]
theorem putF_len (f : Nat) (n : Int) : 1 ≤ (putF f n).length ∧ (putF f n).length ≤ f + 1 := by
  induction f generalizing n with
  | zero => simp [putF]
  | succ f ih =>
    by_cases h : n < 128
    · rw [putF_small h]; simp
    · rw [putF_big h]; have := ih (n / 128); simp; omega
theorem putF_u8 (f : Nat) (n : Int) (h0 : 0 ≤ n) (h1 : n < 128 ^ (f + 1)) : ∀ x ∈ putF f n, U8 x := by
  induction f generalizing n with
  | zero => intro x hx; simp [putF] at hx; subst hx; exact ⟨by omega, by omega⟩
  | succ f ih =>
    by_cases h : n < 128
    · rw [putF_small h]; intro x hx; simp at hx; subst hx; exact ⟨by omega, by omega⟩
    · rw [putF_big h]
      intro x hx
      rcases List.mem_cons.1 hx with rfl | hx
      · exact ⟨by omega, by omega⟩
      · refine ih (n / 128) (by omega) ?_ x hx
        rw [Int.pow_succ] at h1
        omega

theorem getElem?_drop0 {bs : List Int} {p : Nat} {x : Int} {l : List Int} (h : bs.drop p = x :: l) : bs[p]? = some x ∧ bs.drop (p + 1) = l := by
  have h0 := congrArg (fun l => l[0]?) h
  simp at h0
  refine ⟨h0, ?_⟩
  have := congrArg (List.drop 1) h
  simpa using this

theorem rd_put (bs : List Int) (s : Nat) (rest : List Int) (f : Nat) (n u acc : Int) (p : Nat) (h0 : 0 ≤ n) (h1 : n < 128 ^ (f + 1)) (hb : bs.drop p = putF f n ++ rest) (hs : s < p → 0 < n) :
    rdG bs s (f + 1) p u acc = some (acc + n * u, p + (putF f n).length) := by
  have small : n < 128 → rdG bs s (f + 1) p u acc = some (acc + n * u, p + (putF f n).length) := by
    intro h
    rw [putF_small h] at hb ⊢
    obtain ⟨e, -⟩ := getElem?_drop0 hb
    simp only [rdG, e]
    rw [if_neg (by omega), if_neg (by omega)]
    rfl
  induction f generalizing n u acc p with
  | zero => exact small (by simpa using h1)
  | succ f ih =>
    by_cases h : n < 128
    · exact small h
    · rw [putF_big h] at hb ⊢
      obtain ⟨e, e2⟩ := getElem?_drop0 (l := putF f (n / 128) ++ rest) hb
      have h2 : n / 128 < 128 ^ (f + 1) := by rw [Int.pow_succ] at h1; omega
      have step := ih (n / 128) (u * 128) (acc + (n % 128 + 128 - 128) * u) (p + 1) (by omega) h2 e2 (by omega) (by
        intro h
        rw [putF_small h] at e2 ⊢
        obtain ⟨e, -⟩ := getElem?_drop0 e2
        simp only [rdG, e]
        rw [if_neg (by omega), if_neg (by omega)]
        rfl)
      rw [rdG, e]
      simp only []
      rw [if_pos (by omega), step]
      have e3 : acc + (n % 128 + 128 - 128) * u + n / 128 * (u * 128) = acc + n * u := by
        have hn : n = n % 128 + 128 * (n / 128) := by omega
        have : n % 128 + 128 - 128 = n % 128 := by omega
        rw [this]
        conv => rhs; rw [hn]
        rw [Int.add_mul, Int.mul_comm u 128, ← Int.mul_assoc, Int.mul_comm (n / 128) 128, Int.add_assoc]
      rw [e3]
      simp
      omega

theorem rd_cut (bs : List Int) (s : Nat) (f : Nat) (n u acc : Int) (p : Nat) (h0 : 0 ≤ n) (hb : bs.drop p = (putF f n).dropLast) : rdG bs s (f + 1) p u acc = none := by
  induction f generalizing n u acc p with
  | zero =>
    simp [putF] at hb
    simp only [rdG]
    rw [List.getElem?_eq_none (by omega)]
  | succ f ih =>
    by_cases h : n < 128
    · rw [putF_small h] at hb
      simp at hb
      rw [rdG, List.getElem?_eq_none (by omega)]
    · rw [putF_big h, List.dropLast_cons_of_ne_nil (putF_ne _ _)] at hb
      obtain ⟨e, e2⟩ := getElem?_drop0 hb
      rw [rdG, e]
      simp only []
      rw [if_pos (by omega)]
      exact ih (n / 128) _ _ (p + 1) (by omega) e2

theorem put_rd (bs : List Int) (s : Nat) (hu : ∀ x ∈ bs, U8 x) (f : Nat) (u acc : Int) (p : Nat) (m : Int) (q : Nat) (hsp : s ≤ p) (h : rdG bs s (f + 1) p u acc = some (m, q)) :
    ∃ n, 0 ≤ n ∧ n < 128 ^ (f + 1) ∧ m = acc + n * u ∧ q = p + (putF f n).length ∧ bs.drop p = putF f n ++ bs.drop q ∧ (s < p → 0 < n) := by
  induction f generalizing u acc p with
  | zero =>
    rw [rdG] at h
    cases e : bs[p]? with
    | none => rw [e] at h; cases h
    | some b =>
      have hb := hu b (List.mem_of_getElem? e)
      have hl := (List.getElem?_eq_some_iff.1 e)
      obtain ⟨hl, hv⟩ := hl
      rw [e] at h
      simp only at h
      by_cases h1 : 128 ≤ b
      · rw [if_pos h1, rdG] at h; cases h
      · rw [if_neg h1] at h
        by_cases h2 : b = 0 ∧ s < p
        · rw [if_pos h2] at h; cases h
        · rw [if_neg h2] at h
          simp only [Option.some.injEq, Prod.mk.injEq] at h
          refine ⟨b, hb.1, by simpa using (by omega : b < 128), h.1.symm, by simp [putF]; omega, ?_, fun hs => ?_⟩
          · rw [List.drop_eq_getElem_cons hl, hv, ← h.2]; rfl
          · have : b ≠ 0 := fun h0 => h2 ⟨h0, hs⟩
            have := hb.1
            omega
  | succ f ih =>
    rw [rdG] at h
    cases e : bs[p]? with
    | none => rw [e] at h; cases h
    | some b =>
      have hb := hu b (List.mem_of_getElem? e)
      obtain ⟨hl, hv⟩ := List.getElem?_eq_some_iff.1 e
      obtain ⟨hb0, hb1⟩ := hb
      rw [e] at h
      simp only at h
      by_cases h1 : 128 ≤ b
      · rw [if_pos h1] at h
        obtain ⟨n, n0, n1, hm, hq, hd, hs⟩ := ih _ _ _ (by omega) h
        have hn : 0 < n := hs (by omega)
        refine ⟨128 * n + (b - 128), by omega, ?_, ?_, ?_, ?_, fun _ => by omega⟩
        · rw [Int.pow_succ]; omega
        · rw [hm, Int.add_mul, Int.mul_comm u 128, ← Int.mul_assoc, Int.mul_comm n 128]; omega
        · rw [putF_big (by omega), hq]
          have : (128 * n + (b - 128)) / 128 = n := by omega
          rw [this]; simp; omega
        · rw [putF_big (by omega)]
          have e1 : (128 * n + (b - 128)) / 128 = n := by omega
          have e2 : (128 * n + (b - 128)) % 128 + 128 = b := by omega
          rw [e1, e2, List.drop_eq_getElem_cons hl, hv, hd]
          rfl
      · rw [if_neg h1] at h
        by_cases h2 : b = 0 ∧ s < p
        · rw [if_pos h2] at h; cases h
        · rw [if_neg h2] at h
          simp only [Option.some.injEq, Prod.mk.injEq] at h
          refine ⟨b, hb0, ?_, h.1.symm, by rw [putF_small (by omega)]; simp; omega, ?_, fun hs => ?_⟩
          · have := Int.pow_pos (n := 128) (m := f + 1) (by omega)
            rw [Int.pow_succ]; omega
          · rw [putF_small (by omega), List.drop_eq_getElem_cons hl, hv, ← h.2]; rfl
          · have : b ≠ 0 := fun h0 => h2 ⟨h0, hs⟩
            omega
end Go.Proofs.YtcofhmikdkkigaaGreatDoor
namespace Go.Proofs.YtcofhmikdkkigaaGreatDoor
open Go.RowKit

def Ev.at (e : Ev) (i : Nat) : Int := [e.k, e.g, e.o, e.w, e.l, e.s, e.f, e.t].getD i 0
def Ev.put (e : Ev) (i : Nat) (x : Int) : Ev :=
  match i with
  | 0 => { e with k := x }
  | 1 => { e with g := x }
  | 2 => { e with o := x }
  | 3 => { e with w := x }
  | 4 => { e with l := x }
  | 5 => { e with s := x }
  | 6 => { e with f := x }
  | 7 => { e with t := x }
  | _ => e
def offF (k : Int) (i : Nat) : List Nat := ((List.range' i (6 - i)).filter fun j => hasB k (2 ^ j)).map (· + 2)
def offs (k : Int) : List Nat := 1 :: offF k 0
def numsL (e : Ev) (os : List Nat) : List Int := os.flatMap fun o => putL (e.at o)
def evL (e : Ev) : List Int := putL e.k ++ numsL e (offs e.k)
def encL (l : List Ev) : List Int := [82, 50, 49] ++ l.flatMap evL
def encB (l : List Ev) : Bool := l.all evOk && decide (l.length ≤ 300)

def rdSeq (bs : List Int) : List Nat → Nat → Ev → Option (Ev × Nat)
  | [], p, e => some (e, p)
  | o :: os, p, e => match rdN bs p with
    | none => none
    | some (n, q) => rdSeq bs os q (e.put o n)

def ev0 (k : Int) : Ev := ⟨k, 0, 0, 0, 0, 0, 0, 0⟩

def rdEv (bs : List Int) (p : Nat) : Except Int (Ev × Nat) :=
  match rdN bs p with
  | none => .error 2
  | some (k, q) => if inB 1 22 k then (match rdSeq bs (offs k) q (ev0 k) with
    | none => .error 2
    | some (e, r) => if evOk e then .ok (e, r) else .error 3) else .error 3

def decG (bs : List Int) : Nat → Nat → List Ev → List Ev × Int
  | 0, p, out => (out, if p < bs.length then 4 else 0)
  | f + 1, p, out => if p < bs.length then (match rdEv bs p with
    | .error c => (out, c)
    | .ok (e, q) => decG bs f q (out ++ [e])) else (out, 0)

def hdB (bs : List Int) : Bool := decide (bs.take 3 = [82, 50, 49])
def decL (bs : List Int) : List Ev × Int := if hdB bs then decG bs 300 3 [] else ([], 1)

/-! numbers -/
theorem putL_u8 {n : Int} (h0 : 0 ≤ n) (h1 : n ≤ 4398046511103) : ∀ x ∈ putL n, U8 x := putF_u8 5 n h0 (by simpa using (by omega : n < 4398046511104))
theorem putL_len (n : Int) : 1 ≤ (putL n).length ∧ (putL n).length ≤ 6 := putF_len 5 n
theorem rdN_put {bs rest : List Int} {n : Int} {p : Nat} (h0 : 0 ≤ n) (h1 : n ≤ 4398046511103) (hb : bs.drop p = putL n ++ rest) : rdN bs p = some (n, p + (putL n).length) := by
  have := rd_put bs p rest 5 n 1 0 p h0 (by simpa using (by omega : n < 4398046511104)) hb (by omega)
  simpa [rdN, putL] using this
theorem rdN_cut {bs : List Int} {n : Int} {p : Nat} (h0 : 0 ≤ n) (hb : bs.drop p = (putL n).dropLast) : rdN bs p = none := rd_cut bs p 5 n 1 0 p h0 hb
theorem rdN_some {bs : List Int} {p q : Nat} {n : Int} (hu : ∀ x ∈ bs, U8 x) (h : rdN bs p = some (n, q)) : 0 ≤ n ∧ n ≤ 4398046511103 ∧ q = p + (putL n).length ∧ bs.drop p = putL n ++ bs.drop q := by
  obtain ⟨m, h0, h1, hm, hq, hd, -⟩ := put_rd bs p hu 5 1 0 p n q (Nat.le_refl _) h
  have e : n = m := by omega
  subst e
  have h2 : n < 4398046511104 := by simpa using h1
  exact ⟨h0, by omega, hq, hd⟩
theorem rdN_lt {bs : List Int} {p q : Nat} {n : Int} (hu : ∀ x ∈ bs, U8 x) (h : rdN bs p = some (n, q)) : p < q ∧ q ≤ bs.length := by
  obtain ⟨-, -, hq, hd⟩ := rdN_some hu h
  have := (putL_len n).1
  have hl := congrArg List.length hd
  simp at hl
  omega

/-! places -/
theorem at_put {e : Ev} {i j : Nat} {x : Int} (hi : i < 8) : (e.put i x).at j = if j = i then x else e.at j := by
  rcases (by omega : i = 0 ∨ i = 1 ∨ i = 2 ∨ i = 3 ∨ i = 4 ∨ i = 5 ∨ i = 6 ∨ i = 7) with rfl | rfl | rfl | rfl | rfl | rfl | rfl | rfl
  all_goals
    by_cases hj : j < 8
    · rcases (by omega : j = 0 ∨ j = 1 ∨ j = 2 ∨ j = 3 ∨ j = 4 ∨ j = 5 ∨ j = 6 ∨ j = 7) with rfl | rfl | rfl | rfl | rfl | rfl | rfl | rfl <;> rfl
    · rw [if_neg (by omega), Ev.at, Ev.at, List.getD_eq_getElem?_getD, List.getD_eq_getElem?_getD, List.getElem?_eq_none (by simp; omega), List.getElem?_eq_none (by simp; omega)]
theorem ev_ext {a b : Ev} (h : ∀ j, j < 8 → a.at j = b.at j) : a = b := by
  obtain ⟨a0, a1, a2, a3, a4, a5, a6, a7⟩ := a
  obtain ⟨b0, b1, b2, b3, b4, b5, b6, b7⟩ := b
  have h0 : a0 = b0 := h 0 (by omega)
  have h1 : a1 = b1 := h 1 (by omega)
  have h2 : a2 = b2 := h 2 (by omega)
  have h3 : a3 = b3 := h 3 (by omega)
  have h4 : a4 = b4 := h 4 (by omega)
  have h5 : a5 = b5 := h 5 (by omega)
  have h6 : a6 = b6 := h 6 (by omega)
  have h7 : a7 = b7 := h 7 (by omega)
  subst h0 h1 h2 h3 h4 h5 h6 h7
  rfl
theorem offs_in {k : Int} : (∀ o ∈ offs k, 1 ≤ o ∧ o < 8) ∧ (offs k).Nodup := by
  have h : ∀ b : Nat → Bool, (∀ o ∈ 1 :: ((List.range' 0 6).filter b).map (· + 2), 1 ≤ o ∧ o < 8) ∧ (1 :: ((List.range' 0 6).filter b).map (· + 2)).Nodup := by
    intro b
    simp only [List.range', List.filter]
    cases b 0 <;> cases b (0 + 1) <;> cases b (0 + 1 + 1) <;> cases b (0 + 1 + 1 + 1) <;> cases b (0 + 1 + 1 + 1 + 1) <;> cases b (0 + 1 + 1 + 1 + 1 + 1) <;> decide
  exact h _

theorem rdSeq_put (bs rest : List Int) (e : Ev) (os : List Nat) (p : Nat) (a : Ev) (ho : ∀ o ∈ os, 0 ≤ e.at o ∧ e.at o ≤ 4398046511103) (hb : bs.drop p = numsL e os ++ rest) :
    rdSeq bs os p a = some (os.foldl (fun a o => a.put o (e.at o)) a, p + (numsL e os).length) := by
  induction os generalizing p a with
  | nil => simp [rdSeq, numsL]
  | cons o os ih =>
    have hn : numsL e (o :: os) = putL (e.at o) ++ numsL e os := rfl
    rw [hn, List.append_assoc] at hb
    have h := ho o (by simp)
    have hr := rdN_put h.1 h.2 hb
    rw [rdSeq, hr]
    simp only []
    have hb2 : bs.drop (p + (putL (e.at o)).length) = numsL e os ++ rest := by
      rw [← List.drop_drop, hb, List.drop_left]
    rw [ih _ _ (fun o' ho' => ho o' (by simp [ho'])) hb2, hn]
    simp [Nat.add_assoc]

theorem foldl_at (e : Ev) (os : List Nat) (a : Ev) (h : ∀ o ∈ os, o < 8) (j : Nat) : (os.foldl (fun a o => a.put o (e.at o)) a).at j = if j ∈ os then e.at j else a.at j := by
  induction os generalizing a with
  | nil => simp
  | cons o os ih =>
    rw [List.foldl_cons, ih _ (fun o' ho' => h o' (by simp [ho'])), at_put (h o (by simp))]
    by_cases h1 : j ∈ os
    · simp [h1]
    · by_cases h2 : j = o
      · subst h2; simp [h1]
      · simp [h1, h2]

theorem rdSeq_some {bs : List Int} (hu : ∀ x ∈ bs, U8 x) (os : List Nat) (p : Nat) (a e : Ev) (q : Nat) (h : rdSeq bs os p a = some (e, q)) (hl : ∀ o ∈ os, o < 8) (hn : os.Nodup) :
    q = p + (numsL e os).length ∧ bs.drop p = numsL e os ++ bs.drop q ∧ (∀ j, j ∉ os → e.at j = a.at j) ∧ ∀ j, j ∈ os → 0 ≤ e.at j ∧ e.at j ≤ 4398046511103 := by
  induction os generalizing p a with
  | nil =>
    simp only [rdSeq, Option.some.injEq, Prod.mk.injEq] at h
    obtain ⟨rfl, rfl⟩ := h
    simp [numsL]
  | cons o os ih =>
    rw [rdSeq] at h
    cases hr : rdN bs p with
    | none => rw [hr] at h; cases h
    | some nq =>
      obtain ⟨n, r⟩ := nq
      rw [hr] at h
      obtain ⟨h0, h1, hrp, hd⟩ := rdN_some hu hr
      rw [List.nodup_cons] at hn
      obtain ⟨hq, hd2, ha, hi⟩ := ih r (a.put o n) h (fun o' ho' => hl o' (by simp [ho'])) hn.2
      have eo : e.at o = n := by rw [ha o hn.1, at_put (hl o (by simp)), if_pos rfl]
      have en : numsL e (o :: os) = putL n ++ numsL e os := by rw [← eo]; rfl
      refine ⟨?_, ?_, fun j hj => ?_, fun j hj => ?_⟩
      · rw [en, hq, hrp]; simp [Nat.add_assoc]
      · rw [en, hd, hd2, List.append_assoc]
      · simp only [List.mem_cons, not_or] at hj
        rw [ha j hj.2, at_put (hl o (by simp)), if_neg hj.1]
      · rcases List.mem_cons.1 hj with rfl | hj
        · rw [eo]; exact ⟨h0, h1⟩
        · exact hi j hj

/-! events -/
theorem fit_out {h : Bool} {n lo hi : Int} (hf : fitB h n lo hi = true) (hn : h = false) : n = 0 := by subst hn; simpa [fitB] using hf
theorem fit_in {h : Bool} {n lo hi : Int} (hf : fitB h n lo hi = true) (h0 : 0 ≤ lo) (h1 : hi ≤ 65535) : 0 ≤ n ∧ n ≤ 65535 := by
  cases h
  · have := fit_out hf rfl; omega
  · have := inB_true (by simpa [fitB] using hf); omega
theorem sizes_in (k : Int) : 0 ≤ loV k ∧ hiV k ≤ 64 := by
  rw [loV, hiV]
  constructor
  · split <;> omega
  · repeat' split
    all_goals omega

theorem ok_at {e : Ev} (h : evOk e = true) : (∀ j, 0 ≤ e.at j ∧ e.at j ≤ 65535) ∧ ∀ j, j < 6 → hasB e.k (2 ^ j) = false → e.at (j + 2) = 0 := by
  simp only [evOk, Bool.and_eq_true] at h
  obtain ⟨⟨⟨⟨⟨⟨⟨hk, hg⟩, h1⟩, h2⟩, h3⟩, h4⟩, h5⟩, h6⟩ := h
  have hk' := inB_true hk
  have hg' := inB_true hg
  have hz := sizes_in e.k
  refine ⟨fun j => ?_, fun j hj hn => ?_⟩
  · by_cases hj : j < 8
    · rcases (by omega : j = 0 ∨ j = 1 ∨ j = 2 ∨ j = 3 ∨ j = 4 ∨ j = 5 ∨ j = 6 ∨ j = 7) with rfl | rfl | rfl | rfl | rfl | rfl | rfl | rfl
      · exact ⟨by simp [Ev.at]; omega, by simp [Ev.at]; omega⟩
      · exact ⟨by simp [Ev.at]; omega, by simp [Ev.at]; omega⟩
      · exact fit_in h1 (by omega) (by omega)
      · exact fit_in h2 (by omega) (by omega)
      · exact fit_in h3 (by omega) (by omega)
      · exact fit_in h4 (by omega) (by omega)
      · exact fit_in h5 (by omega) (by omega)
      · exact fit_in h6 (by omega) (by omega)
    · rw [Ev.at, List.getD_eq_getElem?_getD, List.getElem?_eq_none (by simp; omega)]; simp
  · rcases (by omega : j = 0 ∨ j = 1 ∨ j = 2 ∨ j = 3 ∨ j = 4 ∨ j = 5) with rfl | rfl | rfl | rfl | rfl | rfl
    · exact fit_out h1 hn
    · exact fit_out h2 hn
    · exact fit_out h3 hn
    · exact fit_out h4 hn
    · exact fit_out h5 hn
    · exact fit_out h6 hn

theorem offs_mem {k : Int} {j : Nat} (hj : j < 6) : j + 2 ∈ offs k ↔ hasB k (2 ^ j) = true := by
  simp only [offs, offF, List.mem_cons, List.mem_map, List.mem_filter]
  constructor
  · rintro (h | ⟨i, ⟨-, hb⟩, hi⟩)
    · omega
    · have : i = j := by omega
      subst this; exact hb
  · intro h
    exact .inr ⟨j, ⟨by rw [List.mem_range']; exact ⟨j, by omega, by omega⟩, h⟩, rfl⟩

theorem rdEv_put {bs rest : List Int} {e : Ev} {p : Nat} (h : evOk e = true) (hb : bs.drop p = evL e ++ rest) : rdEv bs p = .ok (e, p + (evL e).length) := by
  obtain ⟨hi, hz⟩ := ok_at h
  have hk := hi 0
  have hk' : 0 ≤ e.k ∧ e.k ≤ 65535 := hk
  rw [evL, List.append_assoc] at hb
  have hr := rdN_put hk'.1 (by omega) hb
  have hb2 : bs.drop (p + (putL e.k).length) = numsL e (offs e.k) ++ rest := by rw [← List.drop_drop, hb, List.drop_left]
  have hs := rdSeq_put bs rest e (offs e.k) _ (ev0 e.k) (fun o _ => ⟨(hi o).1, by have := (hi o).2; omega⟩) hb2
  have hkr : inB 1 22 e.k = true := by
    simp only [evOk, Bool.and_eq_true] at h
    exact h.1.1.1.1.1.1.1
  have he : (offs e.k).foldl (fun a o => a.put o (e.at o)) (ev0 e.k) = e := by
    apply ev_ext
    intro j hj
    rw [foldl_at e _ _ (fun o ho => (offs_in.1 o ho).2)]
    by_cases hm : j ∈ offs e.k
    · rw [if_pos hm]
    · rw [if_neg hm]
      have hw : j = 0 ∨ j = 1 ∨ ∃ i, i < 6 ∧ j = i + 2 := by
        by_cases h2 : j < 2
        · omega
        · exact .inr (.inr ⟨j - 2, by omega, by omega⟩)
      rcases hw with rfl | rfl | ⟨i, hi6, rfl⟩
      · rfl
      · exact absurd (by simp [offs]) hm
      · rw [offs_mem hi6] at hm
        rw [hz i hi6 (by simpa using hm)]
        rcases (by omega : i = 0 ∨ i = 1 ∨ i = 2 ∨ i = 3 ∨ i = 4 ∨ i = 5) with rfl | rfl | rfl | rfl | rfl | rfl <;> rfl
  rw [rdEv, hr]
  simp only [hkr, if_true, hs, he, h]
  rw [evL, List.length_append]
  simp [Nat.add_assoc]

theorem rdEv_ok {bs : List Int} (hu : ∀ x ∈ bs, U8 x) {p q : Nat} {e : Ev} (h : rdEv bs p = .ok (e, q)) : evOk e = true ∧ q = p + (evL e).length ∧ bs.drop p = evL e ++ bs.drop q := by
  rw [rdEv] at h
  cases hr : rdN bs p with
  | none => rw [hr] at h; cases h
  | some kr =>
    obtain ⟨k, r⟩ := kr
    rw [hr] at h
    simp only at h
    obtain ⟨h0, h1, hrp, hd⟩ := rdN_some hu hr
    by_cases hk : inB 1 22 k = true
    · rw [if_pos hk] at h
      cases hs : rdSeq bs (offs k) r (ev0 k) with
      | none => rw [hs] at h; cases h
      | some er =>
        obtain ⟨e', r'⟩ := er
        rw [hs] at h
        simp only at h
        obtain ⟨hq, hd2, ha, -⟩ := rdSeq_some hu _ _ _ _ _ hs (fun o ho => (offs_in.1 o ho).2) offs_in.2
        by_cases ho : evOk e' = true
        · rw [if_pos ho] at h
          simp only [Except.ok.injEq, Prod.mk.injEq] at h
          obtain ⟨rfl, rfl⟩ := h
          have hek : e'.k = k := by
            have := ha 0 (fun h => by have := (offs_in.1 _ h).1; omega)
            exact this
          subst hek
          refine ⟨ho, ?_, ?_⟩
          · rw [evL, List.length_append, hq, hrp]; omega
          · rw [evL, hd, hd2, List.append_assoc]
        · rw [if_neg ho] at h; cases h
    · rw [if_neg hk] at h; cases h

theorem evL_len (e : Ev) : 1 ≤ (evL e).length := by
  rw [evL, List.length_append]
  have := (putL_len e.k).1
  omega

/-! traces -/
theorem decG_put (bs : List Int) (l : List Ev) (f p : Nat) (out : List Ev) (hl : l.length ≤ f) (h : ∀ e ∈ l, evOk e = true) (hp : p ≤ bs.length) (hb : bs.drop p = l.flatMap evL) : decG bs f p out = (out ++ l, 0) := by
  induction l generalizing f p out with
  | nil =>
    have : ¬ p < bs.length := by
      have := congrArg List.length hb
      simp at this
      omega
    cases f with
    | zero => simp [decG, this]
    | succ f => simp [decG, this]
  | cons e l ih =>
    cases f with
    | zero => simp at hl
    | succ f =>
      have hb1 : bs.drop p = evL e ++ l.flatMap evL := by rw [hb]; rfl
      have hr := rdEv_put (h e (by simp)) hb1
      have hlen := congrArg List.length hb1
      have hne := evL_len e
      simp only [List.length_drop, List.length_append] at hlen
      rw [decG, if_pos (by omega), hr]
      simp only []
      rw [ih f _ _ (by simp at hl; omega) (fun e' he' => h e' (by simp [he'])) (by omega) (by rw [← List.drop_drop, hb1, List.drop_left])]
      simp

theorem dec_enc (l : List Ev) (h : encB l = true) : decL (encL l) = (l, 0) := by
  simp only [encB, Bool.and_eq_true, List.all_eq_true, decide_eq_true_eq] at h
  have hh : hdB (encL l) = true := by simp [hdB, encL]
  rw [decL, if_pos hh, decG_put _ l 300 3 [] h.2 h.1 (by simp [encL]) (by simp [encL])]
  simp

theorem decG_some {bs : List Int} (hu : ∀ x ∈ bs, U8 x) (f p : Nat) (out l : List Ev) (c : Int) (hp : p ≤ bs.length) (h : decG bs f p out = (l, c)) :
    ∃ m, l = out ++ m ∧ m.length ≤ f ∧ (∀ e ∈ m, evOk e = true) ∧ (∃ r, bs.drop p = m.flatMap evL ++ r ∧ (c = 0 → r = [])) ∧ (c = 0 ∨ c = 2 ∨ c = 3 ∨ c = 4) := by
  induction f generalizing p out with
  | zero =>
    simp only [decG, Prod.mk.injEq] at h
    obtain ⟨rfl, hc⟩ := h
    by_cases hlt : p < bs.length
    · rw [if_pos hlt] at hc
      exact ⟨[], by simp, by simp, by simp, ⟨bs.drop p, by simp, by omega⟩, by omega⟩
    · rw [if_neg hlt] at hc
      exact ⟨[], by simp, by simp, by simp, ⟨bs.drop p, by simp, fun _ => List.drop_eq_nil_of_le (by omega)⟩, by omega⟩
  | succ f ih =>
    rw [decG] at h
    by_cases hlt : p < bs.length
    · rw [if_pos hlt] at h
      cases hr : rdEv bs p with
      | error d =>
        rw [hr] at h
        simp only [Prod.mk.injEq] at h
        obtain ⟨rfl, rfl⟩ := h
        have hd : d = 2 ∨ d = 3 := by
          rw [rdEv] at hr
          split at hr
          · simp only [Except.error.injEq] at hr; omega
          · split at hr
            · split at hr
              · simp only [Except.error.injEq] at hr; omega
              · split at hr
                · cases hr
                · simp only [Except.error.injEq] at hr; omega
            · simp only [Except.error.injEq] at hr; omega
        exact ⟨[], by simp, by simp, by simp, ⟨bs.drop p, by simp, by omega⟩, by omega⟩
      | ok eq =>
        obtain ⟨e, q⟩ := eq
        rw [hr] at h
        simp only at h
        obtain ⟨ho, hq, hd⟩ := rdEv_ok hu hr
        have hlen := congrArg List.length hd
        simp only [List.length_drop, List.length_append] at hlen
        have hne := evL_len e
        obtain ⟨m, hm, hml, hmo, ⟨r, hr2, hr3⟩, hc⟩ := ih q _ (by omega) h
        refine ⟨e :: m, by rw [hm]; simp, by simp; omega, ?_, ⟨r, ?_, hr3⟩, hc⟩
        · intro x hx
          rcases List.mem_cons.1 hx with rfl | hx
          · exact ho
          · exact hmo x hx
        · rw [hd, hr2]; simp
    · rw [if_neg hlt] at h
      simp only [Prod.mk.injEq] at h
      obtain ⟨rfl, rfl⟩ := h
      exact ⟨[], by simp, by simp, by simp, ⟨bs.drop p, by simp, fun _ => List.drop_eq_nil_of_le (by omega)⟩, by omega⟩

theorem enc_dec {bs : List Int} (hu : ∀ x ∈ bs, U8 x) (h : hdB bs = true) : encB (decL bs).1 = true ∧ (∃ r, bs = encL (decL bs).1 ++ r ∧ ((decL bs).2 = 0 → r = [])) ∧ (decL bs).2 ≠ 1 := by
  have h3 : bs.take 3 = [82, 50, 49] := by simpa [hdB] using h
  have hlen : 3 ≤ bs.length := by have := congrArg List.length h3; simp at this; omega
  obtain ⟨m, hm, hml, hmo, ⟨r, hr, hr0⟩, hc⟩ := decG_some hu 300 3 [] (decL bs).1 (decL bs).2 hlen (by rw [decL, if_pos h])
  rw [List.nil_append] at hm
  rw [hm]
  refine ⟨?_, ⟨r, ?_, hr0⟩, by omega⟩
  · simp only [encB, Bool.and_eq_true, List.all_eq_true, decide_eq_true_eq]
    exact ⟨hmo, hml⟩
  · conv => lhs; rw [← List.take_append_drop 3 bs, h3, hr]
    rw [encL, List.append_assoc]
end Go.Proofs.YtcofhmikdkkigaaGreatDoor
namespace Go.Proofs.YtcofhmikdkkigaaGreatDoor
open Go.RowKit

set_option maxRecDepth 20000 in
set_option maxHeartbeats 4000000 in
theorem likeScene_same {B B' : Nat → Prop} (s t : Sv) (m : Scn) (w : World) (h : ScR B w s m) (h' : ScR B' w t m) :
    Calls Tryz.prog 17 #[.agg #[.int .i64 s.g, .slice s.lo s.ll s.lc, .slice s.co s.cl s.cc, .slice s.no s.nl s.nc, .slice s.oo s.ol s.oc], .agg #[.int .i64 t.g, .slice t.lo t.ll t.lc, .slice t.co t.cl t.cc, .slice t.no t.nl t.nc, .slice t.oo t.ol t.oc]] w fun e w' => e = .returned (.bool true) ∧ Fr w w' := by
  have f1 := Fr.alloc w (.cells #[.int .i64 s.g, .slice s.lo s.ll s.lc, .slice s.co s.cl s.cc, .slice s.no s.nl s.nc, .slice s.oo s.ol s.oc] 29)
  have f2 := Fr.alloc (w.alloc (.cells #[.int .i64 s.g, .slice s.lo s.ll s.lc, .slice s.co s.cl s.cc, .slice s.no s.nl s.nc, .slice s.oo s.ol s.oc] 29)) (.cells #[.int .i64 t.g, .slice t.lo t.ll t.lc, .slice t.co t.cl t.cc, .slice t.no t.nl t.nc, .slice t.oo t.ol t.oc] 29)
  have k1 := (ScK.new w s).fr f2
  have k2 := ScK.new (w.alloc (.cells #[.int .i64 s.g, .slice s.lo s.ll s.lc, .slice s.co s.cl s.cc, .slice s.no s.nl s.nc, .slice s.oo s.ol s.oc] 29)) t
  simp only [World.size_alloc] at k2
  have F := f1.trans f2
  obtain ⟨es, r1, n1, L1⟩ := h.lks
  obtain ⟨fs, r2, n2, L2⟩ := h'.lks
  have eg : s.g = t.g := h.g.trans h'.g.symm
  have el : s.ll = t.ll := by rw [n1, n2, L1.len, L2.len]
  have ec : s.cl = t.cl := h.cl.trans h'.cl.symm
  have en : s.nl = t.nl := h.nl.trans h'.nl.symm
  have HL : Hid (es.length = m.ls.length ∧ fs.length = m.ls.length) := ⟨L1.len, L2.len⟩
  have HS : Hid (m.ls.length ≤ 1048576 ∧ m.cs.length ≤ 1048576 ∧ m.gs.length ≤ 1048576) := ⟨h.sl, h.sc, h.sn⟩
  have cO := fun u (f : Fr w u) => like_any s.oo t.oo s.ol t.ol s.oc t.oc m.os m.os u h.ol.symm h'.ol.symm (h.ons.fr f) (h'.ons.fr f)
  simp only [decide_true] at cO
  have HR1 : Hid (∀ u, Fr w u → ReadsG layL u s.lo es ∧ LksR B u es m.ls) := fun u f => ⟨r1.fr f, L1.fr f⟩
  have HR2 : Hid (∀ u, Fr w u → ReadsG layL u t.lo fs ∧ LksR B' u fs m.ls) := fun u f => ⟨r2.fr f, L2.fr f⟩
  have HC : Hid (∀ u, Fr w u → ReadsG layC u s.co m.cs ∧ ReadsG layC u t.co m.cs) := fun u f => ⟨h.chs.fr f, h'.chs.fr f⟩
  have HN : Hid (∀ u, Fr w u → ReadsG layN u s.no m.gs ∧ ReadsG layN u t.no m.gs) := fun u f => ⟨h.cts.fr f, h'.cts.fr f⟩
  have ecl := h.cl
  have enl := h.nl
  clear h h' r1 L1 r2 n2 L2 f1 f2
  obtain ⟨sg, slo, sll, slc, sco, scl, scc, sno, snl, snc, soo, sol, soc⟩ := s
  obtain ⟨tg, tlo, tll, tlc, tco, tcl, tcc, tno, tnl, tnc, too, tol, toc⟩ := t
  simp only at k1 k2 F eg el ec en cO n1 ecl enl HR1 HR2 HC HN ⊢
  subst eg el ec en n1 ecl enl
  go_enter Tryz.func17, Tryz.ntmps17
  go_upto_region 1 with fail
  obtain ⟨W, hW⟩ : ∃ W, W = (w.alloc (.cells #[.int .i64 sg, .slice slo es.length slc, .slice sco m.cs.length scc, .slice sno m.gs.length snc, .slice soo sol soc] 29)).alloc (.cells #[.int .i64 sg, .slice tlo es.length tlc, .slice tco m.cs.length tcc, .slice tno m.gs.length tnc, .slice too tol toc] 29) := ⟨_, rfl⟩
  rw [← hW] at k1 k2 F ⊢
  clear hW
  have HQ : Hid (∀ u, Fr W u → ScB u w.heap.size ⟨sg, slo, es.length, slc, sco, m.cs.length, scc, sno, m.gs.length, snc, soo, sol, soc⟩ ∧ ScB u (w.heap.size + 1) ⟨sg, tlo, es.length, tlc, tco, m.cs.length, tcc, tno, m.gs.length, tnc, too, tol, toc⟩) := fun u f => ⟨(k1.fr f).at, (k2.fr f).at⟩
  clear k1 k2
  obtain ⟨⟨s0, s1, s2, s3, s4⟩, ⟨t0, t1, t2, t3, t4⟩⟩ := HQ.out _ (Fr.refl W)
  simp only at s0 s1 s2 s3 s4 t0 t1 t2 t3 t4
  go_wp2_with fail
  refine (cO _ F).mono ?_
  rintro e u1 ⟨rfl, nq, rfl⟩
  clear s0 s1 s2 s3 s4 t0 t1 t2 t3 t4
  have F0 : Fr W (W.drewN nq) := Fr.drewN _ _
  go_wp2_with fail
  go_loopw [5] (fun i wr => ∃ k : Nat, k ≤ es.length ∧ i = .int .i64 k ∧ Fr W wr) (fun i _ => es.length - (intOf i).toNat)
  case atStart => exact ⟨0, Nat.zero_le _, rfl, F0⟩
  case round =>
    obtain ⟨k, hk, rfl, hf⟩ := hrel
    obtain ⟨⟨s0, s1, s2, s3, s4⟩, ⟨t0, t1, t2, t3, t4⟩⟩ := HQ.out _ hf
    simp only at s0 s1 s2 s3 s4 t0 t1 t2 t3 t4
    by_cases hlt : k < es.length
    · have hlt2 : k < fs.length := by have := HL.out; omega
      have hlt3 : k < m.ls.length := by have := HL.out; omega
      obtain ⟨r1, L1⟩ := HR1.out _ (F.trans hf)
      obtain ⟨r2, L2⟩ := HR2.out _ (F.trans hf)
      have hz : es.length ≤ 1048576 := by have := HL.out; have := HS.out; omega
      obtain ⟨b, off, rfl, a0, a1, a2⟩ := lv_at r1 k hlt
      obtain ⟨b', off', rfl, x0, x1, x2⟩ := lv_at r2 k hlt2
      have A1 := L1.at_ k hlt hlt3
      have A2 := L2.at_ k hlt2 hlt3
      obtain ⟨e, he⟩ : ∃ e, e = es[k] := ⟨_, rfl⟩
      obtain ⟨e2, he2⟩ : ∃ e2, e2 = fs[k] := ⟨_, rfl⟩
      obtain ⟨l, hl⟩ : ∃ l, l = m.ls[k] := ⟨_, rfl⟩
      simp only [← he, ← he2, ← hl] at a0 a1 a2 x0 x1 x2 A1 A2
      clear he he2 hl hlt2 hlt3 r1 r2 L1 L2
      have eo : e2.o = e.o := A2.o.trans A1.o.symm
      have ew : e2.wr = e.wr := A2.wr.trans A1.wr.symm
      have cI := fun n : Nat => like_any e.ro e2.ro e.rn e2.rn e.rc e2.rc l.rd l.rd (wr.drewN n) A1.rn.symm A2.rn.symm (A1.rd.fr (Fr.drewN wr n)) (A2.rd.fr (Fr.drewN wr n))
      simp only [decide_true] at cI
      rw [eo] at x0
      rw [ew] at x1
      clear A1 A2 eo ew
      have p0 := fun n : Nat => (Fr.drewN wr n).cell a0
      have p1 := fun n : Nat => (Fr.drewN wr n).cell a1
      have p2 := fun n : Nat => (Fr.drewN wr n).cell a2
      have q0 := fun n : Nat => (Fr.drewN wr n).cell x0
      have q1 := fun n : Nat => (Fr.drewN wr n).cell x1
      have q2 := fun n : Nat => (Fr.drewN wr n).cell x2
      have g0 := fun n : Nat => (Fr.drewN wr n).cell s1
      have g1 := fun n : Nat => (Fr.drewN wr n).cell t1
      clear a0 a1 a2 x0 x1 x2
      go_wp2_with fail
      go_quiet ((go_at_call 64; with_reducible exact Calls.quiet_of (cI _)))
      go_wp2_with fail
      go_roundw
      case rel => exact ⟨k + 1, by omega, by go_num, hf.trans (Fr.drewN _ _)⟩
      case measure => simp [intOf]; omega
    · go_wp2_with fail
      go_loopw [6] (fun i wr => ∃ k : Nat, k ≤ m.cs.length ∧ i = .int .i64 k ∧ Fr W wr) (fun i _ => m.cs.length - (intOf i).toNat)
      case atStart => exact ⟨0, Nat.zero_le _, rfl, hf⟩
      case round =>
        clear s0 s1 s2 s3 s4 t0 t1 t2 t3 t4 hlt hk hf
        obtain ⟨k, hk, rfl, hf⟩ := hrel
        obtain ⟨⟨s0, s1, s2, s3, s4⟩, ⟨t0, t1, t2, t3, t4⟩⟩ := HQ.out _ hf
        simp only at s0 s1 s2 s3 s4 t0 t1 t2 t3 t4
        by_cases hlt : k < m.cs.length
        · obtain ⟨r1, r2⟩ := HC.out _ (F.trans hf)
          have hz : m.cs.length ≤ 1048576 := HS.out.2.1
          obtain ⟨b, off, rfl, a0, a1, a2, a3, a4⟩ := ch_at r1 k hlt
          obtain ⟨b', off', rfl, x0, x1, x2, x3, x4⟩ := ch_at r2 k hlt
          obtain ⟨e, he⟩ : ∃ e, e = m.cs[k] := ⟨_, rfl⟩
          simp only [← he] at a0 a1 a2 a3 a4 x0 x1 x2 x3 x4
          clear he r1 r2
          have p0 := fun n : Nat => (Fr.drewN _ n).cell a0
          have p1 := fun n : Nat => (Fr.drewN _ n).cell a1
          have p2 := fun n : Nat => (Fr.drewN _ n).cell a2
          have p3 := fun n : Nat => (Fr.drewN _ n).cell a3
          have p4 := fun n : Nat => (Fr.drewN _ n).cell a4
          have q0 := fun n : Nat => (Fr.drewN _ n).cell x0
          have q1 := fun n : Nat => (Fr.drewN _ n).cell x1
          have q2 := fun n : Nat => (Fr.drewN _ n).cell x2
          have q3 := fun n : Nat => (Fr.drewN _ n).cell x3
          have q4 := fun n : Nat => (Fr.drewN _ n).cell x4
          have g0 := fun n : Nat => (Fr.drewN _ n).cell s2
          have g1 := fun n : Nat => (Fr.drewN _ n).cell t2
          clear a0 a1 a2 a3 a4 x0 x1 x2 x3 x4
          go_wp2_with fail
          go_quiet (fail)
          go_wp2_with fail
          go_roundw
          case rel => exact ⟨k + 1, by omega, by go_num, hf.trans (Fr.drewN _ _)⟩
          case measure => simp [intOf]; omega
        · go_wp2_with fail
          go_loopw [7] (fun i wr => ∃ k : Nat, k ≤ m.gs.length ∧ i = .int .i64 k ∧ Fr W wr) (fun i _ => m.gs.length - (intOf i).toNat)
          case atStart => exact ⟨0, Nat.zero_le _, rfl, hf⟩
          case round =>
            clear s0 s1 s2 s3 s4 t0 t1 t2 t3 t4 hlt hk hf
            obtain ⟨k, hk, rfl, hf⟩ := hrel
            obtain ⟨⟨s0, s1, s2, s3, s4⟩, ⟨t0, t1, t2, t3, t4⟩⟩ := HQ.out _ hf
            simp only at s0 s1 s2 s3 s4 t0 t1 t2 t3 t4
            by_cases hlt : k < m.gs.length
            · obtain ⟨r1, r2⟩ := HN.out _ (F.trans hf)
              have hz : m.gs.length ≤ 1048576 := HS.out.2.2
              obtain ⟨b, off, rfl, a0, a1⟩ := ct_at r1 k hlt
              obtain ⟨b', off', rfl, x0, x1⟩ := ct_at r2 k hlt
              obtain ⟨e, he⟩ : ∃ e, e = m.gs[k] := ⟨_, rfl⟩
              simp only [← he] at a0 a1 x0 x1
              clear he r1 r2
              have p0 := fun n : Nat => (Fr.drewN _ n).cell a0
              have p1 := fun n : Nat => (Fr.drewN _ n).cell a1
              have q0 := fun n : Nat => (Fr.drewN _ n).cell x0
              have q1 := fun n : Nat => (Fr.drewN _ n).cell x1
              have g0 := fun n : Nat => (Fr.drewN _ n).cell s3
              have g1 := fun n : Nat => (Fr.drewN _ n).cell t3
              clear a0 a1 x0 x1
              go_wp2_with fail
              go_quiet (fail)
              go_wp2_with fail
              go_roundw
              case rel => exact ⟨k + 1, by omega, by go_num, hf.trans (Fr.drewN _ _)⟩
              case measure => simp [intOf]; omega
            · go_wp2_with fail
              go_ret
              exact ⟨rfl, F.trans hf⟩
end Go.Proofs.YtcofhmikdkkigaaGreatDoor
