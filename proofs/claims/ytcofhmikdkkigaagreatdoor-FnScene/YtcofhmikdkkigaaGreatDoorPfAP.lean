/-
  Pack AP: ScImpl, ScImpl2, ScHas.
-/
import Derived.Test.YtcofhmikdkkigaaGreatDoorPfAH
import Derived.Test.YtcofhmikdkkigaaGreatDoorPfAL
namespace Go.Proofs.YtcofhmikdkkigaaGreatDoor
open Go.RowKit

def lk2 (g : Int) (l : Lk) : Bool := (decide (l.rd.length = 0) && inB 0 (g - 1) l.wr) || (decide (0 < l.rd.length) && (l.wr == -1) && upFrom (g - 1) (-1) l.rd)
def ch2 (c : Ch) : Bool := inB 0 8 c.cap && inB 0 1000000 c.sent && inB 0 c.sent c.got && decide (c.sent - c.got ≤ c.cap)
theorem all_take {α : Type} {p : α → Bool} {xs : List α} (h : ∀ j (hj : j < xs.length), p xs[j] = true) : xs.all p = true := by
  rw [List.all_eq_true]
  intro x hx
  obtain ⟨j, hj, rfl⟩ := List.mem_iff_getElem.1 hx
  exact h j hj
theorem all_bad {α : Type} {p : α → Bool} {xs : List α} {k : Nat} (hk : k < xs.length) (h : p xs[k] = false) : xs.all p = false := by
  rw [List.all_eq_false]
  exact ⟨xs[k], List.getElem_mem hk, by simp [h]⟩
theorem upto_good {α : Type} {p : α → Bool} {xs : List α} {k : Nat} (h : ∀ j (hj : j < xs.length), j < k → p xs[j] = true) (hk : k < xs.length) (he : p xs[k] = true) : ∀ j (hj : j < xs.length), j < k + 1 → p xs[j] = true := by
  intro j hj hjk
  by_cases e : j = k
  · subst e; exact he
  · exact h j hj (by omega)

set_option maxHeartbeats 1000000 in
theorem groupsOk_any (ao : Option Addr) (n c : Nat) (es : List Ct) (w : World) (hn : es.length = n) (hl : es.length ≤ 1048576) (h : ReadsG layN w ao es) :
    Calls Tryz.prog 68 #[.slice ao n c] w fun e w' => e = .returned (.bool (es.all (fun c => inB 1 1000000 c.n) && upFrom 15 (-1) (es.map Ct.o))) ∧ Fr w w' := by
  subst hn
  have cR := fun u (f : Fr w u) => risesN_any ao es.length c es 15 u rfl hl (h.fr f)
  obtain ⟨U, hU⟩ : ∃ U, U = upFrom 15 (-1) (es.map Ct.o) := ⟨_, rfl⟩
  simp only [← hU] at cR ⊢
  clear hU
  obtain ⟨R, hR⟩ : ∃ R, R = (es.all (fun c => inB 1 1000000 c.n) && U) := ⟨_, rfl⟩
  rw [← hR]
  have HR : Hid (R = (es.all (fun c => inB 1 1000000 c.n) && U)) := hR
  clear hR
  go_enter Tryz.func68, Tryz.ntmps68
  go_wp2_with fail
  go_loopw [7] (fun i wr => ∃ k : Nat, k ≤ es.length ∧ i = .int .i64 k ∧ Hid (∀ j (hj : j < es.length), j < k → inB 1 1000000 es[j].n = true) ∧ Fr w wr) (fun i _ => es.length - (intOf i).toNat)
  case atStart => exact ⟨0, Nat.zero_le _, rfl, fun j hj hk => by omega, Fr.refl w⟩
  case round =>
    obtain ⟨k, hk, rfl, HA, hf⟩ := hrel
    by_cases hlt : k < es.length
    · obtain ⟨b, off, rfl, d0, d1⟩ := ct_at (h.fr hf) k hlt
      have HB : Hid (inB 1 1000000 es[k].n = false → R = false) := fun q => by rw [HR.out, all_bad (p := fun c : Ct => inB 1 1000000 c.n) hlt q]; rfl
      have HG : Hid (inB 1 1000000 es[k].n = true → ∀ j (hj : j < es.length), j < k + 1 → inB 1 1000000 es[j].n = true) := fun q => upto_good (p := fun c : Ct => inB 1 1000000 c.n) HA.out hlt q
      obtain ⟨e, he⟩ : ∃ e, e = es[k] := ⟨_, rfl⟩
      rw [← he] at HB HG
      simp only [← he] at d0 d1
      clear he
      obtain ⟨eo, en⟩ := e
      simp only at d0 d1 HB HG
      have f2 := hf.trans (Fr.alloc wr (.cells #[.int .i64 eo, .int .i64 en] 92))
      go_wp2_with fail
      refine (within_any _ _ _ _).mono ?_
      rintro e y ⟨rfl, rfl⟩
      clear d0 d1
      cases hg : inB 1 1000000 en
      · have HN : Hid (R = false) := HB.out hg
        go_wp2_with fail
        go_ret
        exact ⟨ret_bool HN.out.symm, f2⟩
      · have HN : Hid (∀ j (hj : j < es.length), j < k + 1 → inB 1 1000000 es[j].n = true) := HG.out hg
        go_wp2_with fail
        go_roundw
        case rel => exact ⟨k + 1, by omega, by go_num, HN, f2⟩
        case measure => simp [intOf]; omega
    · have HN : Hid (U = R) := by
        show U = R
        rw [HR.out, all_take (p := fun c : Ct => inB 1 1000000 c.n) (fun j hj => HA.out j hj (by omega))]; rfl
      go_wp2_with fail
      refine (cR _ hf).mono ?_
      rintro e y ⟨rfl, fy⟩
      go_wp2_with fail
      go_ret
      exact ⟨ret_bool HN.out, hf.trans fy⟩

set_option maxHeartbeats 2000000 in
theorem chansOk_any (ao : Option Addr) (n c : Nat) (es : List Ch) (w : World) (hn : es.length = n) (hl : es.length ≤ 1048576) (h : ReadsG layC w ao es) :
    Calls Tryz.prog 67 #[.slice ao n c] w fun e w' => e = .returned (.bool (es.all ch2 && upFrom 15 (-1) (es.map Ch.o))) ∧ Fr w w' := by
  subst hn
  have cR := fun u (f : Fr w u) => risesC_any ao es.length c es 15 u rfl hl (h.fr f)
  obtain ⟨U, hU⟩ : ∃ U, U = upFrom 15 (-1) (es.map Ch.o) := ⟨_, rfl⟩
  simp only [← hU] at cR ⊢
  clear hU
  obtain ⟨R, hR⟩ : ∃ R, R = (es.all ch2 && U) := ⟨_, rfl⟩
  rw [← hR]
  have HR : Hid (R = (es.all ch2 && U)) := hR
  clear hR
  go_enter Tryz.func67, Tryz.ntmps67
  go_wp2_with fail
  go_loopw [7] (fun i wr => ∃ k : Nat, k ≤ es.length ∧ i = .int .i64 k ∧ Hid (∀ j (hj : j < es.length), j < k → ch2 es[j] = true) ∧ Fr w wr) (fun i _ => es.length - (intOf i).toNat)
  case atStart => exact ⟨0, Nat.zero_le _, rfl, fun j hj hk => by omega, Fr.refl w⟩
  case round =>
    obtain ⟨k, hk, rfl, HA, hf⟩ := hrel
    by_cases hlt : k < es.length
    · obtain ⟨b, off, rfl, d0, d1, d2, d3, d4⟩ := ch_at (h.fr hf) k hlt
      have HB : Hid (ch2 es[k] = false → R = false) := fun q => by rw [HR.out, all_bad hlt q]; rfl
      have HG : Hid (ch2 es[k] = true → ∀ j (hj : j < es.length), j < k + 1 → ch2 es[j] = true) := fun q => upto_good HA.out hlt q
      obtain ⟨e, he⟩ : ∃ e, e = es[k] := ⟨_, rfl⟩
      rw [← he] at HB HG
      simp only [← he] at d0 d1 d2 d3 d4
      clear he
      obtain ⟨eo, ec, es1, eg, el⟩ := e
      simp only at d0 d1 d2 d3 d4
      unfold ch2 at HB HG
      simp only at HB HG
      have f2 := hf.trans (Fr.alloc wr (.cells #[.int .i64 eo, .int .i64 ec, .int .i64 es1, .int .i64 eg, .bool el] 89))
      go_wp2_with fail
      refine (within_any _ _ _ _).mono ?_
      rintro e y ⟨rfl, rfl⟩
      clear d0 d1 d2 d3 d4
      cases h1 : inB 0 8 ec
      · have HN : Hid (R = false) := HB.out (by rw [h1]; rfl)
        go_wp2_with fail
        go_ret
        exact ⟨ret_bool HN.out.symm, f2⟩
      go_wp2_with fail
      refine (within_any _ _ _ _).mono ?_
      rintro e y ⟨rfl, rfl⟩
      cases h2 : inB 0 1000000 es1
      · have HN : Hid (R = false) := HB.out (by rw [h1, h2]; rfl)
        go_wp2_with fail
        go_ret
        exact ⟨ret_bool HN.out.symm, f2⟩
      go_wp2_with fail
      refine (within_any _ _ _ _).mono ?_
      rintro e y ⟨rfl, rfl⟩
      cases h3 : inB 0 es1 eg
      · have HN : Hid (R = false) := HB.out (by rw [h1, h2, h3]; rfl)
        go_wp2_with fail
        go_ret
        exact ⟨ret_bool HN.out.symm, f2⟩
      have b1 := inB_true h1
      have b2 := inB_true h2
      have b3 := inB_true h3
      have hwr : IntKind.i64.wrap (es1 - eg) = es1 - eg := by rw [IntKind.wrap_i64]; omega
      by_cases h4 : es1 - eg ≤ ec
      · have HN : Hid (∀ j (hj : j < es.length), j < k + 1 → ch2 es[j] = true) := HG.out (by rw [h1, h2, h3, decide_eq_true h4]; rfl)
        have hd : decide (ec < es1 - eg) = false := decide_eq_false (by omega)
        clear HB HG b1 b2 b3
        go_wp2_with fail
        go_roundw
        case rel => exact ⟨k + 1, by omega, by go_num, HN, f2⟩
        case measure => simp [intOf]; omega
      · have HN : Hid (R = false) := HB.out (by rw [h1, h2, h3, decide_eq_false h4]; rfl)
        have hd : decide (ec < es1 - eg) = true := decide_eq_true (by omega)
        have h4' : ec < es1 - eg := by omega
        clear HB HG b1 b2 b3 h4
        go_wp2_with fail
        go_ret
        exact ⟨ret_bool HN.out.symm, f2⟩
    · have HN : Hid (U = R) := by
        show U = R
        rw [HR.out, all_take (p := ch2) (fun j hj => HA.out j hj (by omega))]; rfl
      go_wp2_with fail
      refine (cR _ hf).mono ?_
      rintro e y ⟨rfl, fy⟩
      go_wp2_with fail
      go_ret
      exact ⟨ret_bool HN.out, hf.trans fy⟩
end Go.Proofs.YtcofhmikdkkigaaGreatDoor
namespace Go.Proofs.YtcofhmikdkkigaaGreatDoor
open Go.RowKit

theorem lvs_o {B : Nat → Prop} {w : World} {lvs : List Lv} {ls : List Lk} (h : LksR B w lvs ls) : lvs.map Lv.o = ls.map Lk.o := by
  apply List.ext_getElem
  · simpa using h.len
  · intro j h1 h2
    simp only [List.length_map] at h1 h2
    simp only [List.getElem_map]
    exact (h.at_ j h1 h2).o

set_option maxHeartbeats 2000000 in
theorem locksOk_any {B : Nat → Prop} (ao : Option Addr) (n c : Nat) (g : Int) (lvs : List Lv) (ls : List Lk) (w : World) (hn : lvs.length = n) (hl : lvs.length ≤ 1048576) (g0 : 1 ≤ g) (g1 : g ≤ 16) (h : ReadsG layL w ao lvs) (hL : LksR B w lvs ls) :
    Calls Tryz.prog 66 #[.slice ao n c, .int .i64 g] w fun e w' => e = .returned (.bool (ls.all (lk2 g) && upFrom 15 (-1) (ls.map Lk.o))) ∧ Fr w w' := by
  subst hn
  have cR := fun u (f : Fr w u) => risesL_any ao lvs.length c lvs 15 u rfl hl (h.fr f)
  rw [lvs_o hL] at cR
  have HL : Hid (lvs.length = ls.length) := hL.len
  obtain ⟨U, hU⟩ : ∃ U, U = upFrom 15 (-1) (ls.map Lk.o) := ⟨_, rfl⟩
  simp only [← hU] at cR ⊢
  clear hU
  obtain ⟨R, hR⟩ : ∃ R, R = (ls.all (lk2 g) && U) := ⟨_, rfl⟩
  rw [← hR]
  have HR : Hid (R = (ls.all (lk2 g) && U)) := hR
  clear hR
  have hgw : IntKind.i64.wrap (g - 1) = g - 1 := by rw [IntKind.wrap_i64]; omega
  go_enter Tryz.func66, Tryz.ntmps66
  go_wp2_with fail
  go_loopw [11] (fun i wr => ∃ k : Nat, k ≤ lvs.length ∧ i = .int .i64 k ∧ Hid (∀ j (hj : j < ls.length), j < k → lk2 g ls[j] = true) ∧ Fr w wr) (fun i _ => lvs.length - (intOf i).toNat)
  case atStart => exact ⟨0, Nat.zero_le _, rfl, fun j hj hk => by omega, Fr.refl w⟩
  case round =>
    obtain ⟨k, hk, rfl, HA, hf⟩ := hrel
    by_cases hlt : k < lvs.length
    · have hlt2 : k < ls.length := by have := HL.out; omega
      obtain ⟨b, off, rfl, d0, d1, d2⟩ := lv_at (h.fr hf) k hlt
      have HB : Hid (lk2 g ls[k] = false → R = false) := fun q => by rw [HR.out, all_bad hlt2 q]; rfl
      have HG : Hid (lk2 g ls[k] = true → ∀ j (hj : j < ls.length), j < k + 1 → lk2 g ls[j] = true) := fun q => upto_good HA.out hlt2 q
      have hlk := (hL.at_ k hlt hlt2).fr hf
      obtain ⟨e, he⟩ : ∃ e, e = lvs[k] := ⟨_, rfl⟩
      obtain ⟨l, hll⟩ : ∃ l, l = ls[k] := ⟨_, rfl⟩
      rw [← hll] at HB HG hlk
      rw [← he] at hlk
      simp only [← he] at d0 d1 d2
      clear he hll hlt2
      have HW : Hid (e.wr = l.wr) := hlk.wr
      have HN : Hid (e.rn = l.rd.length) := hlk.rn
      have hsz : e.rn ≤ 1048576 := by have := hlk.sz; have := HN.out; omega
      have cI := fun u (f : Fr wr u) => risesI_any e.ro e.rn e.rc l.rd (g - 1) u HN.out.symm hlk.sz (hlk.rd.fr f)
      obtain ⟨Q, hQ⟩ : ∃ Q, Q = upFrom (g - 1) (-1) l.rd := ⟨_, rfl⟩
      unfold lk2 at HB HG
      rw [← hQ] at HB HG
      simp only [← hQ] at cI
      rw [← HW.out, ← HN.out] at HB HG
      clear hQ hlk
      obtain ⟨eo, ew, er, en, ec⟩ := e
      simp only at d0 d1 d2 HB HG cI hsz
      have f2 := Fr.alloc wr (.cells #[.int .i64 eo, .int .i64 ew, .slice er en ec] 86)
      by_cases h0 : en = 0
      · subst h0
        go_wp2_with fail
        refine (within_any _ _ _ _).mono ?_
        rintro e y ⟨rfl, rfl⟩
        cases h1 : inB 0 (g - 1) ew
        · have HX : Hid (R = false) := HB.out (by rw [h1]; rfl)
          clear d0 d1 d2
          go_wp2_with fail
          go_ret
          exact ⟨ret_bool HX.out.symm, hf.trans f2⟩
        · have HX : Hid (∀ j (hj : j < ls.length), j < k + 1 → lk2 g ls[j] = true) := HG.out (by rw [h1]; rfl)
          clear d0 d1 d2
          go_wp2_with fail
          go_roundw
          case rel => exact ⟨k + 1, by omega, by go_num, HX, hf.trans f2⟩
          case measure => simp [intOf]; omega
      · have e0 : ((en : Int) == 0) = false := beq_eq_false_iff_ne.2 (by omega)
        have h2 : (0 : Int) < (en : Int) := by omega
        have h3 : decide (en = 0) = false := decide_eq_false h0
        have h4 : decide (0 < en) = true := decide_eq_true (by omega)
        cases h5 : (ew == -1)
        · have HX : Hid (R = false) := HB.out (by rw [h3, h4, h5]; rfl)
          clear h3 h4 h0
          go_wp2_with fail
          go_ret
          exact ⟨ret_bool HX.out.symm, hf.trans f2⟩
        · cases Q
          · have HX : Hid (R = false) := HB.out (by rw [h3, h4, h5]; rfl)
            clear h3 h4 h0
            go_wp2_with fail
            refine (cI _ f2).mono ?_
            rintro e y ⟨rfl, rfl⟩
            go_wp2_with fail
            go_ret
            exact ⟨ret_bool HX.out.symm, hf.trans f2⟩
          · have HX : Hid (∀ j (hj : j < ls.length), j < k + 1 → lk2 g ls[j] = true) := HG.out (by rw [h3, h4, h5]; rfl)
            clear h3 h4 h0
            go_wp2_with fail
            refine (cI _ f2).mono ?_
            rintro e y ⟨rfl, rfl⟩
            go_wp2_with fail
            go_roundw
            case rel => exact ⟨k + 1, by omega, by go_num, HX, hf.trans f2⟩
            case measure => simp [intOf]; omega
    · have HX : Hid (U = R) := by
        show U = R
        rw [HR.out, all_take (p := lk2 g) (fun j hj => HA.out j hj (by have := HL.out; omega))]; rfl
      go_wp2_with fail
      refine (cR _ hf).mono ?_
      rintro e y ⟨rfl, fy⟩
      go_wp2_with fail
      go_ret
      exact ⟨ret_bool HX.out, hf.trans fy⟩

def scB2 (m : Scn) : Bool := inB 1 16 m.g && ((m.ls.all (lk2 m.g) && upFrom 15 (-1) (m.ls.map Lk.o)) && ((m.cs.all ch2 && upFrom 15 (-1) (m.cs.map Ch.o)) && ((m.gs.all (fun c => inB 1 1000000 c.n) && upFrom 15 (-1) (m.gs.map Ct.o)) && upFrom 15 (-1) m.os)))

theorem upFrom_iff (most : Int) (xs : List Int) : ∀ last, upFrom most last xs = true ↔ (∀ x ∈ xs, last < x ∧ x ≤ most) ∧ xs.Pairwise (· < ·) := by
  induction xs with
  | nil => intro last; simp [upFrom]
  | cons x xs ih =>
    intro last
    rw [upFrom, Bool.and_eq_true, Bool.and_eq_true, decide_eq_true_eq, decide_eq_true_eq, ih x, List.pairwise_cons]
    constructor
    · rintro ⟨⟨h1, h2⟩, h3, h4⟩
      refine ⟨fun y hy => ?_, fun y hy => (h3 y hy).1, h4⟩
      rcases List.mem_cons.1 hy with rfl | hy
      · exact ⟨h1, h2⟩
      · have := h3 y hy; exact ⟨by omega, this.2⟩
    · rintro ⟨h1, h2, h3⟩
      have hx := h1 x (List.mem_cons_self ..)
      exact ⟨hx, fun y hy => ⟨h2 y hy, (h1 y (List.mem_cons_of_mem _ hy)).2⟩, h3⟩
theorem adj_iff {α : Type} (o : α → Int) (xs : List α) : (∀ j (hj : j + 1 < xs.length), o xs[j] < o xs[j + 1]) ↔ (xs.map o).Pairwise (· < ·) := by
  rw [List.pairwise_iff_getElem]
  constructor
  · intro h i j hi hj hij
    simp only [List.length_map] at hi hj
    simp only [List.getElem_map]
    induction j with
    | zero => omega
    | succ j ih =>
      have h1 := h j hj
      by_cases e : i = j
      · subst e; exact h1
      · have := ih (by omega) (by omega); omega
  · intro h j hj
    have := h j (j + 1) (by simp; omega) (by simpa using hj) (by omega)
    simpa using this
theorem rowB_iff {α : Type} (p : α → Bool) (o : α → Int) (xs : List α) : rowB p o xs = true ↔ (∀ x ∈ xs, p x = true) ∧ (xs.map o).Pairwise (· < ·) := by
  rw [← adj_iff]
  constructor
  · intro h
    refine ⟨fun x hx => ?_, fun j hj => ?_⟩
    · obtain ⟨j, hj, rfl⟩ := List.mem_iff_getElem.1 hx
      rw [rowB, List.all_eq_true] at h
      have := h j (List.mem_range.2 hj)
      cases hp : p xs[j] with
      | true => rfl
      | false => rw [rowAt_bad hj hp] at this; cases this
    · rw [rowB, List.all_eq_true] at h
      have h2 := h (j + 1) (List.mem_range.2 hj)
      by_cases hle : o xs[j + 1] ≤ o xs[j]
      · rw [rowAt_down hj hle] at h2; cases h2
      · omega
  · rintro ⟨h1, h2⟩
    refine rowB_yes fun j hj => ?_
    cases j with
    | zero => exact rowAt_zero hj (h1 _ (List.getElem_mem hj))
    | succ j => exact rowAt_up hj (h1 _ (List.getElem_mem hj)) (h2 j hj)
theorem rdB_iff (g : Int) (xs : List Int) : rdB g xs = true ↔ (∀ x ∈ xs, 0 ≤ x ∧ x ≤ g - 1) ∧ xs.Pairwise (· < ·) := by
  have hm : xs.map (fun x => x) = xs := by simp
  have ha := adj_iff (fun x : Int => x) xs
  rw [hm] at ha
  rw [← ha]
  constructor
  · intro h
    rw [rdB, List.all_eq_true] at h
    have h1 : ∀ j (hj : j < xs.length), (0 ≤ xs[j] ∧ xs[j] ≤ g - 1) ∧ (0 < j → xs.getD (j - 1) 0 < xs[j]) := by
      intro j hj
      have h2 := h j (List.mem_range.2 hj)
      unfold rdAt at h2
      simp only [Bool.and_eq_true, Bool.or_eq_true, decide_eq_true_eq, getD_at hj] at h2
      refine ⟨inB_true h2.1, fun h0 => ?_⟩
      rcases h2.2 with h4 | h4
      · omega
      · exact h4
    refine ⟨fun x hx => ?_, fun j hj => ?_⟩
    · obtain ⟨j, hj, rfl⟩ := List.mem_iff_getElem.1 hx
      exact (h1 j hj).1
    · have := (h1 (j + 1) hj).2 (by omega)
      rwa [Nat.add_sub_cancel, getD_at (by omega)] at this
  · rintro ⟨h1, h2⟩
    refine rdB_yes fun j hj => ?_
    have h3 := h1 _ (List.getElem_mem hj)
    unfold rdAt
    rw [getD_at hj, inB_mk h3.1 h3.2]
    cases j with
    | zero => simp
    | succ j =>
      have := h2 j hj
      rw [Nat.add_sub_cancel, getD_at (by omega), decide_eq_true this]
      simp
theorem lk_iff {g : Int} (l : Lk) : lkB g l = true ↔ lk2 g l = true ∧ 0 ≤ l.o ∧ l.o ≤ 15 := by
  unfold lkB lk2
  simp only [Bool.and_eq_true, Bool.or_eq_true, decide_eq_true_eq, Bool.not_eq_true', beq_eq_false_iff_ne, beq_iff_eq, rdB_iff, upFrom_iff, inB, ne_eq, decide_eq_decide]
  constructor
  · rintro ⟨⟨h1, h2⟩, ⟨h3, h4⟩, ⟨h5, h6⟩, h7⟩
    refine ⟨?_, h3, h4⟩
    by_cases h8 : l.rd.length = 0
    · exact .inl ⟨h8, by omega, h6⟩
    · exact .inr ⟨⟨by omega, by omega⟩, fun x hx => ⟨by have := h1 x hx; omega, (h1 x hx).2⟩, h2⟩
  · rintro ⟨h1 | h1, h3, h4⟩
    · obtain ⟨h5, h6, h7⟩ := h1
      have hn : l.rd = [] := List.eq_nil_of_length_eq_zero h5
      refine ⟨⟨?_, ?_⟩, ⟨h3, h4⟩, ⟨by omega, h7⟩, by omega⟩
      · rw [hn]; simp
      · rw [hn]; exact List.Pairwise.nil
    · obtain ⟨⟨h5, h6⟩, h7, h8⟩ := h1
      obtain ⟨x, hx⟩ := List.exists_mem_of_length_pos h5
      have := h7 x hx
      exact ⟨⟨fun x hx => ⟨by have := h7 x hx; omega, (h7 x hx).2⟩, h8⟩, ⟨h3, h4⟩, ⟨by omega, by omega⟩, by omega⟩
theorem ch_iff (c : Ch) : chB c = true ↔ ch2 c = true ∧ 0 ≤ c.o ∧ c.o ≤ 15 := by
  unfold chB ch2
  simp only [Bool.and_eq_true, decide_eq_true_eq, inB]
  constructor
  · rintro ⟨h1, h2, h3, h4, h5⟩
    exact ⟨⟨⟨⟨h2, h3⟩, h4⟩, by omega⟩, h1⟩
  · rintro ⟨⟨⟨⟨h2, h3⟩, h4⟩, h5⟩, h1⟩
    exact ⟨h1, h2, h3, h4, by omega⟩
theorem ct_iff (c : Ct) : ctB c = true ↔ inB 1 1000000 c.n = true ∧ 0 ≤ c.o ∧ c.o ≤ 15 := by
  unfold ctB
  simp only [Bool.and_eq_true, decide_eq_true_eq, inB]
  constructor
  · rintro ⟨h1, h2⟩; exact ⟨h2, h1⟩
  · rintro ⟨h1, h2⟩; exact ⟨h2, h1⟩
theorem row_iff {α : Type} (p q : α → Bool) (o : α → Int) (xs : List α) (h : ∀ x, p x = true ↔ q x = true ∧ 0 ≤ o x ∧ o x ≤ 15) : rowB p o xs = (xs.all q && upFrom 15 (-1) (xs.map o)) := by
  rw [Bool.eq_iff_iff, rowB_iff, Bool.and_eq_true, List.all_eq_true, upFrom_iff]
  constructor
  · rintro ⟨h1, h2⟩
    refine ⟨fun x hx => ((h x).1 (h1 x hx)).1, fun y hy => ?_, h2⟩
    obtain ⟨x, hx, rfl⟩ := List.mem_map.1 hy
    have := ((h x).1 (h1 x hx)).2
    exact ⟨by omega, this.2⟩
  · rintro ⟨h1, h2, h3⟩
    refine ⟨fun x hx => (h x).2 ⟨h1 x hx, ?_⟩, h3⟩
    have := h2 (o x) (List.mem_map.2 ⟨x, hx, rfl⟩)
    exact ⟨by omega, this.2⟩
theorem scB_same (m : Scn) : scB2 m = scB m := by
  unfold scB2 scB
  rw [row_iff (lkB m.g) (lk2 m.g) Lk.o m.ls lk_iff, row_iff chB ch2 Ch.o m.cs ch_iff, row_iff ctB (fun c => inB 1 1000000 c.n) Ct.o m.gs ct_iff]
  have h5 : rowB (inB 0 15) (fun x => x) m.os = upFrom 15 (-1) m.os := by
    rw [row_iff (inB 0 15) (fun _ => true) (fun x => x) m.os (fun x => by simp [inB])]
    simp
  rw [h5]
end Go.Proofs.YtcofhmikdkkigaaGreatDoor
namespace Go.Proofs.YtcofhmikdkkigaaGreatDoor
open Go.RowKit

theorem memB_step {xs : List Int} {x : Int} {k : Nat} (hk : k < xs.length) (h : x ≠ xs[k]) : memB (xs.drop k) x = memB (xs.drop (k + 1)) x := by
  rw [List.drop_eq_getElem_cons hk, memB, List.any_cons, show (xs[k] == x) = false by simpa using Ne.symm h]
  rfl
theorem memB_here {xs : List Int} {x : Int} {k : Nat} (hk : k < xs.length) (h : x = xs[k]) : memB (xs.drop k) x = true := by
  rw [List.drop_eq_getElem_cons hk, memB, List.any_cons, show (xs[k] == x) = true by simpa using h.symm]
  rfl

set_option maxHeartbeats 1000000 in
theorem index_any (ao : Option Addr) (n c : Nat) (xs : List Int) (x : Int) (w : World) (hn : xs.length = n) (hl : xs.length ≤ 1048576) (h : Reads w ao xs) :
    Calls Tryz.prog 192 #[.slice ao n c, .int .i64 x] w fun e w' => ∃ r : Int, e = .returned (.int .i64 r) ∧ decide (0 ≤ r) = memB xs x ∧ w' = w := by
  subst hn
  obtain ⟨R, hR⟩ : ∃ R, R = memB xs x := ⟨_, rfl⟩
  rw [← hR]
  have HR : Hid (R = memB xs x) := hR
  clear hR
  go_enter Tryz.func192, Tryz.ntmps192
  go_wp2_with fail
  go_loopw [8] (fun i wr => ∃ (k : Nat), k ≤ xs.length ∧ i = .int .i64 k ∧ Hid (R = memB (xs.drop k) x) ∧ wr = w) (fun i _ => xs.length - (intOf i).toNat)
  case atStart => exact ⟨0, Nat.zero_le _, rfl, HR, rfl⟩
  case round =>
    clear HR
    obtain ⟨k, hk, rfl, HR, rfl⟩ := hrel
    by_cases hlt : k < xs.length
    · obtain ⟨b, off, rfl, hc⟩ := h.at_ k hlt
      have hck := hc k hlt
      rw [getD_at hlt] at hck
      have HY : Hid (x ≠ xs[k] → R = memB (xs.drop (k + 1)) x) := fun h1 => HR.out.trans (memB_step hlt h1)
      have HF : Hid (x = xs[k] → R = true) := fun h1 => HR.out.trans (memB_here hlt h1)
      obtain ⟨z, hz⟩ : ∃ z, z = xs[k] := ⟨_, rfl⟩
      rw [← hz] at hck HY HF
      clear hz hc HR
      by_cases h1 : x = z
      · have HN : Hid (R = true) := HF.out h1
        subst h1
        go_wp2_with fail
        go_ret
        exact ⟨k, rfl, by rw [HN.out]; simp, rfl⟩
      · have HN : Hid (R = memB (xs.drop (k + 1)) x) := HY.out h1
        go_wp2_with fail
        go_roundw
        case rel => exact ⟨k + 1, by omega, by go_num, HN, trivial⟩
        case measure => simp [intOf]; omega
    · have HN : Hid (R = false) := by
        have h1 := HR.out
        rw [List.drop_eq_nil_of_le (by omega)] at h1
        exact h1
      go_wp2_with fail
      go_ret
      exact ⟨-1, rfl, by rw [HN.out]; simp, rfl⟩
theorem contains_any (ao : Option Addr) (n c : Nat) (xs : List Int) (x : Int) (w : World) (hn : xs.length = n) (hl : xs.length ≤ 1048576) (h : Reads w ao xs) :
    Calls Tryz.prog 162 #[.slice ao n c, .int .i64 x] w fun e w' => e = .returned (.bool (memB xs x)) ∧ w' = w := by
  go_enter Tryz.func162, Tryz.ntmps162
  go_wp2_with fail
  refine (index_any ao n c xs x w hn hl h).mono ?_
  rintro e u ⟨r, rfl, hr, rfl⟩
  go_wp2_with fail
  go_ret
  exact ⟨rfl, rfl⟩
end Go.Proofs.YtcofhmikdkkigaaGreatDoor
