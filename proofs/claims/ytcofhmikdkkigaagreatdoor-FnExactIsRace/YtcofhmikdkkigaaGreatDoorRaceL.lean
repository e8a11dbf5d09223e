/-
  The pairs of the legal part are told alike by the whole list.
-/
import Derived.Test.YtcofhmikdkkigaaGreatDoorPrBF
import Derived.Test.YtcofhmikdkkigaaGreatDoorPrBC
import Derived.Test.YtcofhmikdkkigaaGreatDoorPrBB
namespace Go.Proofs.YtcofhmikdkkigaaGreatDoor
open Go.RowKit

theorem pairB_congr {es es' : List Ev} {lk : List Bool} {near : Bool} {j i : Nat} (hE : ∀ k, k ≤ j → evA es k = evA es' k) (hB : befN (eE es) j = befN (eE es') j) (hij : i < j) : pairB es lk near j i = pairB es' lk near j i := by
  have hi := hE i (by omega)
  have hj := hE j (by omega)
  have h1 : ∀ x, lasB es j i x = lasB es' j i x := fun x => by
    unfold lasB
    rw [Bool.eq_iff_iff, List.all_eq_true, List.all_eq_true]
    constructor
    · intro h k hk
      have := h k hk
      rw [hE k (by have := List.mem_range.1 hk; omega)] at this
      exact this
    · intro h k hk
      have := h k hk
      rw [← hE k (by have := List.mem_range.1 hk; omega)] at this
      exact this
  have h2 : ∀ x, nexB es lk j i x = nexB es' lk j i x := fun x => by
    unfold nexB
    rw [hi, Bool.eq_iff_iff, List.all_eq_true, List.all_eq_true]
    constructor
    · intro h k hk
      have := h k hk
      rw [hE k (by have := List.mem_range.1 hk; omega)] at this
      exact this
    · intro h k hk
      have := h k hk
      rw [← hE k (by have := List.mem_range.1 hk; omega)] at this
      exact this
  have h3 : bytB es lk near j i = bytB es' lk near j i := by
    unfold bytB
    rw [hi, hj]
    simp only [h1, h2]
  unfold pairB
  rw [hi, hj, hB, h3]
theorem pairsJ_congr {es es' : List Ev} {lk : List Bool} {near : Bool} {j : Nat} (hE : ∀ k, k ≤ j → evA es k = evA es' k) (hB : befN (eE es) j = befN (eE es') j) : pairsJ es lk near j = pairsJ es' lk near j := by
  unfold pairsJ
  congr 1
  refine List.filter_congr fun i hi => ?_
  exact pairB_congr hE hB (List.mem_range.1 hi)
theorem evA_lp {es : List Ev} {k : Nat} (h : k < (lpL es).length) : evA (lpL es) k = evA es k := by
  unfold lpL at h ⊢
  simp only [List.length_take] at h
  exact evA_take (by omega)
theorem bef_lp {es : List Ev} {j : Nat} (h : j < (lpL es).length) : befN (eE (lpL es)) j = befN (eE es) j := by
  obtain ⟨hb, e⟩ := lpL_bef h
  rw [e]
  have h2 := lpL_leg hb
  unfold rJ
  rw [if_pos ⟨by omega, by omega⟩, Int.toNat_natCast]
theorem pairsJ_lp {es : List Ev} {lk : List Bool} {near : Bool} {j : Nat} (h : j < (lpL es).length) : pairsJ (lpL es) lk near j = pairsJ es lk near j :=
  pairsJ_congr (fun k hk => evA_lp (by omega)) (bef_lp h)
theorem pairsL_lp {es : List Ev} {lk : List Bool} {near : Bool} : ∀ {N : Nat}, N ≤ (lpL es).length → pairsL (lpL es) lk near N = pairsL es lk near N
  | 0, _ => rfl
  | N + 1, h => by
    rw [pairsL, pairsL, pairsL_lp (by omega), pairsJ_lp (by omega)]
theorem lp_len {es : List Ev} (h : es.length ≤ 300) : (lpL es).length = (legS scn0 es).2.1 := by
  have : 0 ≤ legLen es := by unfold legLen; rw [if_neg (by omega)]; omega
  exact (lpL_leg this).2.1
theorem lp_none {es : List Ev} (h : ¬ es.length ≤ 300) : (lpL es).length = 0 := by
  unfold lpL legLen
  rw [if_pos (by omega)]
  simp
theorem leg_gor {es : List Ev} {i : Nat} (h : i < (lpL es).length) : 0 ≤ (evA es i).g ∧ (evA es i).g ≤ 15 := by
  have hb := (lpL_bef h).1
  have h2 := lpL_leg hb
  have hle := leg_len es scn0
  have hi : i < es.length := by omega
  have h3 := leg_at hi (by omega)
  have h1 := (code_parts h3.2.1).1
  rw [← evA_at hi] at h1
  simp only [evOk, Bool.and_eq_true] at h1
  exact inB_true h1.1.1.1.1.1.1.2
end Go.Proofs.YtcofhmikdkkigaaGreatDoor
