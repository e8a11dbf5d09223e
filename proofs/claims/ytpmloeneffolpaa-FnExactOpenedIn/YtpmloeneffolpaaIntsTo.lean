/-
  The walk of the laws' toInt64S: a copy in new memory.
-/
import Derived.Test.YtpmloeneffolpaaInts
namespace Go.Proofs.Ytpmloeneffolpaa
open Go.RowKit

theorem take_succ_map (xs : List Int) (k : Nat) (h : k < xs.length) :
    (((xs.take k).map (Value.int .i64)) ++ List.replicate (xs.length - k) (Value.int .i64 0)).set k (.int .i64 xs[k]) =
      ((xs.take (k + 1)).map (Value.int .i64)) ++ List.replicate (xs.length - (k + 1)) (Value.int .i64 0) := by
  apply List.ext_getElem?
  intro j
  simp only [List.getElem?_set, List.getElem?_append, List.length_append, List.length_map, List.length_take, List.length_replicate, List.getElem?_map, List.getElem?_take, List.getElem?_replicate]
  by_cases hj : j = k
  · subst hj
    have e1 : j < min (j + 1) xs.length := by omega
    rw [if_pos rfl, if_pos (by omega), if_pos e1, if_pos (by omega), List.getElem?_eq_getElem h]
    rfl
  · by_cases hlt : j < k
    · have e1 : j < min k xs.length := by omega
      have e2 : j < min (k + 1) xs.length := by omega
      rw [if_neg (by omega), if_pos e1, if_pos e2, if_pos hlt, if_pos (by omega)]
    · have e1 : ¬ j < min k xs.length := by omega
      have e2 : ¬ j < min (k + 1) xs.length := by omega
      rw [if_neg (by omega), if_neg e1, if_neg e2]
      by_cases h3 : j < xs.length
      · rw [if_pos (by omega), if_pos (by omega)]
      · rw [if_neg (by omega), if_neg (by omega)]

set_option maxHeartbeats 400000 in
theorem toI_any (ao : Option Addr) (n cap : Nat) (xs : List Int) (w : World) (hn : xs.length = n) (h : Reads w ao xs) :
    Calls Try.prog 22 #[.slice ao n cap] w fun e w' => e = .returned (.slice (some ⟨w.heap.size, 0, none⟩) n n) ∧ OwnI w' w.heap.size (.slice (some ⟨w.heap.size, 0, none⟩) n n) xs ∧ Fr w w' := by
  subst hn
  have hl := h.len
  obtain ⟨i0, hi, hz0, hz1, hz2⟩ := info_parts Try.info2
  go_enter Try.func22, Try.ntmps22
  go_wp2_with (at_make; refine wpList_make_full _ rfl _ _ 26 rfl w.heap.size 2 i0 (.int .i64 0) 1 Try.underlying26 hi hz0 hz1 .i64 .i64 _ _ xs.length rfl rfl rfl rfl (by rw [hz2]; omega) (by unfold maxLen; omega) (Nat.le_refl _) ?_; intro w1 hown hgrow)
  go_loopw [4] (fun i wr => ∃ k : Nat, k ≤ xs.length ∧ i = .int .i64 k ∧ wr.ownsRow w.heap.size 2 1 (.slice (some ⟨w.heap.size, 0, none⟩) xs.length xs.length) xs.length (((xs.take k).map (Value.int .i64)) ++ List.replicate (xs.length - k) (Value.int .i64 0)) ∧ Fr w wr) (fun i _ => xs.length - (intOf i).toNat)
  case atStart =>
    refine ⟨0, Nat.zero_le _, rfl, ?_, hgrow⟩
    simpa [toList_madeCells_one, Value.cells] using hown
  case round =>
    obtain ⟨k, hk, rfl, ho, hf⟩ := hrel
    by_cases hlt : k < xs.length
    · obtain ⟨b, off, rfl, hc⟩ := h.at_ k hlt
      have hck := hf.cell (hc k hlt)
      have hfz := ho.frozenAt k
      have hce := ho.cellAt k (by omega)
      rw [getD_at hlt] at hck
      have hst := ho.stored k (.int .i64 xs[k])
      rw [take_succ_map xs k hlt] at hst
      clear hc hown hgrow
      go_wp2
      go_roundw
      case rel => exact ⟨k + 1, by omega, by go_num, hst.1, hf.then hst.2 (by intro j hj; simp at hj; omega)⟩
      case measure => simp [intOf]; omega
    · go_wp2
      go_ret
      have hkn : k = xs.length := by omega
      subst hkn
      refine ⟨rfl, ⟨?_, hl, h.bd⟩, hf⟩
      simpa using ho
end Go.Proofs.Ytpmloeneffolpaa
