/-
  The drawing cursor of the specification (l1Cur): what is drawn is in range, and a draw writes into the cursor alone.
-/
import Derived.Test.YtkfcchapfklpgaaGrownSet
import Derived.Test.YtkfcchapfklpgaaInts
import Derived.Test.YtkfcchapfklpgaaRange
import Derived.Laws.Bits128
import Derived.Laws.Shifts
import Derived.Laws.Pointers
namespace Go.Proofs.Ytkfcchapfklpgaa
open Go.RowKit

theorem i64_and255 (n : Int) : bits .and .i64 n 255 = n % 256 := by
  have h255 : (BitVec.ofInt 64 255).toNat = 2 ^ 8 - 1 := by decide
  have key : (BitVec.ofInt 64 n &&& BitVec.ofInt 64 255).toNat = (n % ((2 ^ 64 : Nat) : Int)).toNat % 2 ^ 8 := by
    rw [BitVec.toNat_and, BitVec.toNat_ofInt, h255, Nat.and_two_pow_sub_one_eq_mod]
  show IntKind.i64.wrap ((BitVec.ofInt 64 n &&& BitVec.ofInt 64 255).toNat : Nat) = n % 256
  rw [key, IntKind.wrap_i64]
  omega
theorem i64_and30 (n : Int) : bits .and .i64 n 1073741823 = n % 1073741824 := by
  have h30 : (BitVec.ofInt 64 1073741823).toNat = 2 ^ 30 - 1 := by decide
  have key : (BitVec.ofInt 64 n &&& BitVec.ofInt 64 1073741823).toNat = (n % ((2 ^ 64 : Nat) : Int)).toNat % 2 ^ 30 := by
    rw [BitVec.toNat_and, BitVec.toNat_ofInt, h30, Nat.and_two_pow_sub_one_eq_mod]
  show IntKind.i64.wrap ((BitVec.ofInt 64 n &&& BitVec.ofInt 64 1073741823).toNat : Nat) = n % 1073741824
  rw [key, IntKind.wrap_i64]
  omega

/-- The bytes of a slice: n of them at the address ao. -/
def Bytes (w : World) (g : Nat) (ao : Option Addr) (n : Nat) : Prop :=
  ∀ i, i < n → ∃ b off, ao = some ⟨b, off, none⟩ ∧ b < g ∧ ∀ j, j < n → ∃ x : Int, w.cell? ⟨b, off + j, none⟩ = some (.int .u8 x) ∧ 0 ≤ x ∧ x ≤ 255

theorem Bytes.keep {w w' : World} {g n : Nat} {ao : Option Addr} (h : Bytes w g ao n) (k : w.grownBy w' (some g)) : Bytes w' g ao n := by
  intro i hi
  obtain ⟨b, off, e, hb, hc⟩ := h i hi
  refine ⟨b, off, e, hb, fun j hj => ?_⟩
  obtain ⟨x, hx, h0, h1⟩ := hc j hj
  exact ⟨x, k.cell hx (by simp; omega), h0, h1⟩

theorem cur_set {w : World} {g : Nat} {a0 a1 a2 : Value} {t : TypeId} (hg : w.heap[g]? = some (.cells #[a0, a1, a2] t (0, 0))) (v : Value) :
    (w.setCell ⟨g, 2, none⟩ v).heap[g]? = some (.cells #[a0, a1, v] t (0, 0)) ∧ (w.setCell ⟨g, 1, none⟩ v).heap[g]? = some (.cells #[a0, v, a2] t (0, 0)) := by
  have h1 := heap_setCell_same w g 2 #[a0, a1, a2] t v hg
  have h2 := heap_setCell_same w g 1 #[a0, a1, a2] t v hg
  exact ⟨by simpa using h1, by simpa using h2⟩

theorem emod_le_self (a n : Int) (h0 : 0 ≤ a) (hn : 0 < n) : a % n ≤ a := by
  have h1 := Int.mul_nonneg (show 0 ≤ n by omega) (Int.ediv_nonneg h0 (show 0 ≤ n by omega))
  rw [Int.emod_def]
  omega
theorem byte_in (n : Int) : 0 ≤ bits .and .i64 n 255 ∧ bits .and .i64 n 255 ≤ 255 := by rw [i64_and255]; omega

/-- What is new, and writes into it, beside the writes into the block g. -/
theorem grown_then {a b c : World} {g : Nat} {row : Option Nat} (h : a.grownBy b (some g)) (k : b.grownBy c row) (hr : ∀ j, row = some j → a.heap.size ≤ j ∨ j = g) : a.grownBy c (some g) :=
  ⟨k.os.trans h.os, k.tape.trans h.tape, k.output.trans h.output, Nat.le_trans h.size k.size,
    fun i hi hne => (k.block i (Nat.lt_of_lt_of_le hi h.size) (fun e => by rcases hr i e.symm with q | q; omega; exact hne (by rw [q]))).trans (h.block i hi hne)⟩
theorem grown_refl (w : World) (row : Option Nat) : w.grownBy w row := ⟨rfl, rfl, rfl, Nat.le_refl _, fun _ _ _ => rfl⟩

/-- One of some numbers that lie in a block of their own. -/
theorem lit_cell {w : World} {t : TypeId} (zs : List Int) (hz : ∀ z ∈ zs, I64 z) (k : Nat) (hk : k < zs.length) :
    ∃ z, I64 z ∧ (w.alloc (.cells (zs.map (Value.int .i64)).toArray t)).cell? ⟨w.heap.size, k, none⟩ = some (.int .i64 z) := by
  refine ⟨zs[k], hz _ (List.getElem_mem hk), ?_⟩
  rw [cell_of_row _ _ _ _ _ _ (heap_alloc_new w _)]
  simp [hk]

set_option maxHeartbeats 400000 in
theorem l1Min_any (a b : Int) (w : World) :
    Calls Try.prog 53 #[.int .i64 a, .int .i64 b] w fun e w' => e = .returned (.int .i64 (min a b)) ∧ w' = w := by
  by_cases h : a < b
  · go_enter Try.func53, Try.ntmps53
    go_wp2
    go_ret
    exact ⟨ret_int (by omega), rfl⟩
  · go_enter Try.func53, Try.ntmps53
    go_wp2
    go_ret
    exact ⟨ret_int (by omega), rfl⟩

end Go.Proofs.Ytkfcchapfklpgaa
