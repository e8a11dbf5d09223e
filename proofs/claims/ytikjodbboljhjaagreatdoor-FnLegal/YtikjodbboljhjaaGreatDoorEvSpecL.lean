/-
  The bytes of one event, by the specification: l3Fields, l3Has, l3Event.
-/
import Derived.Test.YtikjodbboljhjaaGreatDoorEvs
import Derived.Test.YtikjodbboljhjaaGreatDoorEv2
import Derived.Test.YtikjodbboljhjaaGreatDoorPut
import Derived.Test.YtikjodbboljhjaaGreatDoorIntsApp2
import Derived.Test.YtikjodbboljhjaaGreatDoorEvTo
namespace Go.Proofs.YtikjodbboljhjaaGreatDoor
open Go.RowKit

theorem I64.small {x : Int} (h : 0 ≤ x ∧ x ≤ 65535) : I64 x := ⟨by omega, by omega⟩

/-- '[]int64{..}' -/
theorem own_lit (w : World) (xs : List Int) (hl : xs.length ≤ 4294967296) (hb : ∀ x ∈ xs, I64 x) : OwnS (w.alloc (.cells (xs.map (Value.int .i64)).toArray 2)) w.heap.size (.slice (some ⟨w.heap.size, 0, none⟩) xs.length xs.length) xs :=
  ⟨w.heap.size, xs.length, rfl, ⟨by simp, .inr ⟨w.heap.size, xs.length, _, rfl, Nat.le_refl _, heap_alloc_new w _, Nat.le_refl _, by unfold maxLen; omega, by simp, by rw [Nat.mul_one]; exact List.take_of_length_le (by simp)⟩⟩, hl, hb⟩

/-- The fields' numbers. -/
def flds (e : Ev) : List Int := [e.o, e.w, e.l, e.s, e.f, e.t]
theorem flds_at (e : Ev) (j : Nat) (h : j < 6) : (flds e).getD j 0 = e.at (j + 2) := by
  rcases (by omega : j = 0 ∨ j = 1 ∨ j = 2 ∨ j = 3 ∨ j = 4 ∨ j = 5) with rfl | rfl | rfl | rfl | rfl | rfl <;> rfl

/-- The numbers that are kept of an event: its Kind, its Gor, those of its first i fields that it has. -/
def nums (e : Ev) (i : Nat) : List Int := e.k :: e.g :: ((List.range i).filter fun j => hasB e.k (2 ^ j)).map fun j => e.at (j + 2)
theorem nums_yes (e : Ev) (i : Nat) (h : hasB e.k (2 ^ i) = true) : nums e (i + 1) = nums e i ++ [e.at (i + 2)] := by
  simp [nums, List.range_succ, List.filter_append, h]
theorem nums_no (e : Ev) (i : Nat) (h : hasB e.k (2 ^ i) = false) : nums e (i + 1) = nums e i := by
  simp [nums, List.range_succ, List.filter_append, h]
theorem nums_len (e : Ev) (i : Nat) : (nums e i).length ≤ i + 2 := by
  have := List.length_filter_le (fun j => hasB e.k (2 ^ j)) (List.range i)
  simp [nums] at this ⊢
  omega
theorem nums_mem (e : Ev) (i : Nat) (x : Int) (h : x ∈ nums e i) : ∃ j, x = e.at j := by
  simp only [nums, List.mem_cons, List.mem_map] at h
  rcases h with rfl | rfl | ⟨j, -, rfl⟩
  · exact ⟨0, rfl⟩
  · exact ⟨1, rfl⟩
  · exact ⟨j + 2, rfl⟩
theorem nums_ev (e : Ev) : (nums e 6).flatMap putL = evL e := by
  rw [nums, evL, numsL, offs, offF, ← List.range_eq_range']
  simp only [List.flatMap_cons, List.flatMap_map]
  rfl
theorem flat_take (L : List Int) (t : Nat) (h : t < L.length) : ((L.take t).flatMap putL) ++ putL L[t] = (L.take (t + 1)).flatMap putL := by
  rw [List.take_succ_eq_append_getElem h, List.flatMap_append]
  simp
theorem flat_len (L : List Int) : (L.flatMap putL).length ≤ L.length * 6 := by
  induction L with
  | nil => simp
  | cons x L ih =>
    have := (putL_len x).2
    rw [List.flatMap_cons, List.length_append, List.length_cons]
    omega

end Go.Proofs.YtikjodbboljhjaaGreatDoor
