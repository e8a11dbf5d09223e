/-
  The program's reader behind its pointer: more and number.
-/
import Derived.Test.YtnekojcgbokhpaaDoorRd
import Derived.Laws.Bits128
import Derived.Laws.Shifts
import Derived.Laws.Pointers
namespace Go.Proofs.YtnekojcgbokhpaaDoor
open Go.RowKit

/-- A reader lies in the block r: the bytes v, at the place i. -/
def Rdr (w : World) (r : Nat) (v : Value) (i : Int) : Prop := w.heap[r]? = some (.cells #[v, .int .i64 i] 65 (0, 0))
theorem Rdr.lt {w : World} {r : Nat} {v : Value} {i : Int} (h : Rdr w r v i) : r < w.heap.size := (Array.getElem?_eq_some_iff.1 h).1
theorem Rdr.c0 {w : World} {r : Nat} {v : Value} {i : Int} (h : Rdr w r v i) : w.cell? ⟨r, 0, none⟩ = some v := by rw [cell_of_row _ _ _ _ _ _ h]; rfl
theorem Rdr.c1 {w : World} {r : Nat} {v : Value} {i : Int} (h : Rdr w r v i) : w.cell? ⟨r, 1, none⟩ = some (.int .i64 i) := by rw [cell_of_row _ _ _ _ _ _ h]; rfl
theorem Rdr.free {w : World} {r : Nat} {v : Value} {i : Int} (h : Rdr w r v i) (k : Nat) : w.frozen? ⟨r, k, none⟩ = false := frozen_of_row w r k _ _ h
theorem Rdr.set {w : World} {r : Nat} {v : Value} {i : Int} (h : Rdr w r v i) (j : Int) : Rdr (w.setCell ⟨r, 1, none⟩ (.int .i64 j)) r v j := by
  have := heap_setCell_same w r 1 #[v, .int .i64 i] _ (.int .i64 j) h
  simpa [Rdr] using this
theorem Rdr.keep {w w' : World} {r : Nat} {v : Value} {i : Int} {row : Option Nat} (h : Rdr w r v i) (k : w.grownBy w' row) (hr : row ≠ some r) : Rdr w' r v i := (k.block r h.lt (fun q => hr q.symm)).trans h
theorem Rdr.fr {w w' : World} {r : Nat} {v : Value} {i : Int} (h : Rdr w r v i) (k : Fr w w') : Rdr w' r v i := h.keep k (by simp)
theorem Rdr.new (w : World) (v : Value) (i : Int) : Rdr (w.alloc (.cells #[v, .int .i64 i] 65)) w.heap.size v i := heap_alloc_new w _

/-- A fault lies in the block b: where, and why. -/
def Flt (w : World) (b : Nat) (i : Int) (why : Value) : Prop := w.heap[b]? = some (.cells #[.int .i64 i, why] 115 (0, 0))
theorem Flt.lt {w : World} {b : Nat} {v : Value} {i : Int} (h : Flt w b i v) : b < w.heap.size := (Array.getElem?_eq_some_iff.1 h).1
theorem Flt.c0 {w : World} {b : Nat} {v : Value} {i : Int} (h : Flt w b i v) : w.cell? ⟨b, 0, none⟩ = some (.int .i64 i) := by rw [cell_of_row _ _ _ _ _ _ h]; rfl
theorem Flt.c1 {w : World} {b : Nat} {v : Value} {i : Int} (h : Flt w b i v) : w.cell? ⟨b, 1, none⟩ = some v := by rw [cell_of_row _ _ _ _ _ _ h]; rfl
theorem Flt.keep {w w' : World} {b : Nat} {v : Value} {i : Int} {row : Option Nat} (h : Flt w b i v) (k : w.grownBy w' row) (hr : row ≠ some b) : Flt w' b i v := (k.block b h.lt (fun q => hr q.symm)).trans h
theorem Flt.new (w : World) (v : Value) (i : Int) : Flt (w.alloc (.cells #[.int .i64 i, v] 115)) w.heap.size i v := heap_alloc_new w _

theorem grown_trans' {a b c : World} {row : Option Nat} (h : a.grownBy b row) (k : b.grownBy c row) : a.grownBy c row :=
  ⟨k.os.trans h.os, k.tape.trans h.tape, k.output.trans h.output, Nat.le_trans h.size k.size, fun i hi hne => (k.block i (Nat.lt_of_lt_of_le hi h.size) hne).trans (h.block i hi hne)⟩
theorem Fr.row {a b : World} (row : Option Nat) (h : Fr a b) : a.grownBy b row := ⟨h.os, h.tape, h.output, h.size, fun i hi _ => h.block i hi (by simp)⟩
theorem grown_setCell (w : World) (g o : Nat) (v : Value) : w.grownBy (w.setCell ⟨g, o, none⟩ v) (some g) :=
  ⟨rfl, rfl, rfl, by simp, fun k _ hk => heap_setCell_other w ⟨g, o, none⟩ k v (fun e => hk (by simp [e]))⟩

set_option maxHeartbeats 400000 in
theorem more_any (r : Nat) (ao : Option Addr) (n cap : Nat) (i : Int) (w : World) (hr : Rdr w r (.slice ao n cap) i) :
    Calls Tryd.prog 70 #[.pointer (some ⟨r, 0, none⟩)] w fun e w' => e = .returned (.bool (inB 0 ((n : Int) - 1) i)) ∧ ∃ nq, w' = w.drewN nq := by
  have c0 := hr.c0
  have c1 := hr.c1
  by_cases h0 : 0 ≤ i
  · by_cases h1 : i < (n : Int)
    · rw [inB_mk h0 (by omega)]
      go_enter Tryd.func70, Tryd.ntmps70
      go_wp2
      go_quiet (fail)
      go_wp2
      go_ret
      exact ⟨rfl, _, rfl⟩
    · rw [inB_not (by omega)]
      have hb : decide (i < (n : Int)) = false := by simpa using h1
      go_enter Tryd.func70, Tryd.ntmps70
      go_wp2
      go_quiet (fail)
      go_wp2
      go_ret
      exact ⟨rfl, _, rfl⟩
  · rw [inB_not (by omega)]
    have hb : decide (0 ≤ i) = false := by simpa using h0
    go_enter Tryd.func70, Tryd.ntmps70
    go_wp2
    go_quiet (fail)
    go_wp2
    go_ret
    exact ⟨rfl, _, rfl⟩
end Go.Proofs.YtnekojcgbokhpaaDoor
