/-
  The laws' own copy of an event.
-/
import Derived.Test.YtihdablgnmkjnaaDoorEv
namespace Go.Proofs.YtihdablgnmkjnaaDoor
open Go.RowKit

/-- An event's eight cells. -/
def EvAt (w : World) (b : Nat) (e : Ev) : Prop :=
  w.cell? ⟨b, 0, none⟩ = some (.int .i64 e.k) ∧ w.cell? ⟨b, 1, none⟩ = some (.int .i64 e.g) ∧ w.cell? ⟨b, 2, none⟩ = some (.int .i64 e.o) ∧ w.cell? ⟨b, 3, none⟩ = some (.int .i64 e.w) ∧ w.cell? ⟨b, 4, none⟩ = some (.int .i64 e.l) ∧ w.cell? ⟨b, 5, none⟩ = some (.int .i64 e.s) ∧ w.cell? ⟨b, 6, none⟩ = some (.int .i64 e.f) ∧ w.cell? ⟨b, 7, none⟩ = some (.int .i64 e.t)
theorem EvAt.fr {w w' : World} {b : Nat} {e : Ev} (h : EvAt w b e) (k : Fr w w') : EvAt w' b e := by
  obtain ⟨c0, c1, c2, c3, c4, c5, c6, c7⟩ := h
  exact ⟨k.cell c0, k.cell c1, k.cell c2, k.cell c3, k.cell c4, k.cell c5, k.cell c6, k.cell c7⟩
theorem EvAt.new (w : World) (e : Ev) (t : TypeId) : EvAt (w.alloc (.cells #[.int .i64 e.k, .int .i64 e.g, .int .i64 e.o, .int .i64 e.w, .int .i64 e.l, .int .i64 e.s, .int .i64 e.f, .int .i64 e.t] t)) w.heap.size e := by
  refine ⟨?_, ?_, ?_, ?_, ?_, ?_, ?_, ?_⟩ <;> rw [cell_of_row _ _ _ _ _ _ (heap_alloc_new w _)] <;> rfl

set_option maxHeartbeats 1000000 in
theorem toEvent_any (e : Ev) (w : World) :
    Calls Tryd.prog 5 #[.agg #[.int .i64 e.k, .int .i64 e.g, .int .i64 e.o, .int .i64 e.w, .int .i64 e.l, .int .i64 e.s, .int .i64 e.f, .int .i64 e.t]] w fun x w' => x = .returned (.agg #[.int .i64 e.k, .int .i64 e.g, .int .i64 e.o, .int .i64 e.w, .int .i64 e.l, .int .i64 e.s, .int .i64 e.f, .int .i64 e.t]) ∧ Fr w w' := by
  obtain ⟨k, g, o, wi, l, sz, f, t⟩ := e
  simp only
  go_enter Tryd.func5, Tryd.ntmps5
  go_wp2_with fail
  refine bodyPost_ret (v := .agg #[.int .i64 k, .int .i64 g, .int .i64 o, .int .i64 wi, .int .i64 l, .int .i64 sz, .int .i64 f, .int .i64 t]) (by simp [results, Tryd.results5, go_sem]) rfl ⟨rfl, ?_⟩
  exact ((Fr.alloc _ _).trans (Fr.alloc _ _)).trans (Fr.alloc _ _)

/-- An event that lies in a block of its own. -/
def EvB (w : World) (b : Nat) (e : Ev) : Prop := w.heap[b]? = some (.cells #[.int .i64 e.k, .int .i64 e.g, .int .i64 e.o, .int .i64 e.w, .int .i64 e.l, .int .i64 e.s, .int .i64 e.f, .int .i64 e.t] 26 (0, 0))

theorem EvB.lt {w : World} {b : Nat} {e : Ev} (h : EvB w b e) : b < w.heap.size := (Array.getElem?_eq_some_iff.1 h).1
theorem EvB.keep {w w' : World} {b : Nat} {e : Ev} {row : Option Nat} (h : EvB w b e) (k : w.grownBy w' row) (hr : row ≠ some b) : EvB w' b e := (k.block b h.lt (fun q => hr q.symm)).trans h
theorem EvB.new (w : World) (e : Ev) : EvB (w.alloc (.cells #[.int .i64 e.k, .int .i64 e.g, .int .i64 e.o, .int .i64 e.w, .int .i64 e.l, .int .i64 e.s, .int .i64 e.f, .int .i64 e.t] 26)) w.heap.size e := heap_alloc_new w _
theorem EvB.at {w : World} {b : Nat} {e : Ev} (h : EvB w b e) : EvAt w b e := by
  refine ⟨?_, ?_, ?_, ?_, ?_, ?_, ?_, ?_⟩ <;> rw [cell_of_row _ _ _ _ _ _ h] <;> rfl
theorem EvB.free {w : World} {b : Nat} {e : Ev} (h : EvB w b e) (i : Nat) : w.frozen? ⟨b, i, none⟩ = false := frozen_of_row w b i _ _ h
theorem EvB.setK {w : World} {b : Nat} {e : Ev} (h : EvB w b e) (x : Int) : EvB (w.setCell ⟨b, 0, none⟩ (.int .i64 x)) b { e with k := x } := by
  have h1 := heap_setCell_same w b 0 _ _ (.int .i64 x) h
  exact h1
theorem EvB.setG {w : World} {b : Nat} {e : Ev} (h : EvB w b e) (x : Int) : EvB (w.setCell ⟨b, 1, none⟩ (.int .i64 x)) b { e with g := x } := by
  have h1 := heap_setCell_same w b 1 _ _ (.int .i64 x) h
  exact h1
theorem EvB.setO {w : World} {b : Nat} {e : Ev} (h : EvB w b e) (x : Int) : EvB (w.setCell ⟨b, 2, none⟩ (.int .i64 x)) b { e with o := x } := by
  have h1 := heap_setCell_same w b 2 _ _ (.int .i64 x) h
  exact h1
theorem EvB.setW {w : World} {b : Nat} {e : Ev} (h : EvB w b e) (x : Int) : EvB (w.setCell ⟨b, 3, none⟩ (.int .i64 x)) b { e with w := x } := by
  have h1 := heap_setCell_same w b 3 _ _ (.int .i64 x) h
  exact h1
theorem EvB.setL {w : World} {b : Nat} {e : Ev} (h : EvB w b e) (x : Int) : EvB (w.setCell ⟨b, 4, none⟩ (.int .i64 x)) b { e with l := x } := by
  have h1 := heap_setCell_same w b 4 _ _ (.int .i64 x) h
  exact h1
theorem EvB.setS {w : World} {b : Nat} {e : Ev} (h : EvB w b e) (x : Int) : EvB (w.setCell ⟨b, 5, none⟩ (.int .i64 x)) b { e with s := x } := by
  have h1 := heap_setCell_same w b 5 _ _ (.int .i64 x) h
  exact h1
theorem EvB.setF {w : World} {b : Nat} {e : Ev} (h : EvB w b e) (x : Int) : EvB (w.setCell ⟨b, 6, none⟩ (.int .i64 x)) b { e with f := x } := by
  have h1 := heap_setCell_same w b 6 _ _ (.int .i64 x) h
  exact h1
theorem EvB.setT {w : World} {b : Nat} {e : Ev} (h : EvB w b e) (x : Int) : EvB (w.setCell ⟨b, 7, none⟩ (.int .i64 x)) b { e with t := x } := by
  have h1 := heap_setCell_same w b 7 _ _ (.int .i64 x) h
  exact h1
end Go.Proofs.YtihdablgnmkjnaaDoor
