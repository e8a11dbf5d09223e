/-
  Owns in memory; whose an Own is.
-/
import Derived.Test.YtkfcchapfklpgaaSmp
import Derived.Test.YtkfcchapfklpgaaRowG
namespace Go.Proofs.Ytkfcchapfklpgaa
open Go.RowKit

def owCells (o : Ow) : List Value := [.int .i64 o.g, .int .i64 o.f, .int .i64 o.b.l, .int .i64 o.b.s, .int .i64 o.b.g]
def LO : Lay Ow where
  ty := 53
  sz := 5
  cs := owCells
  pos := by decide
  len := fun _ => rfl
  one := fun x u hu => by
    simp only [owCells, List.mem_cons, List.not_mem_nil, or_false] at hu
    rcases hu with rfl | rfl | rfl | rfl | rfl <;> rfl
theorem ow_at {w : World} {ao : Option Addr} {os : List Ow} (h : ReadsG LO w ao os) (k : Nat) (hk : k < os.length) : ∃ b off, ao = some ⟨b, off, none⟩ ∧ w.cell? ⟨b, off + k * 5, none⟩ = some (.int .i64 os[k].g) ∧ w.cell? ⟨b, off + k * 5 + 1, none⟩ = some (.int .i64 os[k].f) ∧ w.cell? ⟨b, off + k * 5 + 2, none⟩ = some (.int .i64 os[k].b.l) ∧ w.cell? ⟨b, off + k * 5 + 3, none⟩ = some (.int .i64 os[k].b.s) ∧ w.cell? ⟨b, off + k * 5 + 4, none⟩ = some (.int .i64 os[k].b.g) := by
  obtain ⟨b, off, e, hc⟩ := h.at_ k hk
  exact ⟨b, off, e, hc k hk 0 (by decide), hc k hk 1 (by decide), hc k hk 2 (by decide), hc k hk 3 (by decide), hc k hk 4 (by decide)⟩
/-- A block that is an Own. -/
def OwZ (w : World) (b : Nat) (cs : Array Value) : Prop := w.heap[b]? = some (.cells cs 53 (0, 0))
theorem OwZ.lt {w : World} {b : Nat} {c : Array Value} (h : OwZ w b c) : b < w.heap.size := (Array.getElem?_eq_some_iff.1 h).1
theorem OwZ.keep {w w' : World} {b : Nat} {c : Array Value} {row : Option Nat} (h : OwZ w b c) (k : w.grownBy w' row) (hr : row ≠ some b) : OwZ w' b c := (k.block b h.lt (fun q => hr q.symm)).trans h
theorem OwZ.fr {w w' : World} {b : Nat} {c : Array Value} (h : OwZ w b c) (k : Fr w w') : OwZ w' b c := h.keep k (by simp)
theorem OwZ.free {w : World} {b : Nat} {c : Array Value} (h : OwZ w b c) (i : Nat) : w.frozen? ⟨b, i, none⟩ = false := frozen_of_row w b i _ _ h
theorem OwZ.cs {w : World} {b : Nat} {v0 v1 v2 v3 v4 : Value} (h : OwZ w b #[v0, v1, v2, v3, v4]) : w.cell? ⟨b, 0, none⟩ = some v0 ∧ w.cell? ⟨b, 1, none⟩ = some v1 ∧ w.cell? ⟨b, 2, none⟩ = some v2 ∧ w.cell? ⟨b, 3, none⟩ = some v3 ∧ w.cell? ⟨b, 4, none⟩ = some v4 := by
  refine ⟨?_, ?_, ?_, ?_, ?_⟩ <;> rw [cell_of_row _ _ _ _ _ _ h] <;> rfl
/-- A block of two numbers. -/
def KyZ (w : World) (b : Nat) (t : TypeId) (cs : Array Value) : Prop := w.heap[b]? = some (.cells cs t (0, 0))
theorem KyZ.lt {w : World} {b : Nat} {t : TypeId} {c : Array Value} (h : KyZ w b t c) : b < w.heap.size := (Array.getElem?_eq_some_iff.1 h).1
theorem KyZ.keep {w w' : World} {b : Nat} {t : TypeId} {c : Array Value} {row : Option Nat} (h : KyZ w b t c) (k : w.grownBy w' row) (hr : row ≠ some b) : KyZ w' b t c := (k.block b h.lt (fun q => hr q.symm)).trans h
theorem KyZ.fr {w w' : World} {b : Nat} {t : TypeId} {c : Array Value} (h : KyZ w b t c) (k : Fr w w') : KyZ w' b t c := h.keep k (by simp)
theorem KyZ.free {w : World} {b : Nat} {t : TypeId} {c : Array Value} (h : KyZ w b t c) (i : Nat) : w.frozen? ⟨b, i, none⟩ = false := frozen_of_row w b i _ _ h
theorem KyZ.c0 {w : World} {b : Nat} {t : TypeId} {x y : Value} (h : KyZ w b t #[x, y]) : w.cell? ⟨b, 0, none⟩ = some x := by rw [cell_of_row _ _ _ _ _ _ h]; rfl
theorem KyZ.c1 {w : World} {b : Nat} {t : TypeId} {x y : Value} (h : KyZ w b t #[x, y]) : w.cell? ⟨b, 1, none⟩ = some y := by rw [cell_of_row _ _ _ _ _ _ h]; rfl
theorem KyZ.c3 {w : World} {b : Nat} {t : TypeId} {x y z : Value} (h : KyZ w b t #[x, y, z]) : w.cell? ⟨b, 0, none⟩ = some x ∧ w.cell? ⟨b, 1, none⟩ = some y ∧ w.cell? ⟨b, 2, none⟩ = some z := by
  refine ⟨?_, ?_, ?_⟩ <;> rw [cell_of_row _ _ _ _ _ _ h] <;> rfl
theorem KyZ.put0 {w : World} {b : Nat} {t : TypeId} {x y z : Value} (h : KyZ w b t #[x, y, z]) (v : Value) : KyZ (w.setCell ⟨b, 0, none⟩ v) b t #[v, y, z] := heap_setCell_same w b 0 _ _ v h
theorem KyZ.put1 {w : World} {b : Nat} {t : TypeId} {x y z : Value} (h : KyZ w b t #[x, y, z]) (v : Value) : KyZ (w.setCell ⟨b, 1, none⟩ v) b t #[x, v, z] := heap_setCell_same w b 1 _ _ v h
theorem KyZ.put2 {w : World} {b : Nat} {t : TypeId} {x y z : Value} (h : KyZ w b t #[x, y, z]) (v : Value) : KyZ (w.setCell ⟨b, 2, none⟩ v) b t #[x, y, v] := heap_setCell_same w b 2 _ _ v h
theorem KyZ.set0 {w : World} {b : Nat} {t : TypeId} {x y : Value} (h : KyZ w b t #[x, y]) (v : Value) : KyZ (w.setCell ⟨b, 0, none⟩ v) b t #[v, y] := heap_setCell_same w b 0 _ _ v h
theorem KyZ.set1 {w : World} {b : Nat} {t : TypeId} {x y : Value} (h : KyZ w b t #[x, y]) (v : Value) : KyZ (w.setCell ⟨b, 1, none⟩ v) b t #[x, v] := heap_setCell_same w b 1 _ _ v h

set_option maxHeartbeats 1000000 in
theorem owner_any (o : Ow) (w : World) :
    Calls Try.prog 49 #[.agg #[.int .i64 o.g, .int .i64 o.f, .int .i64 o.b.l, .int .i64 o.b.s, .int .i64 o.b.g]] w fun e w' => e = .returned (.agg #[.int .i64 o.g, .int .i64 o.f]) ∧ Fr w w' := by
  obtain ⟨g, f, l, s, p⟩ := o
  simp only
  go_enter Try.func49, Try.ntmps49
  go_wp2_with fail
  refine bodyPost_ret (v := .agg #[.int .i64 g, .int .i64 f]) (by simp [results, Try.results49, go_sem]) rfl ⟨rfl, ?_⟩
  exact (Fr.alloc _ _).trans (Fr.alloc _ _)
theorem kyOk_any (g f : Int) (w : World) :
    Calls Try.prog 42 #[.agg #[.int .i64 g, .int .i64 f]] w fun e w' => e = .returned (.bool (inB 0 15 g && inB 0 999 f)) ∧ Fr w w' := by
  have c1 := fun u => gorIn_any g u
  have c2 := fun u => within_any f 0 999 u
  generalize inB 0 15 g = B1 at c1 ⊢
  generalize inB 0 999 f = B2 at c2 ⊢
  have k := Fr.alloc w (.cells #[.int .i64 g, .int .i64 f] 74)
  go_enter Try.func42, Try.ntmps42
  go_wp2_with fail
  refine (c1 _).mono ?_
  rintro e u1 ⟨rfl, rfl⟩
  cases B1
  · go_wp2_with fail
    go_ret
    exact ⟨rfl, k⟩
  go_wp2_with fail
  refine (c2 _).mono ?_
  rintro e u2 ⟨rfl, rfl⟩
  go_wp2_with fail
  go_ret
  exact ⟨rfl, k⟩
end Go.Proofs.Ytkfcchapfklpgaa
