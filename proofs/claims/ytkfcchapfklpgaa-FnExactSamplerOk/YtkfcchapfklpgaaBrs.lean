/-
  A burst: its three numbers, and whether it is right: the program's and the specification's BurstOk; NewBurst.
-/
import Derived.Test.YtkfcchapfklpgaaCfg
import Derived.Test.YtkfcchapfklpgaaPrd3
import Derived.Test.YtkfcchapfklpgaaDraw
import Derived.Test.YtkfcchapfklpgaaGrown
namespace Go.Proofs.Ytkfcchapfklpgaa
open Go.RowKit

/-- A burst's three numbers. -/
structure Bu where
  l : Int
  s : Int
  g : Int

/-- Is it right? -/
def bkB (c : Cf) (b : Bu) : Bool := cfB c && inB 0 c.b b.l && inB 0 c.m b.s && inB 1 c.m b.g && (decide (b.l = 0) != decide (b.s = 0))

theorem bkB_in {c : Cf} {b : Bu} (h : bkB c b = true) : cfB c = true ∧ (0 ≤ b.l ∧ b.l ≤ c.b) ∧ (0 ≤ b.s ∧ b.s ≤ c.m) ∧ (1 ≤ b.g ∧ b.g ≤ c.m) ∧ (b.l = 0 ↔ b.s ≠ 0) := by
  simp only [bkB, Bool.and_eq_true] at h
  obtain ⟨⟨⟨⟨h0, h1⟩, h2⟩, h3⟩, h4⟩ := h
  refine ⟨h0, inB_true h1, inB_true h2, inB_true h3, ?_⟩
  by_cases p : b.l = 0 <;> by_cases q : b.s = 0 <;> simp [p, q] at h4 ⊢
theorem bkB_mk {c : Cf} {b : Bu} (h0 : cfB c = true) (h1 : 0 ≤ b.l ∧ b.l ≤ c.b) (h2 : 0 ≤ b.s ∧ b.s ≤ c.m) (h3 : 1 ≤ b.g ∧ b.g ≤ c.m) (h4 : b.l = 0 ↔ b.s ≠ 0) : bkB c b = true := by
  simp only [bkB, h0, inB_mk h1.1 h1.2, inB_mk h2.1 h2.2, inB_mk h3.1 h3.2, Bool.true_and]
  by_cases p : b.l = 0 <;> by_cases q : b.s = 0 <;> simp [p, q] at h4 ⊢

/-- A new burst. -/
def nwB (c : Cf) : Bu := if cfB c then ⟨c.b, 0, min c.b c.m⟩ else ⟨0, 0, 0⟩
/-- A burst's next step, and whether it is looked at. -/
def stB1 (c : Cf) (b : Bu) : Bu :=
  if bkB c b then
    if b.l ≠ 0 then (if b.l - 1 = 0 then ⟨b.l - 1, b.g, min (2 * b.g) c.m⟩ else ⟨b.l - 1, b.s, b.g⟩)
    else (if b.s - 1 = 0 then ⟨c.b, b.s - 1, b.g⟩ else ⟨b.l, b.s - 1, b.g⟩)
  else ⟨0, 0, 0⟩
def stB2 (c : Cf) (b : Bu) : Bool := bkB c b && decide (b.l ≠ 0)

/-- A block that is a burst. -/
def BuZ (w : World) (b : Nat) (cs : Array Value) : Prop := w.heap[b]? = some (.cells cs 51 (0, 0))
theorem BuZ.lt {w : World} {b : Nat} {c : Array Value} (h : BuZ w b c) : b < w.heap.size := (Array.getElem?_eq_some_iff.1 h).1
theorem BuZ.keep {w w' : World} {b : Nat} {c : Array Value} {row : Option Nat} (h : BuZ w b c) (k : w.grownBy w' row) (hr : row ≠ some b) : BuZ w' b c := (k.block b h.lt (fun q => hr q.symm)).trans h
theorem BuZ.fr {w w' : World} {b : Nat} {c : Array Value} (h : BuZ w b c) (k : Fr w w') : BuZ w' b c := h.keep k (by simp)
theorem BuZ.free {w : World} {b : Nat} {c : Array Value} (h : BuZ w b c) (i : Nat) : w.frozen? ⟨b, i, none⟩ = false := frozen_of_row w b i _ _ h
theorem BuZ.c0 {w : World} {b : Nat} {x y z : Value} (h : BuZ w b #[x, y, z]) : w.cell? ⟨b, 0, none⟩ = some x := by rw [cell_of_row _ _ _ _ _ _ h]; rfl
theorem BuZ.c1 {w : World} {b : Nat} {x y z : Value} (h : BuZ w b #[x, y, z]) : w.cell? ⟨b, 1, none⟩ = some y := by rw [cell_of_row _ _ _ _ _ _ h]; rfl
theorem BuZ.c2 {w : World} {b : Nat} {x y z : Value} (h : BuZ w b #[x, y, z]) : w.cell? ⟨b, 2, none⟩ = some z := by rw [cell_of_row _ _ _ _ _ _ h]; rfl
theorem BuZ.set0 {w : World} {b : Nat} {x y z : Value} (h : BuZ w b #[x, y, z]) (v : Value) : BuZ (w.setCell ⟨b, 0, none⟩ v) b #[v, y, z] := heap_setCell_same w b 0 _ _ v h
theorem BuZ.set1 {w : World} {b : Nat} {x y z : Value} (h : BuZ w b #[x, y, z]) (v : Value) : BuZ (w.setCell ⟨b, 1, none⟩ v) b #[x, v, z] := heap_setCell_same w b 1 _ _ v h
theorem BuZ.set2 {w : World} {b : Nat} {x y z : Value} (h : BuZ w b #[x, y, z]) (v : Value) : BuZ (w.setCell ⟨b, 2, none⟩ v) b #[x, y, v] := heap_setCell_same w b 2 _ _ v h


set_option maxRecDepth 20000 in
set_option maxHeartbeats 4000000 in
theorem buOk_spec (c : Cf) (x : Bu) (W : World) :
    Calls Try.prog 25 #[.agg #[.int .i64 c.r, .int .i64 c.s, .int .i64 c.b, .int .i64 c.m, .int .i64 c.q, .int .i64 c.c, .int .i64 c.w], .agg #[.int .i64 x.l, .int .i64 x.s, .int .i64 x.g]] W fun e w' => e = .returned (.bool (bkB c x)) ∧ Fr W w' := by
  have cS := fun u => cfOk_spec c u
  simp only [bkB]
  generalize cfB c = B at cS ⊢
  obtain ⟨r, s, b, m, q, c, w⟩ := c
  obtain ⟨xl, xs, xg⟩ := x
  simp only at cS ⊢
  have aC := CfAt.new W ⟨r, s, b, m, q, c, w⟩ 29
  have f := Fr.alloc W (.cells #[.int .i64 r, .int .i64 s, .int .i64 b, .int .i64 m, .int .i64 q, .int .i64 c, .int .i64 w] 29)
  have aB : BuZ ((W.alloc (.cells #[.int .i64 r, .int .i64 s, .int .i64 b, .int .i64 m, .int .i64 q, .int .i64 c, .int .i64 w] 29)).alloc (.cells #[.int .i64 xl, .int .i64 xs, .int .i64 xg] 51)) (W.alloc (.cells #[.int .i64 r, .int .i64 s, .int .i64 b, .int .i64 m, .int .i64 q, .int .i64 c, .int .i64 w] 29)).heap.size #[.int .i64 xl, .int .i64 xs, .int .i64 xg] := heap_alloc_new _ _
  have f' := Fr.alloc (W.alloc (.cells #[.int .i64 r, .int .i64 s, .int .i64 b, .int .i64 m, .int .i64 q, .int .i64 c, .int .i64 w] 29)) (.cells #[.int .i64 xl, .int .i64 xs, .int .i64 xg] 51)
  replace f := f.trans f'
  replace aC := aC.fr f'
  clear f'
  have hs : (W.alloc (.cells #[.int .i64 r, .int .i64 s, .int .i64 b, .int .i64 m, .int .i64 q, .int .i64 c, .int .i64 w] 29)).heap.size = W.heap.size + 1 := by simp
  rw [hs] at aB
  clear hs
  have c1 := fun u => l1In_any xl 0 b u
  have c2 := fun u => l1In_any xs 0 m u
  have c3 := fun u => l1In_any xg 1 m u
  generalize inB 0 b xl = b1 at c1 ⊢
  generalize inB 0 m xs = b2 at c2 ⊢
  generalize inB 1 m xg = b3 at c3 ⊢
  go_enter Try.func25, Try.ntmps25
  go_wp2_with fail
  obtain ⟨U, hU⟩ : ∃ U, U = (W.alloc (.cells #[.int .i64 r, .int .i64 s, .int .i64 b, .int .i64 m, .int .i64 q, .int .i64 c, .int .i64 w] 29)).alloc (.cells #[.int .i64 xl, .int .i64 xs, .int .i64 xg] 51) := ⟨_, rfl⟩
  rw [← hU] at aC aB f ⊢
  clear hU
  refine (cS _).mono ?_
  rintro e u0 ⟨rfl, f0⟩
  clear cS
  obtain ⟨k0, k1, k2, k3, k4, k5, k6⟩ := aC.fr f0
  simp only [Nat.zero_add] at k0 k1 k2 k3 k4 k5 k6
  replace aB := aB.fr f0
  have l0 := aB.c0
  have l1 := aB.c1
  have l2 := aB.c2
  replace f := f.trans f0
  clear f0 aB aC
  cases B
  · go_wp2_with fail
    go_ret
    exact ⟨rfl, f⟩
  go_wp2_with fail
  refine (c1 _).mono ?_
  rintro e u1 ⟨rfl, rfl⟩
  clear c1
  cases b1
  · go_wp2_with fail
    go_ret
    exact ⟨rfl, f⟩
  go_wp2_with fail
  refine (c2 _).mono ?_
  rintro e u2 ⟨rfl, rfl⟩
  clear c2
  cases b2
  · go_wp2_with fail
    go_ret
    exact ⟨rfl, f⟩
  go_wp2_with fail
  refine (c3 _).mono ?_
  rintro e u3 ⟨rfl, rfl⟩
  clear c3
  cases b3
  · go_wp2_with fail
    go_ret
    exact ⟨rfl, f⟩
  go_wp2_with fail
  go_ret
  exact ⟨rfl, f⟩

set_option maxRecDepth 20000 in
set_option maxHeartbeats 4000000 in
theorem buOk_impl (c : Cf) (x : Bu) (W : World) :
    Calls Try.prog 50 #[.agg #[.int .i64 c.r, .int .i64 c.s, .int .i64 c.b, .int .i64 c.m, .int .i64 c.q, .int .i64 c.c, .int .i64 c.w], .agg #[.int .i64 x.l, .int .i64 x.s, .int .i64 x.g]] W fun e w' => e = .returned (.bool (bkB c x)) ∧ Fr W w' := by
  have cS := fun u => cfOk_impl c u
  simp only [bkB]
  generalize cfB c = B at cS ⊢
  obtain ⟨r, s, b, m, q, c, w⟩ := c
  obtain ⟨xl, xs, xg⟩ := x
  simp only at cS ⊢
  have aC := CfAt.new W ⟨r, s, b, m, q, c, w⟩ 29
  have f := Fr.alloc W (.cells #[.int .i64 r, .int .i64 s, .int .i64 b, .int .i64 m, .int .i64 q, .int .i64 c, .int .i64 w] 29)
  have aB : BuZ ((W.alloc (.cells #[.int .i64 r, .int .i64 s, .int .i64 b, .int .i64 m, .int .i64 q, .int .i64 c, .int .i64 w] 29)).alloc (.cells #[.int .i64 xl, .int .i64 xs, .int .i64 xg] 51)) (W.alloc (.cells #[.int .i64 r, .int .i64 s, .int .i64 b, .int .i64 m, .int .i64 q, .int .i64 c, .int .i64 w] 29)).heap.size #[.int .i64 xl, .int .i64 xs, .int .i64 xg] := heap_alloc_new _ _
  have f' := Fr.alloc (W.alloc (.cells #[.int .i64 r, .int .i64 s, .int .i64 b, .int .i64 m, .int .i64 q, .int .i64 c, .int .i64 w] 29)) (.cells #[.int .i64 xl, .int .i64 xs, .int .i64 xg] 51)
  replace f := f.trans f'
  replace aC := aC.fr f'
  clear f'
  have hs : (W.alloc (.cells #[.int .i64 r, .int .i64 s, .int .i64 b, .int .i64 m, .int .i64 q, .int .i64 c, .int .i64 w] 29)).heap.size = W.heap.size + 1 := by simp
  rw [hs] at aB
  clear hs
  have c1 := fun u => within_any xl 0 b u
  have c2 := fun u => within_any xs 0 m u
  have c3 := fun u => within_any xg 1 m u
  generalize inB 0 b xl = b1 at c1 ⊢
  generalize inB 0 m xs = b2 at c2 ⊢
  generalize inB 1 m xg = b3 at c3 ⊢
  go_enter Try.func50, Try.ntmps50
  go_wp2_with fail
  obtain ⟨U, hU⟩ : ∃ U, U = (W.alloc (.cells #[.int .i64 r, .int .i64 s, .int .i64 b, .int .i64 m, .int .i64 q, .int .i64 c, .int .i64 w] 29)).alloc (.cells #[.int .i64 xl, .int .i64 xs, .int .i64 xg] 51) := ⟨_, rfl⟩
  rw [← hU] at aC aB f ⊢
  clear hU
  refine (cS _).mono ?_
  rintro e u0 ⟨rfl, f0⟩
  clear cS
  obtain ⟨k0, k1, k2, k3, k4, k5, k6⟩ := aC.fr f0
  simp only [Nat.zero_add] at k0 k1 k2 k3 k4 k5 k6
  replace aB := aB.fr f0
  have l0 := aB.c0
  have l1 := aB.c1
  have l2 := aB.c2
  replace f := f.trans f0
  clear f0 aB aC
  cases B
  · go_wp2_with fail
    go_ret
    exact ⟨rfl, f⟩
  go_wp2_with fail
  refine (c1 _).mono ?_
  rintro e u1 ⟨rfl, rfl⟩
  clear c1
  cases b1
  · go_wp2_with fail
    go_ret
    exact ⟨rfl, f⟩
  go_wp2_with fail
  refine (c2 _).mono ?_
  rintro e u2 ⟨rfl, rfl⟩
  clear c2
  cases b2
  · go_wp2_with fail
    go_ret
    exact ⟨rfl, f⟩
  go_wp2_with fail
  refine (c3 _).mono ?_
  rintro e u3 ⟨rfl, rfl⟩
  clear c3
  cases b3
  · go_wp2_with fail
    go_ret
    exact ⟨rfl, f⟩
  go_wp2_with fail
  go_ret
  exact ⟨rfl, f⟩
end Go.Proofs.Ytkfcchapfklpgaa
