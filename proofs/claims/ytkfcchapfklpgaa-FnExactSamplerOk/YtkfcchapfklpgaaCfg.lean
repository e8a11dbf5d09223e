/-
  A config: its seven numbers, and whether it is right: the program's and the specification's ConfigOk.
-/
import Derived.Test.YtkfcchapfklpgaaRange
import Derived.Test.YtkfcchapfklpgaaInts
namespace Go.Proofs.Ytkfcchapfklpgaa
open Go.RowKit

/-- A config's seven numbers. -/
structure Cf where
  r : Int
  s : Int
  b : Int
  m : Int
  q : Int
  c : Int
  w : Int

/-- Is it right? -/
def cfB (c : Cf) : Bool := inB 0 1000000 c.r && inB 1 1000 c.s && inB 1 1000 c.b && inB 1 100000 c.m && inB 0 100000 c.q && inB 1 512 c.c && inB 1 64 c.w

theorem cfB_in {c : Cf} (h : cfB c = true) : (0 ≤ c.r ∧ c.r ≤ 1000000) ∧ (1 ≤ c.s ∧ c.s ≤ 1000) ∧ (1 ≤ c.b ∧ c.b ≤ 1000) ∧ (1 ≤ c.m ∧ c.m ≤ 100000) ∧ (0 ≤ c.q ∧ c.q ≤ 100000) ∧ (1 ≤ c.c ∧ c.c ≤ 512) ∧ (1 ≤ c.w ∧ c.w ≤ 64) := by
  simp only [cfB, Bool.and_eq_true] at h
  obtain ⟨⟨⟨⟨⟨⟨h0, h1⟩, h2⟩, h3⟩, h4⟩, h5⟩, h6⟩ := h
  exact ⟨inB_true h0, inB_true h1, inB_true h2, inB_true h3, inB_true h4, inB_true h5, inB_true h6⟩

/-- A config's cells from the place i of a block on. -/
def CfAt (w : World) (b i : Nat) (c : Cf) : Prop :=
  w.cell? ⟨b, i, none⟩ = some (.int .i64 c.r) ∧ w.cell? ⟨b, i + 1, none⟩ = some (.int .i64 c.s) ∧ w.cell? ⟨b, i + 2, none⟩ = some (.int .i64 c.b) ∧ w.cell? ⟨b, i + 3, none⟩ = some (.int .i64 c.m) ∧ w.cell? ⟨b, i + 4, none⟩ = some (.int .i64 c.q) ∧ w.cell? ⟨b, i + 5, none⟩ = some (.int .i64 c.c) ∧ w.cell? ⟨b, i + 6, none⟩ = some (.int .i64 c.w)
theorem CfAt.fr {w w' : World} {b i : Nat} {c : Cf} (h : CfAt w b i c) (k : Fr w w') : CfAt w' b i c := by
  obtain ⟨c0, c1, c2, c3, c4, c5, c6⟩ := h
  exact ⟨k.cell c0, k.cell c1, k.cell c2, k.cell c3, k.cell c4, k.cell c5, k.cell c6⟩
theorem CfAt.new (w : World) (c : Cf) (t : TypeId) : CfAt (w.alloc (.cells #[.int .i64 c.r, .int .i64 c.s, .int .i64 c.b, .int .i64 c.m, .int .i64 c.q, .int .i64 c.c, .int .i64 c.w] t)) w.heap.size 0 c := by
  refine ⟨?_, ?_, ?_, ?_, ?_, ?_, ?_⟩ <;> rw [cell_of_row _ _ _ _ _ _ (heap_alloc_new w _)] <;> rfl

/-- The limits' cells. -/
def LmAt (w : World) (b : Nat) : Prop :=
  w.cell? ⟨b, 0, none⟩ = some (.int .i64 0) ∧ w.cell? ⟨b, 1, none⟩ = some (.int .i64 1) ∧ w.cell? ⟨b, 2, none⟩ = some (.int .i64 1) ∧ w.cell? ⟨b, 3, none⟩ = some (.int .i64 1) ∧ w.cell? ⟨b, 4, none⟩ = some (.int .i64 0) ∧ w.cell? ⟨b, 5, none⟩ = some (.int .i64 1) ∧ w.cell? ⟨b, 6, none⟩ = some (.int .i64 1) ∧ w.cell? ⟨b, 7, none⟩ = some (.int .i64 1000000) ∧ w.cell? ⟨b, 8, none⟩ = some (.int .i64 1000) ∧ w.cell? ⟨b, 9, none⟩ = some (.int .i64 1000) ∧ w.cell? ⟨b, 10, none⟩ = some (.int .i64 100000) ∧ w.cell? ⟨b, 11, none⟩ = some (.int .i64 100000) ∧ w.cell? ⟨b, 12, none⟩ = some (.int .i64 512) ∧ w.cell? ⟨b, 13, none⟩ = some (.int .i64 64)
theorem LmAt.fr {w w' : World} {b : Nat} (h : LmAt w b) (k : Fr w w') : LmAt w' b := by
  obtain ⟨c0, c1, c2, c3, c4, c5, c6, c7, c8, c9, c10, c11, c12, c13⟩ := h
  exact ⟨k.cell c0, k.cell c1, k.cell c2, k.cell c3, k.cell c4, k.cell c5, k.cell c6, k.cell c7, k.cell c8, k.cell c9, k.cell c10, k.cell c11, k.cell c12, k.cell c13⟩
theorem LmAt.new (w : World) (t : TypeId) : LmAt (w.alloc (.cells #[.int .i64 0, .int .i64 1, .int .i64 1, .int .i64 1, .int .i64 0, .int .i64 1, .int .i64 1, .int .i64 1000000, .int .i64 1000, .int .i64 1000, .int .i64 100000, .int .i64 100000, .int .i64 512, .int .i64 64] t)) w.heap.size := by
  refine ⟨?_, ?_, ?_, ?_, ?_, ?_, ?_, ?_, ?_, ?_, ?_, ?_, ?_, ?_⟩ <;> rw [cell_of_row _ _ _ _ _ _ (heap_alloc_new w _)] <;> rfl

set_option maxHeartbeats 4000000 in
theorem cfOk_spec (c : Cf) (W : World) :
    Calls Try.prog 22 #[.agg #[.int .i64 c.r, .int .i64 c.s, .int .i64 c.b, .int .i64 c.m, .int .i64 c.q, .int .i64 c.c, .int .i64 c.w]] W fun e w' => e = .returned (.bool (cfB c)) ∧ Fr W w' := by
  obtain ⟨r, s, b, m, q, c, w⟩ := c
  simp only [cfB]
  have aC := CfAt.new W ⟨r, s, b, m, q, c, w⟩ 29
  have f := Fr.alloc W (.cells #[.int .i64 r, .int .i64 s, .int .i64 b, .int .i64 m, .int .i64 q, .int .i64 c, .int .i64 w] 29)
  simp only [CfAt, Nat.zero_add] at aC
  have c0 := fun u => l1In_any r 0 1000000 u
  have c1 := fun u => l1In_any s 1 1000 u
  have c2 := fun u => l1In_any b 1 1000 u
  have c3 := fun u => l1In_any m 1 100000 u
  have c4 := fun u => l1In_any q 0 100000 u
  have c5 := fun u => l1In_any c 1 512 u
  have c6 := fun u => l1In_any w 1 64 u
  generalize inB 0 1000000 r = b0 at c0 ⊢
  generalize inB 1 1000 s = b1 at c1 ⊢
  generalize inB 1 1000 b = b2 at c2 ⊢
  generalize inB 1 100000 m = b3 at c3 ⊢
  generalize inB 0 100000 q = b4 at c4 ⊢
  generalize inB 1 512 c = b5 at c5 ⊢
  generalize inB 1 64 w = b6 at c6 ⊢
  go_enter Try.func22, Try.ntmps22
  go_wp2_with fail
  obtain ⟨U, hU⟩ : ∃ U, U = W.alloc (.cells #[.int .i64 r, .int .i64 s, .int .i64 b, .int .i64 m, .int .i64 q, .int .i64 c, .int .i64 w] 29) := ⟨_, rfl⟩
  rw [← hU] at aC f ⊢
  clear hU
  obtain ⟨k0, k1, k2, k3, k4, k5, k6⟩ := aC
  refine (c0 _).mono ?_
  rintro e u0 ⟨rfl, rfl⟩
  clear c0
  cases b0
  · go_wp2_with fail
    go_ret
    exact ⟨rfl, f⟩
  go_wp2_with fail
  refine (c1 _).mono ?_
  rintro e u1 ⟨rfl, rfl⟩
  clear c1
  cases b1
  · go_wp2_with fail
    go_ret
    exact ⟨rfl, f⟩
  go_wp2_with fail
  refine (c2 _).mono ?_
  rintro e u2 ⟨rfl, rfl⟩
  clear c2
  cases b2
  · go_wp2_with fail
    go_ret
    exact ⟨rfl, f⟩
  go_wp2_with fail
  refine (c3 _).mono ?_
  rintro e u3 ⟨rfl, rfl⟩
  clear c3
  cases b3
  · go_wp2_with fail
    go_ret
    exact ⟨rfl, f⟩
  go_wp2_with fail
  refine (c4 _).mono ?_
  rintro e u4 ⟨rfl, rfl⟩
  clear c4
  cases b4
  · go_wp2_with fail
    go_ret
    exact ⟨rfl, f⟩
  go_wp2_with fail
  refine (c5 _).mono ?_
  rintro e u5 ⟨rfl, rfl⟩
  clear c5
  cases b5
  · go_wp2_with fail
    go_ret
    exact ⟨rfl, f⟩
  go_wp2_with fail
  refine (c6 _).mono ?_
  rintro e u6 ⟨rfl, rfl⟩
  clear c6
  cases b6
  · go_wp2_with fail
    go_ret
    exact ⟨rfl, f⟩
  go_wp2_with fail
  go_ret
  exact ⟨rfl, f⟩

set_option maxHeartbeats 400000 in
theorem admit_any (c : Cf) (W : World) :
    Calls Try.prog 65 #[.agg #[.int .i64 0, .int .i64 1, .int .i64 1, .int .i64 1, .int .i64 0, .int .i64 1, .int .i64 1, .int .i64 1000000, .int .i64 1000, .int .i64 1000, .int .i64 100000, .int .i64 100000, .int .i64 512, .int .i64 64], .agg #[.int .i64 c.r, .int .i64 c.s, .int .i64 c.b, .int .i64 c.m, .int .i64 c.q, .int .i64 c.c, .int .i64 c.w]] W fun e w' => e = .returned (.bool (cfB c)) ∧ Fr W w' := by
  obtain ⟨r, s, b, m, q, c, w⟩ := c
  simp only [cfB]
  have aL := LmAt.new W 69
  have f := Fr.alloc W (.cells #[.int .i64 0, .int .i64 1, .int .i64 1, .int .i64 1, .int .i64 0, .int .i64 1, .int .i64 1, .int .i64 1000000, .int .i64 1000, .int .i64 1000, .int .i64 100000, .int .i64 100000, .int .i64 512, .int .i64 64] 69)
  have aC := CfAt.new (W.alloc (.cells #[.int .i64 0, .int .i64 1, .int .i64 1, .int .i64 1, .int .i64 0, .int .i64 1, .int .i64 1, .int .i64 1000000, .int .i64 1000, .int .i64 1000, .int .i64 100000, .int .i64 100000, .int .i64 512, .int .i64 64] 69)) ⟨r, s, b, m, q, c, w⟩ 29
  have f' := Fr.alloc (W.alloc (.cells #[.int .i64 0, .int .i64 1, .int .i64 1, .int .i64 1, .int .i64 0, .int .i64 1, .int .i64 1, .int .i64 1000000, .int .i64 1000, .int .i64 1000, .int .i64 100000, .int .i64 100000, .int .i64 512, .int .i64 64] 69)) (.cells #[.int .i64 r, .int .i64 s, .int .i64 b, .int .i64 m, .int .i64 q, .int .i64 c, .int .i64 w] 29)
  replace f := f.trans f'
  replace aL := aL.fr f'
  clear f'
  simp only [CfAt, Nat.zero_add] at aC
  simp only [LmAt] at aL
  have hs : (W.alloc (.cells #[.int .i64 0, .int .i64 1, .int .i64 1, .int .i64 1, .int .i64 0, .int .i64 1, .int .i64 1, .int .i64 1000000, .int .i64 1000, .int .i64 1000, .int .i64 100000, .int .i64 100000, .int .i64 512, .int .i64 64] 69)).heap.size = W.heap.size + 1 := by simp
  simp only [hs] at aC
  clear hs
  have c0 := fun u => within_any r 0 1000000 u
  have c1 := fun u => within_any s 1 1000 u
  have c2 := fun u => within_any b 1 1000 u
  have c3 := fun u => within_any m 1 100000 u
  have c4 := fun u => within_any q 0 100000 u
  have c5 := fun u => within_any c 1 512 u
  have c6 := fun u => within_any w 1 64 u
  generalize inB 0 1000000 r = b0 at c0 ⊢
  generalize inB 1 1000 s = b1 at c1 ⊢
  generalize inB 1 1000 b = b2 at c2 ⊢
  generalize inB 1 100000 m = b3 at c3 ⊢
  generalize inB 0 100000 q = b4 at c4 ⊢
  generalize inB 1 512 c = b5 at c5 ⊢
  generalize inB 1 64 w = b6 at c6 ⊢
  go_enter Try.func65, Try.ntmps65
  go_wp2_with fail
  simp only [List.append_eq, List.cons_append, List.nil_append] at *
  obtain ⟨U, hU⟩ : ∃ U, U = (W.alloc (.cells #[.int .i64 0, .int .i64 1, .int .i64 1, .int .i64 1, .int .i64 0, .int .i64 1, .int .i64 1, .int .i64 1000000, .int .i64 1000, .int .i64 1000, .int .i64 100000, .int .i64 100000, .int .i64 512, .int .i64 64] 69)).alloc (.cells #[.int .i64 r, .int .i64 s, .int .i64 b, .int .i64 m, .int .i64 q, .int .i64 c, .int .i64 w] 29) := ⟨_, rfl⟩
  rw [← hU] at aC aL f ⊢
  clear hU
  obtain ⟨k0, k1, k2, k3, k4, k5, k6⟩ := aC
  obtain ⟨m0, m1, m2, m3, m4, m5, m6, n0, n1, n2, n3, n4, n5, n6⟩ := aL
  refine (c0 _).mono ?_
  rintro e u0 ⟨rfl, rfl⟩
  clear c0
  cases b0
  · go_wp2_with fail
    go_ret
    exact ⟨rfl, f⟩
  go_wp2_with fail
  refine (c1 _).mono ?_
  rintro e u1 ⟨rfl, rfl⟩
  clear c1
  cases b1
  · go_wp2_with fail
    go_ret
    exact ⟨rfl, f⟩
  go_wp2_with fail
  refine (c2 _).mono ?_
  rintro e u2 ⟨rfl, rfl⟩
  clear c2
  cases b2
  · go_wp2_with fail
    go_ret
    exact ⟨rfl, f⟩
  go_wp2_with fail
  refine (c3 _).mono ?_
  rintro e u3 ⟨rfl, rfl⟩
  clear c3
  cases b3
  · go_wp2_with fail
    go_ret
    exact ⟨rfl, f⟩
  go_wp2_with fail
  refine (c4 _).mono ?_
  rintro e u4 ⟨rfl, rfl⟩
  clear c4
  cases b4
  · go_wp2_with fail
    go_ret
    exact ⟨rfl, f⟩
  go_wp2_with fail
  refine (c5 _).mono ?_
  rintro e u5 ⟨rfl, rfl⟩
  clear c5
  cases b5
  · go_wp2_with fail
    go_ret
    exact ⟨rfl, f⟩
  go_wp2_with fail
  refine (c6 _).mono ?_
  rintro e u6 ⟨rfl, rfl⟩
  clear c6
  cases b6
  · go_wp2_with fail
    go_ret
    exact ⟨rfl, f⟩
  go_wp2_with fail
  go_ret
  exact ⟨rfl, f⟩

set_option maxHeartbeats 1000000 in
theorem limits_any (W : World) :
    Calls Try.prog 55 #[] W fun e w' => e = .returned (.agg #[.int .i64 0, .int .i64 1, .int .i64 1, .int .i64 1, .int .i64 0, .int .i64 1, .int .i64 1, .int .i64 1000000, .int .i64 1000, .int .i64 1000, .int .i64 100000, .int .i64 100000, .int .i64 512, .int .i64 64]) ∧ Fr W w' := by
  go_enter Try.func55, Try.ntmps55
  go_wp2_with fail
  refine bodyPost_ret (v := .agg #[.int .i64 0, .int .i64 1, .int .i64 1, .int .i64 1, .int .i64 0, .int .i64 1, .int .i64 1, .int .i64 1000000, .int .i64 1000, .int .i64 1000, .int .i64 100000, .int .i64 100000, .int .i64 512, .int .i64 64]) (by simp [results, Try.results55, go_sem]) rfl ⟨rfl, ?_⟩
  exact Fr.alloc _ _
end Go.Proofs.Ytkfcchapfklpgaa
