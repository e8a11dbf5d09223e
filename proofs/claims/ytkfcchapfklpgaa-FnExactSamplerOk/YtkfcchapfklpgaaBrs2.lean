/-
  NewBurst and BurstStep: the program's and the specification's.
-/
import Derived.Test.YtkfcchapfklpgaaBrs
import Derived.BigQuiet
import Derived.Test.YtkfcchapfklpgaaRegPiv
namespace Go.Proofs.Ytkfcchapfklpgaa
open Go.RowKit

set_option maxRecDepth 20000 in
set_option maxHeartbeats 4000000 in
theorem nwB_spec (c : Cf) (W : World) :
    Calls Try.prog 54 #[.agg #[.int .i64 c.r, .int .i64 c.s, .int .i64 c.b, .int .i64 c.m, .int .i64 c.q, .int .i64 c.c, .int .i64 c.w]] W fun e w' => e = .returned (.agg #[.int .i64 (nwB c).l, .int .i64 (nwB c).s, .int .i64 (nwB c).g]) ∧ Fr W w' := by
  have cS := fun u => cfOk_spec c u
  simp only [nwB]
  generalize cfB c = B at cS ⊢
  obtain ⟨r, s, b, m, q, c, w⟩ := c
  have cM := fun u => l1Min_any b m u
  simp only at cS ⊢
  have aC := CfAt.new W ⟨r, s, b, m, q, c, w⟩ 29
  have f := Fr.alloc W (.cells #[.int .i64 r, .int .i64 s, .int .i64 b, .int .i64 m, .int .i64 q, .int .i64 c, .int .i64 w] 29)
  have aB : BuZ ((W.alloc (.cells #[.int .i64 r, .int .i64 s, .int .i64 b, .int .i64 m, .int .i64 q, .int .i64 c, .int .i64 w] 29)).alloc (.cells #[.int .i64 0, .int .i64 0, .int .i64 0] 51)) (W.alloc (.cells #[.int .i64 r, .int .i64 s, .int .i64 b, .int .i64 m, .int .i64 q, .int .i64 c, .int .i64 w] 29)).heap.size #[.int .i64 0, .int .i64 0, .int .i64 0] := heap_alloc_new _ _
  have f' := Fr.alloc (W.alloc (.cells #[.int .i64 r, .int .i64 s, .int .i64 b, .int .i64 m, .int .i64 q, .int .i64 c, .int .i64 w] 29)) (.cells #[.int .i64 0, .int .i64 0, .int .i64 0] 51)
  replace f := f.trans f'
  replace aC := aC.fr f'
  clear f'
  have hs : (W.alloc (.cells #[.int .i64 r, .int .i64 s, .int .i64 b, .int .i64 m, .int .i64 q, .int .i64 c, .int .i64 w] 29)).heap.size = W.heap.size + 1 := by simp
  rw [hs] at aB
  clear hs
  go_enter Try.func54, Try.ntmps54
  go_wp2_with fail
  obtain ⟨U, hU⟩ : ∃ U, U = (W.alloc (.cells #[.int .i64 r, .int .i64 s, .int .i64 b, .int .i64 m, .int .i64 q, .int .i64 c, .int .i64 w] 29)).alloc (.cells #[.int .i64 0, .int .i64 0, .int .i64 0] 51) := ⟨_, rfl⟩
  rw [← hU] at aC aB f ⊢
  clear hU
  refine (cS _).mono ?_
  rintro e u0 ⟨rfl, f0⟩
  clear cS
  obtain ⟨k0, k1, k2, k3, k4, k5, k6⟩ := aC.fr f0
  simp only [Nat.zero_add] at k0 k1 k2 k3 k4 k5 k6
  replace aB := aB.fr f0
  have l0 := aB.c0
  have l1 := aB.c1
  have l2 := aB.c2
  have n0 := aB.free
  replace f := f.trans f0
  clear f0
  cases B
  · go_wp2_with fail
    have z := ((aB.set0 (.int .i64 0)).set1 (.int .i64 0)).set2 (.int .i64 0)
    have g := grown_trans (grown_trans (grown_set u0 (W.heap.size + 1) 0 (.int .i64 0)) (grown_set _ (W.heap.size + 1) 1 (.int .i64 0))) (grown_set _ (W.heap.size + 1) 2 (.int .i64 0))
    have z0 := z.c0
    have z1 := z.c1
    have z2 := z.c2
    refine bodyPost_ret (v := .agg #[.int .i64 0, .int .i64 0, .int .i64 0]) (by simp [results, Try.results54, go_sem, z0, z1, z2]) rfl ⟨by simp, ?_⟩
    exact f.then g (by intro j hj; cases hj; omega)
  go_wp2_with fail
  have e1 : ∀ s : Later u0, s.u.cell? ⟨W.heap.size, 2, none⟩ = some (.int .i64 b) := fun s => s.fr.cell k2
  have e2 : ∀ s : Later u0, s.u.cell? ⟨W.heap.size, 3, none⟩ = some (.int .i64 m) := fun s => s.fr.cell k3
  have hne := Later.some u0
  refine wp_region_pivot (C := fun w' => ∃ s : Later u0, w' = s.u) (C2 := fun w' => BuZ w' (W.heap.size + 1) #[.int .i64 b, .int .i64 0, .int .i64 (min b m)] ∧ Fr W w') 8 (by kernel_rfl) (by kernel_rfl) ⟨⟨u0.drew, Fr.drew u0⟩, rfl⟩ ?_
  simp only [List.take_succ_cons, List.take_zero, List.drop_succ_cons, List.drop_zero]
  repeat (go_big_quiet_step (first | with_reducible exact Calls.grown_same (cM _)))
  refine wpQuiet_nil ?_
  rintro _ ⟨σ, rfl⟩ o ho
  simp only [List.getElem?_cons_succ, List.getElem?_cons_zero, Option.some.injEq] at ho
  subst ho
  refine ⟨rfl, ?_⟩
  have aB := aB.fr σ.fr
  have n0 := aB.free
  have l0 := aB.c0
  have l1 := aB.c1
  have l2 := aB.c2
  have z := ((aB.set0 (.int .i64 b)).set1 (.int .i64 0)).set2 (.int .i64 (min b m))
  have g := grown_trans (grown_trans (grown_set σ.u (W.heap.size + 1) 0 (.int .i64 b)) (grown_set _ (W.heap.size + 1) 1 (.int .i64 0))) (grown_set _ (W.heap.size + 1) 2 (.int .i64 (min b m)))
  have HR : Hid (BuZ (((σ.u.setCell ⟨W.heap.size + 1, 0, none⟩ (.int .i64 b)).setCell ⟨W.heap.size + 1, 1, none⟩ (.int .i64 0)).setCell ⟨W.heap.size + 1, 2, none⟩ (.int .i64 (min b m))) (W.heap.size + 1) #[.int .i64 b, .int .i64 0, .int .i64 (min b m)] ∧ Fr W (((σ.u.setCell ⟨W.heap.size + 1, 0, none⟩ (.int .i64 b)).setCell ⟨W.heap.size + 1, 1, none⟩ (.int .i64 0)).setCell ⟨W.heap.size + 1, 2, none⟩ (.int .i64 (min b m)))) := ⟨z, (f.trans σ.fr).then g (by intro j hj; cases hj; omega)⟩
  clear z g
  go_simp
  refine ⟨HR.out, ?_⟩
  refine wpQuiet_nil ?_
  first | (rintro u2 ⟨z, f2⟩) | (intro u2 z f2)
  have z0 := z.c0
  have z1 := z.c1
  have z2 := z.c2
  clear HR l0 l1 l2 aB n0
  go_wp2_with fail
  refine bodyPost_ret (v := .agg #[.int .i64 b, .int .i64 0, .int .i64 (min b m)]) (by simp [results, Try.results54, go_sem, z0, z1, z2]) rfl ⟨rfl, ?_⟩
  exact f2

set_option maxRecDepth 20000 in
set_option maxHeartbeats 4000000 in
theorem nwB_impl (c : Cf) (W : World) :
    Calls Try.prog 70 #[.agg #[.int .i64 c.r, .int .i64 c.s, .int .i64 c.b, .int .i64 c.m, .int .i64 c.q, .int .i64 c.c, .int .i64 c.w]] W fun e w' => e = .returned (.agg #[.int .i64 (nwB c).l, .int .i64 (nwB c).s, .int .i64 (nwB c).g]) ∧ Fr W w' := by
  have cS := fun u => cfOk_impl c u
  simp only [nwB]
  generalize cfB c = B at cS ⊢
  obtain ⟨r, s, b, m, q, c, w⟩ := c
  simp only at cS ⊢
  have aC := CfAt.new W ⟨r, s, b, m, q, c, w⟩ 29
  have f := Fr.alloc W (.cells #[.int .i64 r, .int .i64 s, .int .i64 b, .int .i64 m, .int .i64 q, .int .i64 c, .int .i64 w] 29)
  have aB : BuZ ((W.alloc (.cells #[.int .i64 r, .int .i64 s, .int .i64 b, .int .i64 m, .int .i64 q, .int .i64 c, .int .i64 w] 29)).alloc (.cells #[.int .i64 0, .int .i64 0, .int .i64 0] 51)) (W.alloc (.cells #[.int .i64 r, .int .i64 s, .int .i64 b, .int .i64 m, .int .i64 q, .int .i64 c, .int .i64 w] 29)).heap.size #[.int .i64 0, .int .i64 0, .int .i64 0] := heap_alloc_new _ _
  have f' := Fr.alloc (W.alloc (.cells #[.int .i64 r, .int .i64 s, .int .i64 b, .int .i64 m, .int .i64 q, .int .i64 c, .int .i64 w] 29)) (.cells #[.int .i64 0, .int .i64 0, .int .i64 0] 51)
  replace f := f.trans f'
  replace aC := aC.fr f'
  clear f'
  have hs : (W.alloc (.cells #[.int .i64 r, .int .i64 s, .int .i64 b, .int .i64 m, .int .i64 q, .int .i64 c, .int .i64 w] 29)).heap.size = W.heap.size + 1 := by simp
  rw [hs] at aB
  clear hs
  go_enter Try.func70, Try.ntmps70
  go_wp2_with fail
  obtain ⟨U, hU⟩ : ∃ U, U = (W.alloc (.cells #[.int .i64 r, .int .i64 s, .int .i64 b, .int .i64 m, .int .i64 q, .int .i64 c, .int .i64 w] 29)).alloc (.cells #[.int .i64 0, .int .i64 0, .int .i64 0] 51) := ⟨_, rfl⟩
  rw [← hU] at aC aB f ⊢
  clear hU
  refine (cS _).mono ?_
  rintro e u0 ⟨rfl, f0⟩
  clear cS
  obtain ⟨k0, k1, k2, k3, k4, k5, k6⟩ := aC.fr f0
  simp only [Nat.zero_add] at k0 k1 k2 k3 k4 k5 k6
  replace aB := aB.fr f0
  have l0 := aB.c0
  have l1 := aB.c1
  have l2 := aB.c2
  have n0 := aB.free
  replace f := f.trans f0
  clear f0
  cases B
  · go_wp2_with fail
    have z := ((aB.set0 (.int .i64 0)).set1 (.int .i64 0)).set2 (.int .i64 0)
    have g := grown_trans (grown_trans (grown_set u0 (W.heap.size + 1) 0 (.int .i64 0)) (grown_set _ (W.heap.size + 1) 1 (.int .i64 0))) (grown_set _ (W.heap.size + 1) 2 (.int .i64 0))
    have z0 := z.c0
    have z1 := z.c1
    have z2 := z.c2
    refine bodyPost_ret (v := .agg #[.int .i64 0, .int .i64 0, .int .i64 0]) (by simp [results, Try.results70, go_sem, z0, z1, z2]) rfl ⟨by simp, ?_⟩
    exact f.then g (by intro j hj; cases hj; omega)
  by_cases hbm : b ≤ m
  · have hm : min b m = b := by omega
    go_wp2_with fail
    have z := ((aB.set0 (.int .i64 b)).set1 (.int .i64 0)).set2 (.int .i64 b)
    have g := grown_trans (grown_trans (grown_set u0 (W.heap.size + 1) 0 (.int .i64 b)) (grown_set _ (W.heap.size + 1) 1 (.int .i64 0))) (grown_set _ (W.heap.size + 1) 2 (.int .i64 b))
    have z0 := z.c0
    have z1 := z.c1
    have z2 := z.c2
    refine bodyPost_ret (v := .agg #[.int .i64 b, .int .i64 0, .int .i64 b]) (by simp [results, Try.results70, go_sem, z0, z1, z2]) rfl ⟨rfl, ?_⟩
    exact f.then g (by intro j hj; cases hj; omega)
  · have hm : min b m = m := by omega
    go_wp2_with fail
    have z := ((aB.set0 (.int .i64 b)).set1 (.int .i64 0)).set2 (.int .i64 m)
    have g := grown_trans (grown_trans (grown_set u0 (W.heap.size + 1) 0 (.int .i64 b)) (grown_set _ (W.heap.size + 1) 1 (.int .i64 0))) (grown_set _ (W.heap.size + 1) 2 (.int .i64 m))
    have z0 := z.c0
    have z1 := z.c1
    have z2 := z.c2
    refine bodyPost_ret (v := .agg #[.int .i64 b, .int .i64 0, .int .i64 m]) (by simp [results, Try.results70, go_sem, z0, z1, z2]) rfl ⟨rfl, ?_⟩
    exact f.then g (by intro j hj; cases hj; omega)
end Go.Proofs.Ytkfcchapfklpgaa
