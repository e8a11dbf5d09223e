/-
  BurstStep of the specification.
-/
import Derived.Test.YtkfcchapfklpgaaBrs4
namespace Go.Proofs.Ytkfcchapfklpgaa
open Go.RowKit

set_option maxRecDepth 20000 in
set_option maxHeartbeats 4000000 in
theorem buStep_spec (c : Cf) (x : Bu) (W : World) :
    Calls Try.prog 37 #[.agg #[.int .i64 c.r, .int .i64 c.s, .int .i64 c.b, .int .i64 c.m, .int .i64 c.q, .int .i64 c.c, .int .i64 c.w], .agg #[.int .i64 x.l, .int .i64 x.s, .int .i64 x.g]] W fun e w' => e = .returned (.tuple #[.agg #[.int .i64 (stB1 c x).l, .int .i64 (stB1 c x).s, .int .i64 (stB1 c x).g], .bool (stB2 c x)]) ∧ Fr W w' := by
  have cO := fun u => buOk_spec c x u
  have cM := fun u => l1Min_any (2 * x.g) c.m u
  have hB : bkB c x = true → (0 ≤ x.l ∧ x.l ≤ 1000) ∧ (0 ≤ x.s ∧ x.s ≤ 100000) ∧ (1 ≤ x.g ∧ x.g ≤ 100000) := fun h => by
    have q := bkB_in h
    have qc := cfB_in q.1
    omega
  have hC : bkB c x = true → (1 ≤ c.m ∧ c.m ≤ 100000) := fun h => by
    have q := bkB_in h
    have qc := cfB_in q.1
    omega
  obtain ⟨S1, hS1⟩ : ∃ z, z = stB1 c x := ⟨_, rfl⟩
  obtain ⟨S2, hS2⟩ : ∃ z, z = stB2 c x := ⟨_, rfl⟩
  rw [← hS1, ← hS2]
  simp only [stB1, stB2] at hS1 hS2
  generalize bkB c x = B at cO hS1 hS2 hB hC
  obtain ⟨r, s, b, m, q, c, k⟩ := c
  obtain ⟨xl, xs, xg⟩ := x
  simp only at cO cM hS1 hS2 hB hC ⊢
  have aC := CfAt.new W ⟨r, s, b, m, q, c, k⟩ 29
  have f := Fr.alloc W (.cells #[.int .i64 r, .int .i64 s, .int .i64 b, .int .i64 m, .int .i64 q, .int .i64 c, .int .i64 k] 29)
  obtain ⟨V, hV⟩ : ∃ V, V = W.alloc (.cells #[.int .i64 r, .int .i64 s, .int .i64 b, .int .i64 m, .int .i64 q, .int .i64 c, .int .i64 k] 29) := ⟨_, rfl⟩
  rw [← hV] at aC f
  have hs1 : V.heap.size = W.heap.size + 1 := by rw [hV]; simp
  have aX : BuZ (V.alloc (.cells #[.int .i64 xl, .int .i64 xs, .int .i64 xg] 51)) V.heap.size #[.int .i64 xl, .int .i64 xs, .int .i64 xg] := heap_alloc_new _ _
  have f2 := Fr.alloc V (.cells #[.int .i64 xl, .int .i64 xs, .int .i64 xg] 51)
  replace aC := aC.fr f2
  replace f := f.trans f2
  clear f2
  have hs2 : (V.alloc (.cells #[.int .i64 xl, .int .i64 xs, .int .i64 xg] 51)).heap.size = W.heap.size + 2 := by simp [hs1]
  rw [hs1] at aX
  have aZ : BuZ ((V.alloc (.cells #[.int .i64 xl, .int .i64 xs, .int .i64 xg] 51)).alloc (.cells #[.int .i64 0, .int .i64 0, .int .i64 0] 51)) (V.alloc (.cells #[.int .i64 xl, .int .i64 xs, .int .i64 xg] 51)).heap.size #[.int .i64 0, .int .i64 0, .int .i64 0] := heap_alloc_new _ _
  have f3 := Fr.alloc (V.alloc (.cells #[.int .i64 xl, .int .i64 xs, .int .i64 xg] 51)) (.cells #[.int .i64 0, .int .i64 0, .int .i64 0] 51)
  replace aC := aC.fr f3
  replace aX := aX.fr f3
  replace f := f.trans f3
  rw [hs2] at aZ
  rw [hV] at aC f aX aZ
  clear f3 hs1 hs2 hV V
  go_enter Try.func37, Try.ntmps37
  go_upto_region 1 with fail
  obtain ⟨U, hU⟩ : ∃ U, U = ((W.alloc (.cells #[.int .i64 r, .int .i64 s, .int .i64 b, .int .i64 m, .int .i64 q, .int .i64 c, .int .i64 k] 29)).alloc (.cells #[.int .i64 xl, .int .i64 xs, .int .i64 xg] 51)).alloc (.cells #[.int .i64 0, .int .i64 0, .int .i64 0] 51) := ⟨_, rfl⟩
  rw [← hU] at aC aX aZ f ⊢
  clear hU
  have aC0 := aC
  obtain ⟨k0, k1, k2, k3, k4, k5, k6⟩ := aC0
  simp only [Nat.zero_add] at k0 k1 k2 k3 k4 k5 k6
  have x0 := aX.c0
  have x1 := aX.c1
  have x2 := aX.c2
  go_wp2_with fail
  refine (cO _).mono ?_
  rintro e u0 ⟨rfl, f0⟩
  clear k0 k1 k2 k3 k4 k5 k6 x0 x1 x2 cO
  replace aC := aC.fr f0
  replace aX := aX.fr f0
  replace aZ := aZ.fr f0
  replace f := f.trans f0
  clear f0
  have aC0 := aC
  obtain ⟨k0, k1, k2, k3, k4, k5, k6⟩ := aC0
  simp only [Nat.zero_add] at k0 k1 k2 k3 k4 k5 k6
  have x0 := aX.c0
  have x1 := aX.c1
  have x2 := aX.c2
  have z0 := aZ.c0
  have z1 := aZ.c1
  have z2 := aZ.c2
  have nz := aZ.free
  cases B
  · simp only [Bool.false_eq_true, if_false, Bool.false_and] at hS1 hS2
    subst hS1 hS2
    clear hB hC cM
    have z := ((aZ.set0 (.int .i64 0)).set1 (.int .i64 0)).set2 (.int .i64 0)
    have g := grown_trans (grown_trans (grown_set u0 (W.heap.size + 2) 0 (.int .i64 0)) (grown_set _ (W.heap.size + 2) 1 (.int .i64 0))) (grown_set _ (W.heap.size + 2) 2 (.int .i64 0))
    have y0 := z.c0
    have y1 := z.c1
    have y2 := z.c2
    go_wp2_with fail
    refine bodyPost_ret (v := .tuple #[.agg #[.int .i64 0, .int .i64 0, .int .i64 0], .bool false]) (by simp [results, Try.results37, go_sem, y0, y1, y2]) rfl ⟨rfl, ?_⟩
    exact f.then g (by intro j hj; cases hj; omega)
  obtain ⟨⟨p1, p2⟩, ⟨p3, p4⟩, p5, p6⟩ := hB rfl
  obtain ⟨p7, p8⟩ := hC rfl
  clear hB hC
  simp only [if_true, Bool.true_and] at hS1 hS2
  have nx := aX.free
  by_cases hz : xl = 0
  · have hn : ¬ (xl ≠ 0) := fun q => q hz
    rw [if_neg hn] at hS1
    rw [decide_eq_false hn] at hS2
    subst hS2
    subst hz
    clear hn cM
    clear k0 k1 k4 k5 k6 aC
    go_upto_region 10 with fail
    have g4 := grown_set u0 (W.heap.size + 1) 1 (.int .i64 (xs - 1))
    replace aX := aX.set1 (.int .i64 (xs - 1))
    replace aZ := aZ.keep g4 (by simp)
    replace k2 := g4.cell k2 (by simp)
    replace k3 := g4.cell k3 (by simp)
    replace f := f.then g4 (by intro j hj; cases hj; omega)
    clear x0 x1 x2 z0 z1 z2 nz nx g4
    obtain ⟨v1, hN⟩ : ∃ V, V = u0.setCell ⟨W.heap.size + 1, 1, none⟩ (.int .i64 (xs - 1)) := ⟨_, rfl⟩
    rw [← hN] at aX aZ k2 k3 f ⊢
    clear hN
    have x0 := aX.c0
    have x1 := aX.c1
    have x2 := aX.c2
    have z0 := aZ.c0
    have z1 := aZ.c1
    have z2 := aZ.c2
    have nz := aZ.free
    have nx := aX.free
    by_cases hy : xs - 1 = 0
    · rw [if_pos hy, hy] at hS1
      subst hS1
      rw [hy] at x1 aX ⊢
      clear hy
      go_upto_region 12 with fail
      have g4 := grown_set v1 (W.heap.size + 1) 0 (.int .i64 (b))
      replace aX := aX.set0 (.int .i64 (b))
      replace aZ := aZ.keep g4 (by simp)
      replace k2 := g4.cell k2 (by simp)
      replace k3 := g4.cell k3 (by simp)
      replace f := f.then g4 (by intro j hj; cases hj; omega)
      clear x0 x1 x2 z0 z1 z2 nz nx g4
      obtain ⟨v2, hN⟩ : ∃ V, V = v1.setCell ⟨W.heap.size + 1, 0, none⟩ (.int .i64 (b)) := ⟨_, rfl⟩
      rw [← hN] at aX aZ k2 k3 f ⊢
      clear hN
      have x0 := aX.c0
      have x1 := aX.c1
      have x2 := aX.c2
      have z0 := aZ.c0
      have z1 := aZ.c1
      have z2 := aZ.c2
      have nz := aZ.free
      have nx := aX.free
      have z := ((aZ.set0 (.int .i64 b)).set1 (.int .i64 0)).set2 (.int .i64 xg)
      have g := grown_trans (grown_trans (grown_set v2 (W.heap.size + 2) 0 (.int .i64 b)) (grown_set _ (W.heap.size + 2) 1 (.int .i64 0))) (grown_set _ (W.heap.size + 2) 2 (.int .i64 xg))
      have y0 := z.c0
      have y1 := z.c1
      have y2 := z.c2
      go_wp2_with fail
      refine bodyPost_ret (v := .tuple #[.agg #[.int .i64 b, .int .i64 0, .int .i64 xg], .bool false]) (by simp [results, Try.results37, go_sem, y0, y1, y2]) rfl ⟨rfl, ?_⟩
      exact f.then g (by intro j hj; cases hj; omega)
    · rw [if_neg hy] at hS1
      subst hS1
      have hd : decide (xs - 1 = 0) = false := decide_eq_false hy
      go_upto_region 12 with fail
      have z := ((aZ.set0 (.int .i64 0)).set1 (.int .i64 (xs - 1))).set2 (.int .i64 xg)
      have g := grown_trans (grown_trans (grown_set v1 (W.heap.size + 2) 0 (.int .i64 0)) (grown_set _ (W.heap.size + 2) 1 (.int .i64 (xs - 1)))) (grown_set _ (W.heap.size + 2) 2 (.int .i64 xg))
      have y0 := z.c0
      have y1 := z.c1
      have y2 := z.c2
      go_wp2_with fail
      refine bodyPost_ret (v := .tuple #[.agg #[.int .i64 0, .int .i64 (xs - 1), .int .i64 xg], .bool false]) (by simp [results, Try.results37, go_sem, y0, y1, y2]) rfl ⟨rfl, ?_⟩
      exact f.then g (by intro j hj; cases hj; omega)
  · have hn : xl ≠ 0 := hz
    rw [if_pos hn] at hS1
    rw [decide_eq_true hn] at hS2
    subst hS2
    have hgt : 0 < xl := by omega
    clear k0 k1 k4 k5 k6 aC
    go_upto_region 5 with fail
    have g4 := grown_set u0 (W.heap.size + 1) 0 (.int .i64 (xl - 1))
    replace aX := aX.set0 (.int .i64 (xl - 1))
    replace aZ := aZ.keep g4 (by simp)
    replace k2 := g4.cell k2 (by simp)
    replace k3 := g4.cell k3 (by simp)
    replace f := f.then g4 (by intro j hj; cases hj; omega)
    clear x0 x1 x2 z0 z1 z2 nz nx g4
    obtain ⟨v1, hN⟩ : ∃ V, V = u0.setCell ⟨W.heap.size + 1, 0, none⟩ (.int .i64 (xl - 1)) := ⟨_, rfl⟩
    rw [← hN] at aX aZ k2 k3 f ⊢
    clear hN
    have x0 := aX.c0
    have x1 := aX.c1
    have x2 := aX.c2
    have z0 := aZ.c0
    have z1 := aZ.c1
    have z2 := aZ.c2
    have nz := aZ.free
    have nx := aX.free
    by_cases hy : xl - 1 = 0
    · rw [if_pos hy, hy] at hS1
      subst hS1
      rw [hy] at x0 aX ⊢
      clear hy
      go_upto_region 7 with fail
      have g4 := grown_set v1 (W.heap.size + 1) 1 (.int .i64 (xg))
      replace aX := aX.set1 (.int .i64 (xg))
      replace aZ := aZ.keep g4 (by simp)
      replace k2 := g4.cell k2 (by simp)
      replace k3 := g4.cell k3 (by simp)
      replace f := f.then g4 (by intro j hj; cases hj; omega)
      clear x0 x1 x2 z0 z1 z2 nz nx g4
      obtain ⟨v2, hN⟩ : ∃ V, V = v1.setCell ⟨W.heap.size + 1, 1, none⟩ (.int .i64 (xg)) := ⟨_, rfl⟩
      rw [← hN] at aX aZ k2 k3 f ⊢
      clear hN
      have x0 := aX.c0
      have x1 := aX.c1
      have x2 := aX.c2
      have z0 := aZ.c0
      have z1 := aZ.c1
      have z2 := aZ.c2
      have nz := aZ.free
      have nx := aX.free
      go_wp2_with fail
      refine (cM _).mono ?_
      rintro e v3 ⟨rfl, rfl⟩
      go_upto_region 8 with fail
      have g4 := grown_set v3 (W.heap.size + 1) 2 (.int .i64 (min (2 * xg) m))
      replace aX := aX.set2 (.int .i64 (min (2 * xg) m))
      replace aZ := aZ.keep g4 (by simp)
      replace k2 := g4.cell k2 (by simp)
      replace k3 := g4.cell k3 (by simp)
      replace f := f.then g4 (by intro j hj; cases hj; omega)
      clear x0 x1 x2 z0 z1 z2 nz nx g4
      obtain ⟨v4, hN⟩ : ∃ V, V = v3.setCell ⟨W.heap.size + 1, 2, none⟩ (.int .i64 (min (2 * xg) m)) := ⟨_, rfl⟩
      rw [← hN] at aX aZ k2 k3 f ⊢
      clear hN
      have x0 := aX.c0
      have x1 := aX.c1
      have x2 := aX.c2
      have z0 := aZ.c0
      have z1 := aZ.c1
      have z2 := aZ.c2
      have nz := aZ.free
      have nx := aX.free
      have z := ((aZ.set0 (.int .i64 0)).set1 (.int .i64 xg)).set2 (.int .i64 (min (2 * xg) m))
      have g := grown_trans (grown_trans (grown_set v4 (W.heap.size + 2) 0 (.int .i64 0)) (grown_set _ (W.heap.size + 2) 1 (.int .i64 xg))) (grown_set _ (W.heap.size + 2) 2 (.int .i64 (min (2 * xg) m)))
      have y0 := z.c0
      have y1 := z.c1
      have y2 := z.c2
      go_wp2_with fail
      refine bodyPost_ret (v := .tuple #[.agg #[.int .i64 0, .int .i64 xg, .int .i64 (min (2 * xg) m)], .bool true]) (by simp [results, Try.results37, go_sem, y0, y1, y2]) rfl ⟨rfl, ?_⟩
      exact f.then g (by intro j hj; cases hj; omega)
    · rw [if_neg hy] at hS1
      subst hS1
      have hd : decide (xl - 1 = 0) = false := decide_eq_false hy
      go_upto_region 8 with fail
      have z := ((aZ.set0 (.int .i64 (xl - 1))).set1 (.int .i64 xs)).set2 (.int .i64 xg)
      have g := grown_trans (grown_trans (grown_set v1 (W.heap.size + 2) 0 (.int .i64 (xl - 1))) (grown_set _ (W.heap.size + 2) 1 (.int .i64 xs))) (grown_set _ (W.heap.size + 2) 2 (.int .i64 xg))
      have y0 := z.c0
      have y1 := z.c1
      have y2 := z.c2
      go_wp2_with fail
      refine bodyPost_ret (v := .tuple #[.agg #[.int .i64 (xl - 1), .int .i64 xs, .int .i64 xg], .bool true]) (by simp [results, Try.results37, go_sem, y0, y1, y2]) rfl ⟨rfl, ?_⟩
      exact f.then g (by intro j hj; cases hj; omega)
end Go.Proofs.Ytkfcchapfklpgaa
