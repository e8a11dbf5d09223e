/-
  A burst's step: the method value, BurstStep of the program and of the specification.
-/
import Derived.Test.YtcdjblgjcdkdnaaBrs3
import Derived.Laws.ByValue
namespace Go.Proofs.Ytcdjblgjcdkdnaa
open Go.RowKit

set_option maxRecDepth 20000 in
set_option maxHeartbeats 4000000 in
theorem step_any (c : Cf) (x : Bu) (p : Nat) (w : World) (h : BuZ w p #[.int .i64 x.l, .int .i64 x.s, .int .i64 x.g]) (h1 : 0 ≤ x.l ∧ x.l ≤ 1000) (h2 : 0 ≤ x.s ∧ x.s ≤ 100000) (h3 : 0 ≤ x.g ∧ x.g ≤ 100000) (h4 : 0 ≤ c.m ∧ c.m ≤ 100000) :
    Calls Try.prog 28 #[.agg #[.pointer (some ⟨p, 0, none⟩), .int .i64 c.r, .int .i64 c.s, .int .i64 c.b, .int .i64 c.m, .int .i64 c.q, .int .i64 c.c, .int .i64 c.w]] w fun e w' => e = .returned (.bool (decide (x.l ≠ 0))) ∧ BuZ w' p #[.int .i64 (if x.l ≠ 0 then lookB c x else passB c x).l, .int .i64 (if x.l ≠ 0 then lookB c x else passB c x).s, .int .i64 (if x.l ≠ 0 then lookB c x else passB c x).g] ∧ w.grownBy w' (some p) := by
  have cL := fun u h => look_any c x p u h h1 h2 h3 h4
  have cP := fun u h => pass_any c x p u h h1 h2 h3 h4
  obtain ⟨B, hB⟩ : ∃ B, B = decide (x.l ≠ 0) := ⟨_, rfl⟩
  obtain ⟨y, hy⟩ : ∃ z, z = (if x.l ≠ 0 then lookB c x else passB c x) := ⟨_, rfl⟩
  obtain ⟨y1, hy1⟩ : ∃ z, z = lookB c x := ⟨_, rfl⟩
  obtain ⟨y2, hy2⟩ : ∃ z, z = passB c x := ⟨_, rfl⟩
  rw [← hB, ← hy]
  rw [← hy1] at cL hy
  rw [← hy2] at cP hy
  clear hy1 hy2 h1 h2 h3 h4
  obtain ⟨r, s, b, m, q, c, k⟩ := c
  obtain ⟨xl, xs, xg⟩ := x
  simp only at cL cP h hB hy ⊢
  have aR := RnAt.new w p ⟨r, s, b, m, q, c, k⟩
  have f := Fr.alloc w (.cells #[.pointer (some ⟨p, 0, none⟩), .int .i64 r, .int .i64 s, .int .i64 b, .int .i64 m, .int .i64 q, .int .i64 c, .int .i64 k] 61)
  have aB := h.fr f
  clear h
  obtain ⟨R, hR⟩ : ∃ R, R = w.heap.size := ⟨_, rfl⟩
  go_enter Try.func28, Try.ntmps28
  go_upto_region 1 with fail
  obtain ⟨U, hU⟩ : ∃ U, U = w.alloc (.cells #[.pointer (some ⟨p, 0, none⟩), .int .i64 r, .int .i64 s, .int .i64 b, .int .i64 m, .int .i64 q, .int .i64 c, .int .i64 k] 61) := ⟨_, rfl⟩
  rw [← hU] at aR aB f ⊢
  clear hU
  rw [← hR] at aR ⊢
  clear hR
  obtain ⟨rp, r0, r1, r2, r3, r4, r5, r6⟩ := aR
  simp only [Nat.reduceAdd] at r0 r1 r2 r3 r4 r5 r6
  have l0 := aB.c0
  by_cases hz : xl = 0
  · have hd : (xl != 0) = false := by simp [hz]
    have hn : ¬ (xl ≠ 0) := fun q => q hz
    rw [if_neg hn] at hy
    rw [decide_eq_false hn] at hB
    subst hy hB
    clear hn hz
    go_wp2_with fail
    refine (cP _ aB).mono ?_
    rintro e u1 ⟨rfl, z, g⟩
    go_wp2_with fail
    go_ret
    exact ⟨rfl, z, grown_trans f.wide g⟩
  · have hd : (xl != 0) = true := by simp [hz]
    have hn : xl ≠ 0 := hz
    rw [if_pos hn] at hy
    rw [decide_eq_true hn] at hB
    subst hy hB
    clear hn hz
    go_wp2_with fail
    refine (cL _ aB).mono ?_
    rintro e u1 ⟨rfl, z, g⟩
    go_wp2_with fail
    go_ret
    exact ⟨rfl, z, grown_trans f.wide g⟩

theorem stepsOf_any (c : Cf) (p : Nat) (w : World) :
    Calls Try.prog 21 #[.agg #[.int .i64 c.r, .int .i64 c.s, .int .i64 c.b, .int .i64 c.m, .int .i64 c.q, .int .i64 c.c, .int .i64 c.w], .pointer (some ⟨p, 0, none⟩)] w fun e w' => e = .returned (.func (.func 28) #[.agg #[.pointer (some ⟨p, 0, none⟩), .int .i64 c.r, .int .i64 c.s, .int .i64 c.b, .int .i64 c.m, .int .i64 c.q, .int .i64 c.c, .int .i64 c.w]] #[]) ∧ Fr w w' := by
  obtain ⟨r, s, b, m, q, c, k⟩ := c
  simp only
  have f := Fr.alloc w (.cells #[.int .i64 r, .int .i64 s, .int .i64 b, .int .i64 m, .int .i64 q, .int .i64 c, .int .i64 k] 28)
  have hmf : ∀ (fn : Fn) (first cap : Array Value) (w : World), (Instr.makeFunc fn first cap).run Try.prog w = .ok (.func fn first cap) w := fun _ _ _ _ => rfl
  go_enter Try.func21, Try.ntmps21
  go_wp2_with fail
  go_ret
  exact ⟨rfl, f⟩

set_option maxRecDepth 20000 in
set_option maxHeartbeats 4000000 in
theorem buStep_impl (c : Cf) (x : Bu) (W : World) :
    Calls Try.prog 11 #[.agg #[.int .i64 c.r, .int .i64 c.s, .int .i64 c.b, .int .i64 c.m, .int .i64 c.q, .int .i64 c.c, .int .i64 c.w], .agg #[.int .i64 x.l, .int .i64 x.s, .int .i64 x.g]] W fun e w' => e = .returned (.tuple #[.agg #[.int .i64 (stB1 c x).l, .int .i64 (stB1 c x).s, .int .i64 (stB1 c x).g], .bool (stB2 c x)]) ∧ Fr W w' := by
  have cO := fun u => buOk_impl c x u
  have cF := fun p u => stepsOf_any c p u
  have HI : bkB c x = true → ∀ p u, BuZ u p #[.int .i64 x.l, .int .i64 x.s, .int .i64 x.g] → Calls Try.prog 28 #[.agg #[.pointer (some ⟨p, 0, none⟩), .int .i64 c.r, .int .i64 c.s, .int .i64 c.b, .int .i64 c.m, .int .i64 c.q, .int .i64 c.c, .int .i64 c.w]] u fun e w' => e = .returned (.bool (stB2 c x)) ∧ BuZ w' p #[.int .i64 (stB1 c x).l, .int .i64 (stB1 c x).s, .int .i64 (stB1 c x).g] ∧ u.grownBy w' (some p) := by
    intro hb p u hu
    have q := bkB_in hb
    have qc := cfB_in q.1
    refine (step_any c x p u hu (by omega) (by omega) (by omega) (by omega)).mono ?_
    rintro e w' ⟨rfl, z, g⟩
    refine ⟨by simp [stB2, hb], ?_, g⟩
    have e : stB1 c x = (if x.l ≠ 0 then lookB c x else passB c x) := by simp only [stB1, hb, if_true, lookB, passB]
    rw [e]; exact z
  have HN : bkB c x = false → stB1 c x = ⟨0, 0, 0⟩ ∧ stB2 c x = false := fun h => by simp [stB1, stB2, h]
  generalize bkB c x = B at cO HI HN
  generalize stB1 c x = S1 at HI HN ⊢
  generalize stB2 c x = S2 at HI HN ⊢
  obtain ⟨r, s, b, m, q, c, k⟩ := c
  obtain ⟨xl, xs, xg⟩ := x
  obtain ⟨yl, ys, yg⟩ := S1
  simp only at cO cF HI HN ⊢
  have aC := CfAt.new W ⟨r, s, b, m, q, c, k⟩ 28
  have f := Fr.alloc W (.cells #[.int .i64 r, .int .i64 s, .int .i64 b, .int .i64 m, .int .i64 q, .int .i64 c, .int .i64 k] 28)
  obtain ⟨V, hV⟩ : ∃ V, V = W.alloc (.cells #[.int .i64 r, .int .i64 s, .int .i64 b, .int .i64 m, .int .i64 q, .int .i64 c, .int .i64 k] 28) := ⟨_, rfl⟩
  rw [← hV] at aC f
  have hs1 : V.heap.size = W.heap.size + 1 := by rw [hV]; simp
  have aX : BuZ (V.alloc (.cells #[.int .i64 xl, .int .i64 xs, .int .i64 xg] 33)) V.heap.size #[.int .i64 xl, .int .i64 xs, .int .i64 xg] := heap_alloc_new _ _
  have f2 := Fr.alloc V (.cells #[.int .i64 xl, .int .i64 xs, .int .i64 xg] 33)
  replace aC := aC.fr f2
  replace f := f.trans f2
  clear f2
  have hs2 : (V.alloc (.cells #[.int .i64 xl, .int .i64 xs, .int .i64 xg] 33)).heap.size = W.heap.size + 2 := by simp [hs1]
  rw [hs1] at aX
  have aZ : BuZ ((V.alloc (.cells #[.int .i64 xl, .int .i64 xs, .int .i64 xg] 33)).alloc (.cells #[.int .i64 0, .int .i64 0, .int .i64 0] 33)) (V.alloc (.cells #[.int .i64 xl, .int .i64 xs, .int .i64 xg] 33)).heap.size #[.int .i64 0, .int .i64 0, .int .i64 0] := heap_alloc_new _ _
  have f3 := Fr.alloc (V.alloc (.cells #[.int .i64 xl, .int .i64 xs, .int .i64 xg] 33)) (.cells #[.int .i64 0, .int .i64 0, .int .i64 0] 33)
  replace aC := aC.fr f3
  replace aX := aX.fr f3
  replace f := f.trans f3
  rw [hs2] at aZ
  rw [hV] at aC f aX aZ
  clear f3 hs1 hs2 hV V
  go_enter Try.func11, Try.ntmps11
  go_upto_region 1 with fail
  obtain ⟨U, hU⟩ : ∃ U, U = ((W.alloc (.cells #[.int .i64 r, .int .i64 s, .int .i64 b, .int .i64 m, .int .i64 q, .int .i64 c, .int .i64 k] 28)).alloc (.cells #[.int .i64 xl, .int .i64 xs, .int .i64 xg] 33)).alloc (.cells #[.int .i64 0, .int .i64 0, .int .i64 0] 33) := ⟨_, rfl⟩
  rw [← hU] at aC aX aZ f ⊢
  clear hU
  have aC0 := aC
  obtain ⟨k0, k1, k2, k3, k4, k5, k6⟩ := aC0
  simp only [Nat.zero_add] at k0 k1 k2 k3 k4 k5 k6
  have x0 := aX.c0
  have x1 := aX.c1
  have x2 := aX.c2
  go_wp2_with fail
  refine (cO _).mono ?_
  rintro e u0 ⟨rfl, f0⟩
  clear k0 k1 k2 k3 k4 k5 k6 x0 x1 x2 cO
  replace aC := aC.fr f0
  replace aX := aX.fr f0
  replace aZ := aZ.fr f0
  replace f := f.trans f0
  clear f0
  have aC0 := aC
  obtain ⟨k0, k1, k2, k3, k4, k5, k6⟩ := aC0
  simp only [Nat.zero_add] at k0 k1 k2 k3 k4 k5 k6
  have x0 := aX.c0
  have x1 := aX.c1
  have x2 := aX.c2
  have z0 := aZ.c0
  have z1 := aZ.c1
  have z2 := aZ.c2
  have nz := aZ.free
  cases B
  · obtain ⟨hS, rfl⟩ := HN rfl
    obtain ⟨rfl, rfl, rfl⟩ : yl = 0 ∧ ys = 0 ∧ yg = 0 := by simpa using hS
    clear hS HI HN
    have z := ((aZ.set0 (.int .i64 0)).set1 (.int .i64 0)).set2 (.int .i64 0)
    have g := grown_trans (grown_trans (grown_set u0 (W.heap.size + 2) 0 (.int .i64 0)) (grown_set _ (W.heap.size + 2) 1 (.int .i64 0))) (grown_set _ (W.heap.size + 2) 2 (.int .i64 0))
    have y0 := z.c0
    have y1 := z.c1
    have y2 := z.c2
    go_wp2_with fail
    refine bodyPost_ret (v := .tuple #[.agg #[.int .i64 0, .int .i64 0, .int .i64 0], .bool false]) (by simp [results, Try.results11, go_sem, y0, y1, y2]) rfl ⟨rfl, ?_⟩
    exact f.then g (by intro j hj; cases hj; omega)
  have cT := fun u h => HI rfl (W.heap.size + 1) u h
  clear HI HN
  go_wp2_with fail
  refine (cF _ _).mono ?_
  rintro e u1 ⟨rfl, f1⟩
  clear k0 k1 k2 k3 k4 k5 k6 x0 x1 x2 z0 z1 z2 nz cF
  replace aX := aX.fr f1
  replace aZ := aZ.fr f1
  replace f := f.trans f1
  clear f1
  go_wp2_with fail
  refine (cT _ aX).mono ?_
  rintro e u2 ⟨rfl, aX2, g2⟩
  have aZ2 := aZ.keep g2 (by simp)
  replace f := f.then g2 (by intro j hj; cases hj; omega)
  clear aX aZ g2 cT aC
  have x0 := aX2.c0
  have x1 := aX2.c1
  have x2 := aX2.c2
  have z0 := aZ2.c0
  have z1 := aZ2.c1
  have z2 := aZ2.c2
  have nz := aZ2.free
  have z := ((aZ2.set0 (.int .i64 yl)).set1 (.int .i64 ys)).set2 (.int .i64 yg)
  have g := grown_trans (grown_trans (grown_set u2 (W.heap.size + 2) 0 (.int .i64 yl)) (grown_set _ (W.heap.size + 2) 1 (.int .i64 ys))) (grown_set _ (W.heap.size + 2) 2 (.int .i64 yg))
  have y0 := z.c0
  have y1 := z.c1
  have y2 := z.c2
  go_wp2_with fail
  refine bodyPost_ret (v := .tuple #[.agg #[.int .i64 yl, .int .i64 ys, .int .i64 yg], .bool S2]) (by simp [results, Try.results11, go_sem, y0, y1, y2]) rfl ⟨rfl, ?_⟩
  exact f.then g (by intro j hj; cases hj; omega)
end Go.Proofs.Ytcdjblgjcdkdnaa
