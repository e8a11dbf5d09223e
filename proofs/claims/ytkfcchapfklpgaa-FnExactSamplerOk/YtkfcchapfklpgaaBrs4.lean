/-
  A burst's step: the method value, BurstStep of the program and of the specification.
-/
import Derived.Test.YtkfcchapfklpgaaBrs3
import Derived.Laws.ByValue
namespace Go.Proofs.Ytkfcchapfklpgaa
open Go.RowKit

set_option maxRecDepth 20000 in
set_option maxHeartbeats 4000000 in
theorem step_any (c : Cf) (x : Bu) (p : Nat) (w : World) (h : BuZ w p #[.int .i64 x.l, .int .i64 x.s, .int .i64 x.g]) (h1 : 0 ≤ x.l ∧ x.l ≤ 1000) (h2 : 0 ≤ x.s ∧ x.s ≤ 100000) (h3 : 0 ≤ x.g ∧ x.g ≤ 100000) (h4 : 0 ≤ c.m ∧ c.m ≤ 100000) :
    Calls Try.prog 75 #[.agg #[.pointer (some ⟨p, 0, none⟩), .int .i64 c.r, .int .i64 c.s, .int .i64 c.b, .int .i64 c.m, .int .i64 c.q, .int .i64 c.c, .int .i64 c.w]] w fun e w' => e = .returned (.bool (decide (x.l ≠ 0))) ∧ BuZ w' p #[.int .i64 (if x.l ≠ 0 then lookB c x else passB c x).l, .int .i64 (if x.l ≠ 0 then lookB c x else passB c x).s, .int .i64 (if x.l ≠ 0 then lookB c x else passB c x).g] ∧ w.grownBy w' (some p) := by
  have cL := fun u h => look_any c x p u h h1 h2 h3 h4
  have cP := fun u h => pass_any c x p u h h1 h2 h3 h4
  obtain ⟨B, hB⟩ : ∃ B, B = decide (x.l ≠ 0) := ⟨_, rfl⟩
  obtain ⟨y, hy⟩ : ∃ z, z = (if x.l ≠ 0 then lookB c x else passB c x) := ⟨_, rfl⟩
  obtain ⟨y1, hy1⟩ : ∃ z, z = lookB c x := ⟨_, rfl⟩
  obtain ⟨y2, hy2⟩ : ∃ z, z = passB c x := ⟨_, rfl⟩
  rw [← hB, ← hy]
  rw [← hy1] at cL hy
  rw [← hy2] at cP hy
  clear hy1 hy2 h1 h2 h3 h4
  obtain ⟨r, s, b, m, q, c, k⟩ := c
  obtain ⟨xl, xs, xg⟩ := x
  simp only at cL cP h hB hy ⊢
  have aR := RnAt.new w p ⟨r, s, b, m, q, c, k⟩
  have f := Fr.alloc w (.cells #[.pointer (some ⟨p, 0, none⟩), .int .i64 r, .int .i64 s, .int .i64 b, .int .i64 m, .int .i64 q, .int .i64 c, .int .i64 k] 114)
  have aB := h.fr f
  clear h
  obtain ⟨R, hR⟩ : ∃ R, R = w.heap.size := ⟨_, rfl⟩
  go_enter Try.func75, Try.ntmps75
  go_upto_region 1 with fail
  obtain ⟨U, hU⟩ : ∃ U, U = w.alloc (.cells #[.pointer (some ⟨p, 0, none⟩), .int .i64 r, .int .i64 s, .int .i64 b, .int .i64 m, .int .i64 q, .int .i64 c, .int .i64 k] 114) := ⟨_, rfl⟩
  rw [← hU] at aR aB f ⊢
  clear hU
  rw [← hR] at aR ⊢
  clear hR
  obtain ⟨rp, r0, r1, r2, r3, r4, r5, r6⟩ := aR
  simp only [Nat.reduceAdd] at r0 r1 r2 r3 r4 r5 r6
  have l0 := aB.c0
  by_cases hz : xl = 0
  · have hd : (xl != 0) = false := by simp [hz]
    have hn : ¬ (xl ≠ 0) := fun q => q hz
    rw [if_neg hn] at hy
    rw [decide_eq_false hn] at hB
    subst hy hB
    clear hn hz
    go_wp2_with fail
    refine (cP _ aB).mono ?_
    rintro e u1 ⟨rfl, z, g⟩
    go_wp2_with fail
    go_ret
    exact ⟨rfl, z, grown_trans f.wide g⟩
  · have hd : (xl != 0) = true := by simp [hz]
    have hn : xl ≠ 0 := hz
    rw [if_pos hn] at hy
    rw [decide_eq_true hn] at hB
    subst hy hB
    clear hn hz
    go_wp2_with fail
    refine (cL _ aB).mono ?_
    rintro e u1 ⟨rfl, z, g⟩
    go_wp2_with fail
    go_ret
    exact ⟨rfl, z, grown_trans f.wide g⟩

theorem stepsOf_any (c : Cf) (p : Nat) (w : World) :
    Calls Try.prog 69 #[.agg #[.int .i64 c.r, .int .i64 c.s, .int .i64 c.b, .int .i64 c.m, .int .i64 c.q, .int .i64 c.c, .int .i64 c.w], .pointer (some ⟨p, 0, none⟩)] w fun e w' => e = .returned (.func (.func 75) #[.agg #[.pointer (some ⟨p, 0, none⟩), .int .i64 c.r, .int .i64 c.s, .int .i64 c.b, .int .i64 c.m, .int .i64 c.q, .int .i64 c.c, .int .i64 c.w]] #[]) ∧ Fr w w' := by
  obtain ⟨r, s, b, m, q, c, k⟩ := c
  simp only
  have f := Fr.alloc w (.cells #[.int .i64 r, .int .i64 s, .int .i64 b, .int .i64 m, .int .i64 q, .int .i64 c, .int .i64 k] 29)
  have hmf : ∀ (fn : Fn) (first cap : Array Value) (w : World), (Instr.makeFunc fn first cap).run Try.prog w = .ok (.func fn first cap) w := fun _ _ _ _ => rfl
  go_enter Try.func69, Try.ntmps69
  go_wp2_with fail
  go_ret
  exact ⟨rfl, f⟩

end Go.Proofs.Ytkfcchapfklpgaa
