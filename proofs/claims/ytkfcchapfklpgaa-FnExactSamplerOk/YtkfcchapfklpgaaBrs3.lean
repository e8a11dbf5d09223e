/-
  A burst's step: the program's, through its method value.
-/
import Derived.Test.YtkfcchapfklpgaaBrs2
import Derived.Deep.Cut
namespace Go.Proofs.Ytkfcchapfklpgaa
open Go.RowKit

/-- A block that is a run of a burst. -/
def RnAt (w : World) (b : Nat) (p : Nat) (c : Cf) : Prop := w.cell? ⟨b, 0, none⟩ = some (.pointer (some ⟨p, 0, none⟩)) ∧ CfAt w b 1 c
theorem RnAt.fr {w w' : World} {b p : Nat} {c : Cf} (h : RnAt w b p c) (k : Fr w w') : RnAt w' b p c := ⟨k.cell h.1, h.2.fr k⟩
theorem RnAt.keep {w w' : World} {b p : Nat} {c : Cf} {row : Option Nat} (h : RnAt w b p c) (k : w.grownBy w' row) (hr : row ≠ some b) : RnAt w' b p c := by
  obtain ⟨q, c0, c1, c2, c3, c4, c5, c6⟩ := h
  exact ⟨k.cell q (fun e => hr e.symm), k.cell c0 (fun e => hr e.symm), k.cell c1 (fun e => hr e.symm), k.cell c2 (fun e => hr e.symm), k.cell c3 (fun e => hr e.symm), k.cell c4 (fun e => hr e.symm), k.cell c5 (fun e => hr e.symm), k.cell c6 (fun e => hr e.symm)⟩
theorem RnAt.new (w : World) (p : Nat) (c : Cf) : RnAt (w.alloc (.cells #[.pointer (some ⟨p, 0, none⟩), .int .i64 c.r, .int .i64 c.s, .int .i64 c.b, .int .i64 c.m, .int .i64 c.q, .int .i64 c.c, .int .i64 c.w] 114)) w.heap.size p c := by
  refine ⟨?_, ?_, ?_, ?_, ?_, ?_, ?_, ?_⟩ <;> rw [cell_of_row _ _ _ _ _ _ (heap_alloc_new w _)] <;> rfl

def lookB (c : Cf) (b : Bu) : Bu := if b.l - 1 = 0 then ⟨b.l - 1, b.g, min (2 * b.g) c.m⟩ else ⟨b.l - 1, b.s, b.g⟩
def passB (c : Cf) (b : Bu) : Bu := if b.s - 1 = 0 then ⟨c.b, b.s - 1, b.g⟩ else ⟨b.l, b.s - 1, b.g⟩

set_option maxRecDepth 20000 in
set_option maxHeartbeats 4000000 in
theorem look_any (c : Cf) (x : Bu) (p : Nat) (w : World) (h : BuZ w p #[.int .i64 x.l, .int .i64 x.s, .int .i64 x.g]) (h1 : 0 ≤ x.l ∧ x.l ≤ 1000) (h2 : 0 ≤ x.s ∧ x.s ≤ 100000) (h3 : 0 ≤ x.g ∧ x.g ≤ 100000) (h4 : 0 ≤ c.m ∧ c.m ≤ 100000) :
    Calls Try.prog 79 #[.agg #[.pointer (some ⟨p, 0, none⟩), .int .i64 c.r, .int .i64 c.s, .int .i64 c.b, .int .i64 c.m, .int .i64 c.q, .int .i64 c.c, .int .i64 c.w]] w fun e w' => e = .returned (.tuple #[]) ∧ BuZ w' p #[.int .i64 (lookB c x).l, .int .i64 (lookB c x).s, .int .i64 (lookB c x).g] ∧ w.grownBy w' (some p) := by
  obtain ⟨z, hzz⟩ : ∃ z, z = lookB c x := ⟨_, rfl⟩
  rw [← hzz]
  simp only [lookB] at hzz
  obtain ⟨r, s, b, m, q, c, k⟩ := c
  obtain ⟨xl, xs, xg⟩ := x
  simp only at h1 h2 h3 h4 h hzz ⊢
  have aR := RnAt.new w p ⟨r, s, b, m, q, c, k⟩
  have f := Fr.alloc w (.cells #[.pointer (some ⟨p, 0, none⟩), .int .i64 r, .int .i64 s, .int .i64 b, .int .i64 m, .int .i64 q, .int .i64 c, .int .i64 k] 114)
  have hlt := h.lt
  have aB := h.fr f
  clear h
  obtain ⟨R, hR⟩ : ∃ R, R = w.heap.size := ⟨_, rfl⟩
  go_enter Try.func79, Try.ntmps79
  go_upto_region 1 with fail
  obtain ⟨U, hU⟩ : ∃ U, U = w.alloc (.cells #[.pointer (some ⟨p, 0, none⟩), .int .i64 r, .int .i64 s, .int .i64 b, .int .i64 m, .int .i64 q, .int .i64 c, .int .i64 k] 114) := ⟨_, rfl⟩
  rw [← hU] at aR aB f ⊢
  clear hU
  rw [← hR] at aR hlt ⊢
  clear hR
  have hne : R ≠ p := by omega
  have n0 := aB.free
  have aR0 := aR
  obtain ⟨rp, r0, r1, r2, r3, r4, r5, r6⟩ := aR0
  simp only [Nat.reduceAdd] at r0 r1 r2 r3 r4 r5 r6
  have l0 := aB.c0
  have l1 := aB.c1
  have l2 := aB.c2
  go_upto_region 2 with fail
  obtain ⟨y, hy⟩ : ∃ y, y = xl - 1 := ⟨_, rfl⟩
  rw [← hy] at hzz ⊢
  have gV := grown_set U p 0 (.int .i64 y)
  replace aB := aB.set0 (.int .i64 y)
  replace aR := aR.keep gV (by simp only [ne_eq, Option.some.injEq]; omega)
  clear rp r0 r1 r2 r3 r4 r5 r6 l0 l1 l2 n0
  obtain ⟨V, hV⟩ : ∃ V, V = U.setCell ⟨p, 0, none⟩ (.int .i64 y) := ⟨_, rfl⟩
  rw [← hV] at gV aB aR ⊢
  clear hV
  by_cases hy0 : y = 0
  · rw [if_pos hy0] at hzz
    subst hy0
    obtain ⟨y2, hy2⟩ : ∃ y2, y2 = min (2 * xg) m := ⟨_, rfl⟩
    rw [← hy2] at hzz
    subst hzz
    clear hy
    have aR0 := aR
    obtain ⟨rp, r0, r1, r2, r3, r4, r5, r6⟩ := aR0
    simp only [Nat.reduceAdd] at r0 r1 r2 r3 r4 r5 r6
    have l0 := aB.c0
    have l1 := aB.c1
    have l2 := aB.c2
    have n0 := aB.free
    by_cases hle : 2 * xg ≤ m
    · obtain rfl : y2 = 2 * xg := by omega
      clear hy2
      have e1 : ∀ s : Later V, s.u.cell? ⟨R, 0, none⟩ = some (.pointer (some ⟨p, 0, none⟩)) := fun s => s.fr.cell rp
      have e2 : ∀ s : Later V, s.u.cell? ⟨p, 2, none⟩ = some (.int .i64 xg) := fun s => s.fr.cell l2
      have hne1 := Later.some V
      go_wp2_with fail
      refine wp_region_pivot (C := fun w' => ∃ s : Later V, w' = s.u) (C2 := fun w' => BuZ w' p #[.int .i64 0, .int .i64 xg, .int .i64 xg] ∧ RnAt w' R p ⟨r, s, b, m, q, c, k⟩ ∧ U.grownBy w' (some p)) 9 (by kernel_rfl) (by kernel_rfl) ⟨⟨V.drew, Fr.drew V⟩, rfl⟩ ?_
      simp only [List.take_succ_cons, List.take_zero, List.drop_succ_cons, List.drop_zero]
      repeat (go_big_quiet_step (fail))
      refine wpQuiet_nil ?_
      rintro _ ⟨σ, rfl⟩ o ho
      simp only [List.getElem?_cons_succ, List.getElem?_cons_zero, Option.some.injEq] at ho
      subst ho
      refine ⟨rfl, ?_⟩
      have aBs := aB.fr σ.fr
      have ns := aBs.free
      have ls := aBs.c1
      have gs := grown_trans (grown_trans gV σ.fr.wide) (grown_set σ.u p 1 (.int .i64 xg))
      have z := aBs.set1 (.int .i64 xg)
      have rs := (aR.fr σ.fr).keep (grown_set σ.u p 1 (.int .i64 xg)) (by simp only [ne_eq, Option.some.injEq]; omega)
      have HR : Hid (BuZ (σ.u.setCell ⟨p, 1, none⟩ (.int .i64 xg)) p #[.int .i64 0, .int .i64 xg, .int .i64 xg] ∧ RnAt (σ.u.setCell ⟨p, 1, none⟩ (.int .i64 xg)) R p ⟨r, s, b, m, q, c, k⟩ ∧ U.grownBy (σ.u.setCell ⟨p, 1, none⟩ (.int .i64 xg)) (some p)) := ⟨z, rs, gs⟩
      clear z rs gs aBs
      go_simp
      refine ⟨HR.out, ?_⟩
      refine wpQuiet_nil ?_
      clear HR ns ls σ
      clear e1 e2 hne1 rp r0 r1 r2 r3 r4 r5 r6 l0 l1 l2 n0 aB aR gV V
      first | (rintro V ⟨aB, aR, gV⟩) | (intro V aB aR gV)
      have aR0 := aR
      obtain ⟨rp, r0, r1, r2, r3, r4, r5, r6⟩ := aR0
      simp only [Nat.reduceAdd] at r0 r1 r2 r3 r4 r5 r6
      have l2 := aB.c2
      have e1 : ∀ s : Later V, s.u.cell? ⟨R, 0, none⟩ = some (.pointer (some ⟨p, 0, none⟩)) := fun s => s.fr.cell rp
      have e2 : ∀ s : Later V, s.u.cell? ⟨p, 2, none⟩ = some (.int .i64 xg) := fun s => s.fr.cell l2
      have e3 : ∀ s : Later V, s.u.cell? ⟨R, 4, none⟩ = some (.int .i64 m) := fun s => s.fr.cell r3
      have hne1 := Later.some V
      go_wp2_with fail
      refine wp_region_pivot (C := fun w' => ∃ s : Later V, w' = s.u) (C2 := fun w' => BuZ w' p #[.int .i64 0, .int .i64 xg, .int .i64 (2 * xg)] ∧ RnAt w' R p ⟨r, s, b, m, q, c, k⟩ ∧ U.grownBy w' (some p)) 14 (by kernel_rfl) (by kernel_rfl) ⟨⟨V.drew, Fr.drew V⟩, rfl⟩ ?_
      simp only [List.take_succ_cons, List.take_zero, List.drop_succ_cons, List.drop_zero]
      repeat (go_big_quiet_step (fail))
      refine wpQuiet_nil ?_
      rintro _ ⟨σ, rfl⟩ o ho
      simp only [List.getElem?_cons_succ, List.getElem?_cons_zero, Option.some.injEq] at ho
      subst ho
      refine ⟨rfl, ?_⟩
      have aBs := aB.fr σ.fr
      have ns := aBs.free
      have ls := aBs.c2
      have gs := grown_trans (grown_trans gV σ.fr.wide) (grown_set σ.u p 2 (.int .i64 (2 * xg)))
      have z := aBs.set2 (.int .i64 (2 * xg))
      have rs := (aR.fr σ.fr).keep (grown_set σ.u p 2 (.int .i64 (2 * xg))) (by simp only [ne_eq, Option.some.injEq]; omega)
      have HR : Hid (BuZ (σ.u.setCell ⟨p, 2, none⟩ (.int .i64 (2 * xg))) p #[.int .i64 0, .int .i64 xg, .int .i64 (2 * xg)] ∧ RnAt (σ.u.setCell ⟨p, 2, none⟩ (.int .i64 (2 * xg))) R p ⟨r, s, b, m, q, c, k⟩ ∧ U.grownBy (σ.u.setCell ⟨p, 2, none⟩ (.int .i64 (2 * xg))) (some p)) := ⟨z, rs, gs⟩
      clear z rs gs aBs
      go_simp
      refine ⟨HR.out, ?_⟩
      refine wpQuiet_nil ?_
      clear HR ns ls σ
      first | (rintro V2 ⟨aB2, aR2, gV2⟩) | (intro V2 aB2 aR2 gV2)
      go_wp2_with fail
      first | refine bodyPost_ret (results_none rfl _ _ _) rfl ?_ | go_end0
      exact ⟨rfl, aB2, grown_trans f.wide gV2⟩
    · have hy3 : y2 = m := by omega
      clear hy2
      subst y2
      have e1 : ∀ s : Later V, s.u.cell? ⟨R, 0, none⟩ = some (.pointer (some ⟨p, 0, none⟩)) := fun s => s.fr.cell rp
      have e2 : ∀ s : Later V, s.u.cell? ⟨p, 2, none⟩ = some (.int .i64 xg) := fun s => s.fr.cell l2
      have hne1 := Later.some V
      go_wp2_with fail
      refine wp_region_pivot (C := fun w' => ∃ s : Later V, w' = s.u) (C2 := fun w' => BuZ w' p #[.int .i64 0, .int .i64 xg, .int .i64 xg] ∧ RnAt w' R p ⟨r, s, b, m, q, c, k⟩ ∧ U.grownBy w' (some p)) 9 (by kernel_rfl) (by kernel_rfl) ⟨⟨V.drew, Fr.drew V⟩, rfl⟩ ?_
      simp only [List.take_succ_cons, List.take_zero, List.drop_succ_cons, List.drop_zero]
      repeat (go_big_quiet_step (fail))
      refine wpQuiet_nil ?_
      rintro _ ⟨σ, rfl⟩ o ho
      simp only [List.getElem?_cons_succ, List.getElem?_cons_zero, Option.some.injEq] at ho
      subst ho
      refine ⟨rfl, ?_⟩
      have aBs := aB.fr σ.fr
      have ns := aBs.free
      have ls := aBs.c1
      have gs := grown_trans (grown_trans gV σ.fr.wide) (grown_set σ.u p 1 (.int .i64 xg))
      have z := aBs.set1 (.int .i64 xg)
      have rs := (aR.fr σ.fr).keep (grown_set σ.u p 1 (.int .i64 xg)) (by simp only [ne_eq, Option.some.injEq]; omega)
      have HR : Hid (BuZ (σ.u.setCell ⟨p, 1, none⟩ (.int .i64 xg)) p #[.int .i64 0, .int .i64 xg, .int .i64 xg] ∧ RnAt (σ.u.setCell ⟨p, 1, none⟩ (.int .i64 xg)) R p ⟨r, s, b, m, q, c, k⟩ ∧ U.grownBy (σ.u.setCell ⟨p, 1, none⟩ (.int .i64 xg)) (some p)) := ⟨z, rs, gs⟩
      clear z rs gs aBs
      go_simp
      refine ⟨HR.out, ?_⟩
      refine wpQuiet_nil ?_
      clear HR ns ls σ
      clear e1 e2 hne1 rp r0 r1 r2 r3 r4 r5 r6 l0 l1 l2 n0 aB aR gV V
      first | (rintro V ⟨aB, aR, gV⟩) | (intro V aB aR gV)
      have aR0 := aR
      obtain ⟨rp, r0, r1, r2, r3, r4, r5, r6⟩ := aR0
      simp only [Nat.reduceAdd] at r0 r1 r2 r3 r4 r5 r6
      have l2 := aB.c2
      have e1 : ∀ s : Later V, s.u.cell? ⟨R, 0, none⟩ = some (.pointer (some ⟨p, 0, none⟩)) := fun s => s.fr.cell rp
      have e2 : ∀ s : Later V, s.u.cell? ⟨p, 2, none⟩ = some (.int .i64 xg) := fun s => s.fr.cell l2
      have e3 : ∀ s : Later V, s.u.cell? ⟨R, 4, none⟩ = some (.int .i64 m) := fun s => s.fr.cell r3
      have hne1 := Later.some V
      go_wp2_with fail
      refine wp_region_pivot (C := fun w' => ∃ s : Later V, w' = s.u) (C2 := fun w' => BuZ w' p #[.int .i64 0, .int .i64 xg, .int .i64 m] ∧ RnAt w' R p ⟨r, s, b, m, q, c, k⟩ ∧ U.grownBy w' (some p)) 14 (by kernel_rfl) (by kernel_rfl) ⟨⟨V.drew, Fr.drew V⟩, rfl⟩ ?_
      simp only [List.take_succ_cons, List.take_zero, List.drop_succ_cons, List.drop_zero]
      repeat (go_big_quiet_step (fail))
      refine wpQuiet_nil ?_
      rintro _ ⟨σ, rfl⟩ o ho
      simp only [List.getElem?_cons_succ, List.getElem?_cons_zero, Option.some.injEq] at ho
      subst ho
      refine ⟨rfl, ?_⟩
      have aBs := aB.fr σ.fr
      have ns := aBs.free
      have ls := aBs.c2
      have gs := grown_trans (grown_trans gV σ.fr.wide) (grown_set σ.u p 2 (.int .i64 m))
      have z := aBs.set2 (.int .i64 m)
      have rs := (aR.fr σ.fr).keep (grown_set σ.u p 2 (.int .i64 m)) (by simp only [ne_eq, Option.some.injEq]; omega)
      have HR : Hid (BuZ (σ.u.setCell ⟨p, 2, none⟩ (.int .i64 m)) p #[.int .i64 0, .int .i64 xg, .int .i64 m] ∧ RnAt (σ.u.setCell ⟨p, 2, none⟩ (.int .i64 m)) R p ⟨r, s, b, m, q, c, k⟩ ∧ U.grownBy (σ.u.setCell ⟨p, 2, none⟩ (.int .i64 m)) (some p)) := ⟨z, rs, gs⟩
      clear z rs gs aBs
      go_simp
      refine ⟨HR.out, ?_⟩
      refine wpQuiet_nil ?_
      clear HR ns ls σ
      first | (rintro V2 ⟨aB2, aR2, gV2⟩) | (intro V2 aB2 aR2 gV2)
      go_wp2_with fail
      first | refine bodyPost_ret (results_none rfl _ _ _) rfl ?_ | go_end0
      exact ⟨rfl, aB2, grown_trans f.wide gV2⟩

  · rw [if_neg hy0] at hzz
    subst hzz
    obtain ⟨rp, r0, r1, r2, r3, r4, r5, r6⟩ := aR
    simp only [Nat.reduceAdd] at r0 r1 r2 r3 r4 r5 r6
    have l0 := aB.c0
    have l1 := aB.c1
    have l2 := aB.c2
    have n0 := aB.free
    have hd : decide (y = 0) = false := decide_eq_false hy0
    go_wp2_with fail
    first | refine bodyPost_ret (results_none rfl _ _ _) rfl ?_ | go_end0
    rw [hy] at aB
    exact ⟨rfl, aB, grown_trans f.wide gV⟩

set_option maxRecDepth 20000 in
set_option maxHeartbeats 4000000 in
theorem pass_any (c : Cf) (x : Bu) (p : Nat) (w : World) (h : BuZ w p #[.int .i64 x.l, .int .i64 x.s, .int .i64 x.g]) (h1 : 0 ≤ x.l ∧ x.l ≤ 1000) (h2 : 0 ≤ x.s ∧ x.s ≤ 100000) (h3 : 0 ≤ x.g ∧ x.g ≤ 100000) (h4 : 0 ≤ c.m ∧ c.m ≤ 100000) :
    Calls Try.prog 80 #[.agg #[.pointer (some ⟨p, 0, none⟩), .int .i64 c.r, .int .i64 c.s, .int .i64 c.b, .int .i64 c.m, .int .i64 c.q, .int .i64 c.c, .int .i64 c.w]] w fun e w' => e = .returned (.tuple #[]) ∧ BuZ w' p #[.int .i64 (passB c x).l, .int .i64 (passB c x).s, .int .i64 (passB c x).g] ∧ w.grownBy w' (some p) := by
  obtain ⟨z, hzz⟩ : ∃ z, z = passB c x := ⟨_, rfl⟩
  rw [← hzz]
  simp only [passB] at hzz
  obtain ⟨r, s, b, m, q, c, k⟩ := c
  obtain ⟨xl, xs, xg⟩ := x
  simp only at h1 h2 h3 h4 h hzz ⊢
  have aR := RnAt.new w p ⟨r, s, b, m, q, c, k⟩
  have f := Fr.alloc w (.cells #[.pointer (some ⟨p, 0, none⟩), .int .i64 r, .int .i64 s, .int .i64 b, .int .i64 m, .int .i64 q, .int .i64 c, .int .i64 k] 114)
  have hlt := h.lt
  have aB := h.fr f
  clear h
  obtain ⟨R, hR⟩ : ∃ R, R = w.heap.size := ⟨_, rfl⟩
  go_enter Try.func80, Try.ntmps80
  go_upto_region 1 with fail
  obtain ⟨U, hU⟩ : ∃ U, U = w.alloc (.cells #[.pointer (some ⟨p, 0, none⟩), .int .i64 r, .int .i64 s, .int .i64 b, .int .i64 m, .int .i64 q, .int .i64 c, .int .i64 k] 114) := ⟨_, rfl⟩
  rw [← hU] at aR aB f ⊢
  clear hU
  rw [← hR] at aR hlt ⊢
  clear hR
  have hne : R ≠ p := by omega
  have n0 := aB.free
  have aR0 := aR
  obtain ⟨rp, r0, r1, r2, r3, r4, r5, r6⟩ := aR0
  simp only [Nat.reduceAdd] at r0 r1 r2 r3 r4 r5 r6
  have l0 := aB.c0
  have l1 := aB.c1
  have l2 := aB.c2
  go_upto_region 2 with fail
  obtain ⟨y, hy⟩ : ∃ y, y = xs - 1 := ⟨_, rfl⟩
  rw [← hy] at hzz ⊢
  have gV := grown_set U p 1 (.int .i64 y)
  replace aB := aB.set1 (.int .i64 y)
  replace aR := aR.keep gV (by simp only [ne_eq, Option.some.injEq]; omega)
  clear rp r0 r1 r2 r3 r4 r5 r6 l0 l1 l2 n0
  obtain ⟨V, hV⟩ : ∃ V, V = U.setCell ⟨p, 1, none⟩ (.int .i64 y) := ⟨_, rfl⟩
  rw [← hV] at gV aB aR ⊢
  clear hV
  by_cases hy0 : y = 0
  · rw [if_pos hy0] at hzz
    subst hy0
    subst hzz
    clear hy
    have aR0 := aR
    obtain ⟨rp, r0, r1, r2, r3, r4, r5, r6⟩ := aR0
    simp only [Nat.reduceAdd] at r0 r1 r2 r3 r4 r5 r6
    have l0 := aB.c0
    have l1 := aB.c1
    have l2 := aB.c2
    have n0 := aB.free
    have hn0 := n0 0
    have g2 := grown_trans gV (grown_set V p 0 (.int .i64 b))
    have z := aB.set0 (.int .i64 b)
    go_wp2_with fail
    first | refine bodyPost_ret (results_none rfl _ _ _) rfl ?_ | go_end0
    exact ⟨rfl, z, grown_trans f.wide g2⟩

  · rw [if_neg hy0] at hzz
    subst hzz
    obtain ⟨rp, r0, r1, r2, r3, r4, r5, r6⟩ := aR
    simp only [Nat.reduceAdd] at r0 r1 r2 r3 r4 r5 r6
    have l0 := aB.c0
    have l1 := aB.c1
    have l2 := aB.c2
    have n0 := aB.free
    have hd : decide (y = 0) = false := decide_eq_false hy0
    go_wp2_with fail
    first | refine bodyPost_ret (results_none rfl _ _ _) rfl ?_ | go_end0
    rw [hy] at aB
    exact ⟨rfl, aB, grown_trans f.wide gV⟩

end Go.Proofs.Ytkfcchapfklpgaa
