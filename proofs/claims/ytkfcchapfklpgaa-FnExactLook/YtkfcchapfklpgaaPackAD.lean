/-
  A burst's step: the program's, through its method value.
-/
import Derived.Test.YtkfcchapfklpgaaPackAC
import Derived.Deep.Cut
import Derived.Laws.ByValue
import Derived.Test.YtkfcchapfklpgaaPackAA
namespace Go.Proofs.Ytkfcchapfklpgaa
open Go.RowKit

/-- A block that is a run of a burst. -/
def RnAt (w : World) (b : Nat) (p : Nat) (c : Cf) : Prop := w.cell? ⟨b, 0, none⟩ = some (.pointer (some ⟨p, 0, none⟩)) ∧ CfAt w b 1 c
theorem RnAt.fr {w w' : World} {b p : Nat} {c : Cf} (h : RnAt w b p c) (k : Fr w w') : RnAt w' b p c := ⟨k.cell h.1, h.2.fr k⟩
theorem RnAt.keep {w w' : World} {b p : Nat} {c : Cf} {row : Option Nat} (h : RnAt w b p c) (k : w.grownBy w' row) (hr : row ≠ some b) : RnAt w' b p c := by
  obtain ⟨q, c0, c1, c2, c3, c4, c5, c6⟩ := h
  exact ⟨k.cell q (fun e => hr e.symm), k.cell c0 (fun e => hr e.symm), k.cell c1 (fun e => hr e.symm), k.cell c2 (fun e => hr e.symm), k.cell c3 (fun e => hr e.symm), k.cell c4 (fun e => hr e.symm), k.cell c5 (fun e => hr e.symm), k.cell c6 (fun e => hr e.symm)⟩
theorem RnAt.new (w : World) (p : Nat) (c : Cf) : RnAt (w.alloc (.cells #[.pointer (some ⟨p, 0, none⟩), .int .i64 c.r, .int .i64 c.s, .int .i64 c.b, .int .i64 c.m, .int .i64 c.q, .int .i64 c.c, .int .i64 c.w] 114)) w.heap.size p c := by
  refine ⟨?_, ?_, ?_, ?_, ?_, ?_, ?_, ?_⟩ <;> rw [cell_of_row _ _ _ _ _ _ (heap_alloc_new w _)] <;> rfl

def lookB (c : Cf) (b : Bu) : Bu := if b.l - 1 = 0 then ⟨b.l - 1, b.g, min (2 * b.g) c.m⟩ else ⟨b.l - 1, b.s, b.g⟩
def passB (c : Cf) (b : Bu) : Bu := if b.s - 1 = 0 then ⟨c.b, b.s - 1, b.g⟩ else ⟨b.l, b.s - 1, b.g⟩

set_option maxRecDepth 20000 in
set_option maxHeartbeats 4000000 in
theorem look_any (c : Cf) (x : Bu) (p : Nat) (w : World) (h : BuZ w p #[.int .i64 x.l, .int .i64 x.s, .int .i64 x.g]) (h1 : 0 ≤ x.l ∧ x.l ≤ 1000) (h2 : 0 ≤ x.s ∧ x.s ≤ 100000) (h3 : 0 ≤ x.g ∧ x.g ≤ 100000) (h4 : 0 ≤ c.m ∧ c.m ≤ 100000) :
    Calls Try.prog 79 #[.agg #[.pointer (some ⟨p, 0, none⟩), .int .i64 c.r, .int .i64 c.s, .int .i64 c.b, .int .i64 c.m, .int .i64 c.q, .int .i64 c.c, .int .i64 c.w]] w fun e w' => e = .returned (.tuple #[]) ∧ BuZ w' p #[.int .i64 (lookB c x).l, .int .i64 (lookB c x).s, .int .i64 (lookB c x).g] ∧ w.grownBy w' (some p) := by
  obtain ⟨z, hzz⟩ : ∃ z, z = lookB c x := ⟨_, rfl⟩
  rw [← hzz]
  simp only [lookB] at hzz
  obtain ⟨r, s, b, m, q, c, k⟩ := c
  obtain ⟨xl, xs, xg⟩ := x
  simp only at h1 h2 h3 h4 h hzz ⊢
  have aR := RnAt.new w p ⟨r, s, b, m, q, c, k⟩
  have f := Fr.alloc w (.cells #[.pointer (some ⟨p, 0, none⟩), .int .i64 r, .int .i64 s, .int .i64 b, .int .i64 m, .int .i64 q, .int .i64 c, .int .i64 k] 114)
  have hlt := h.lt
  have aB := h.fr f
  clear h
  obtain ⟨R, hR⟩ : ∃ R, R = w.heap.size := ⟨_, rfl⟩
  go_enter Try.func79, Try.ntmps79
  go_upto_region 1 with fail
  obtain ⟨U, hU⟩ : ∃ U, U = w.alloc (.cells #[.pointer (some ⟨p, 0, none⟩), .int .i64 r, .int .i64 s, .int .i64 b, .int .i64 m, .int .i64 q, .int .i64 c, .int .i64 k] 114) := ⟨_, rfl⟩
  rw [← hU] at aR aB f ⊢
  clear hU
  rw [← hR] at aR hlt ⊢
  clear hR
  have hne : R ≠ p := by omega
  have n0 := aB.free
  have aR0 := aR
  obtain ⟨rp, r0, r1, r2, r3, r4, r5, r6⟩ := aR0
  simp only [Nat.reduceAdd] at r0 r1 r2 r3 r4 r5 r6
  have l0 := aB.c0
  have l1 := aB.c1
  have l2 := aB.c2
  go_upto_region 2 with fail
  obtain ⟨y, hy⟩ : ∃ y, y = xl - 1 := ⟨_, rfl⟩
  rw [← hy] at hzz ⊢
  have gV := grown_set U p 0 (.int .i64 y)
  replace aB := aB.set0 (.int .i64 y)
  replace aR := aR.keep gV (by simp only [ne_eq, Option.some.injEq]; omega)
  clear rp r0 r1 r2 r3 r4 r5 r6 l0 l1 l2 n0
  obtain ⟨V, hV⟩ : ∃ V, V = U.setCell ⟨p, 0, none⟩ (.int .i64 y) := ⟨_, rfl⟩
  rw [← hV] at gV aB aR ⊢
  clear hV
  by_cases hy0 : y = 0
  · rw [if_pos hy0] at hzz
    subst hy0
    obtain ⟨y2, hy2⟩ : ∃ y2, y2 = min (2 * xg) m := ⟨_, rfl⟩
    rw [← hy2] at hzz
    subst hzz
    clear hy
    have aR0 := aR
    obtain ⟨rp, r0, r1, r2, r3, r4, r5, r6⟩ := aR0
    simp only [Nat.reduceAdd] at r0 r1 r2 r3 r4 r5 r6
    have l0 := aB.c0
    have l1 := aB.c1
    have l2 := aB.c2
    have n0 := aB.free
    by_cases hle : 2 * xg ≤ m
    · obtain rfl : y2 = 2 * xg := by omega
      clear hy2
      have e1 : ∀ s : Later V, s.u.cell? ⟨R, 0, none⟩ = some (.pointer (some ⟨p, 0, none⟩)) := fun s => s.fr.cell rp
      have e2 : ∀ s : Later V, s.u.cell? ⟨p, 2, none⟩ = some (.int .i64 xg) := fun s => s.fr.cell l2
      have hne1 := Later.some V
      go_wp2_with fail
      refine wp_region_pivot (C := fun w' => ∃ s : Later V, w' = s.u) (C2 := fun w' => BuZ w' p #[.int .i64 0, .int .i64 xg, .int .i64 xg] ∧ RnAt w' R p ⟨r, s, b, m, q, c, k⟩ ∧ U.grownBy w' (some p)) 9 (by kernel_rfl) (by kernel_rfl) ⟨⟨V.drew, Fr.drew V⟩, rfl⟩ ?_
      simp only [List.take_succ_cons, List.take_zero, List.drop_succ_cons, List.drop_zero]
      repeat (go_big_quiet_step (fail))
      refine wpQuiet_nil ?_
      rintro _ ⟨σ, rfl⟩ o ho
      simp only [List.getElem?_cons_succ, List.getElem?_cons_zero, Option.some.injEq] at ho
      subst ho
      refine ⟨rfl, ?_⟩
      have aBs := aB.fr σ.fr
      have ns := aBs.free
      have ls := aBs.c1
      have gs := grown_trans (grown_trans gV σ.fr.wide) (grown_set σ.u p 1 (.int .i64 xg))
      have z := aBs.set1 (.int .i64 xg)
      have rs := (aR.fr σ.fr).keep (grown_set σ.u p 1 (.int .i64 xg)) (by simp only [ne_eq, Option.some.injEq]; omega)
      have HR : Hid (BuZ (σ.u.setCell ⟨p, 1, none⟩ (.int .i64 xg)) p #[.int .i64 0, .int .i64 xg, .int .i64 xg] ∧ RnAt (σ.u.setCell ⟨p, 1, none⟩ (.int .i64 xg)) R p ⟨r, s, b, m, q, c, k⟩ ∧ U.grownBy (σ.u.setCell ⟨p, 1, none⟩ (.int .i64 xg)) (some p)) := ⟨z, rs, gs⟩
      clear z rs gs aBs
      go_simp
      refine ⟨HR.out, ?_⟩
      refine wpQuiet_nil ?_
      clear HR ns ls σ
      clear e1 e2 hne1 rp r0 r1 r2 r3 r4 r5 r6 l0 l1 l2 n0 aB aR gV V
      first | (rintro V ⟨aB, aR, gV⟩) | (intro V aB aR gV)
      have aR0 := aR
      obtain ⟨rp, r0, r1, r2, r3, r4, r5, r6⟩ := aR0
      simp only [Nat.reduceAdd] at r0 r1 r2 r3 r4 r5 r6
      have l2 := aB.c2
      have e1 : ∀ s : Later V, s.u.cell? ⟨R, 0, none⟩ = some (.pointer (some ⟨p, 0, none⟩)) := fun s => s.fr.cell rp
      have e2 : ∀ s : Later V, s.u.cell? ⟨p, 2, none⟩ = some (.int .i64 xg) := fun s => s.fr.cell l2
      have e3 : ∀ s : Later V, s.u.cell? ⟨R, 4, none⟩ = some (.int .i64 m) := fun s => s.fr.cell r3
      have hne1 := Later.some V
      go_wp2_with fail
      refine wp_region_pivot (C := fun w' => ∃ s : Later V, w' = s.u) (C2 := fun w' => BuZ w' p #[.int .i64 0, .int .i64 xg, .int .i64 (2 * xg)] ∧ RnAt w' R p ⟨r, s, b, m, q, c, k⟩ ∧ U.grownBy w' (some p)) 14 (by kernel_rfl) (by kernel_rfl) ⟨⟨V.drew, Fr.drew V⟩, rfl⟩ ?_
      simp only [List.take_succ_cons, List.take_zero, List.drop_succ_cons, List.drop_zero]
      repeat (go_big_quiet_step (fail))
      refine wpQuiet_nil ?_
      rintro _ ⟨σ, rfl⟩ o ho
      simp only [List.getElem?_cons_succ, List.getElem?_cons_zero, Option.some.injEq] at ho
      subst ho
      refine ⟨rfl, ?_⟩
      have aBs := aB.fr σ.fr
      have ns := aBs.free
      have ls := aBs.c2
      have gs := grown_trans (grown_trans gV σ.fr.wide) (grown_set σ.u p 2 (.int .i64 (2 * xg)))
      have z := aBs.set2 (.int .i64 (2 * xg))
      have rs := (aR.fr σ.fr).keep (grown_set σ.u p 2 (.int .i64 (2 * xg))) (by simp only [ne_eq, Option.some.injEq]; omega)
      have HR : Hid (BuZ (σ.u.setCell ⟨p, 2, none⟩ (.int .i64 (2 * xg))) p #[.int .i64 0, .int .i64 xg, .int .i64 (2 * xg)] ∧ RnAt (σ.u.setCell ⟨p, 2, none⟩ (.int .i64 (2 * xg))) R p ⟨r, s, b, m, q, c, k⟩ ∧ U.grownBy (σ.u.setCell ⟨p, 2, none⟩ (.int .i64 (2 * xg))) (some p)) := ⟨z, rs, gs⟩
      clear z rs gs aBs
      go_simp
      refine ⟨HR.out, ?_⟩
      refine wpQuiet_nil ?_
      clear HR ns ls σ
      first | (rintro V2 ⟨aB2, aR2, gV2⟩) | (intro V2 aB2 aR2 gV2)
      go_wp2_with fail
      first | refine bodyPost_ret (results_none rfl _ _ _) rfl ?_ | go_end0
      exact ⟨rfl, aB2, grown_trans f.wide gV2⟩
    · have hy3 : y2 = m := by omega
      clear hy2
      subst y2
      have e1 : ∀ s : Later V, s.u.cell? ⟨R, 0, none⟩ = some (.pointer (some ⟨p, 0, none⟩)) := fun s => s.fr.cell rp
      have e2 : ∀ s : Later V, s.u.cell? ⟨p, 2, none⟩ = some (.int .i64 xg) := fun s => s.fr.cell l2
      have hne1 := Later.some V
      go_wp2_with fail
      refine wp_region_pivot (C := fun w' => ∃ s : Later V, w' = s.u) (C2 := fun w' => BuZ w' p #[.int .i64 0, .int .i64 xg, .int .i64 xg] ∧ RnAt w' R p ⟨r, s, b, m, q, c, k⟩ ∧ U.grownBy w' (some p)) 9 (by kernel_rfl) (by kernel_rfl) ⟨⟨V.drew, Fr.drew V⟩, rfl⟩ ?_
      simp only [List.take_succ_cons, List.take_zero, List.drop_succ_cons, List.drop_zero]
      repeat (go_big_quiet_step (fail))
      refine wpQuiet_nil ?_
      rintro _ ⟨σ, rfl⟩ o ho
      simp only [List.getElem?_cons_succ, List.getElem?_cons_zero, Option.some.injEq] at ho
      subst ho
      refine ⟨rfl, ?_⟩
      have aBs := aB.fr σ.fr
      have ns := aBs.free
      have ls := aBs.c1
      have gs := grown_trans (grown_trans gV σ.fr.wide) (grown_set σ.u p 1 (.int .i64 xg))
      have z := aBs.set1 (.int .i64 xg)
      have rs := (aR.fr σ.fr).keep (grown_set σ.u p 1 (.int .i64 xg)) (by simp only [ne_eq, Option.some.injEq]; omega)
      have HR : Hid (BuZ (σ.u.setCell ⟨p, 1, none⟩ (.int .i64 xg)) p #[.int .i64 0, .int .i64 xg, .int .i64 xg] ∧ RnAt (σ.u.setCell ⟨p, 1, none⟩ (.int .i64 xg)) R p ⟨r, s, b, m, q, c, k⟩ ∧ U.grownBy (σ.u.setCell ⟨p, 1, none⟩ (.int .i64 xg)) (some p)) := ⟨z, rs, gs⟩
      clear z rs gs aBs
      go_simp
      refine ⟨HR.out, ?_⟩
      refine wpQuiet_nil ?_
      clear HR ns ls σ
      clear e1 e2 hne1 rp r0 r1 r2 r3 r4 r5 r6 l0 l1 l2 n0 aB aR gV V
      first | (rintro V ⟨aB, aR, gV⟩) | (intro V aB aR gV)
      have aR0 := aR
      obtain ⟨rp, r0, r1, r2, r3, r4, r5, r6⟩ := aR0
      simp only [Nat.reduceAdd] at r0 r1 r2 r3 r4 r5 r6
      have l2 := aB.c2
      have e1 : ∀ s : Later V, s.u.cell? ⟨R, 0, none⟩ = some (.pointer (some ⟨p, 0, none⟩)) := fun s => s.fr.cell rp
      have e2 : ∀ s : Later V, s.u.cell? ⟨p, 2, none⟩ = some (.int .i64 xg) := fun s => s.fr.cell l2
      have e3 : ∀ s : Later V, s.u.cell? ⟨R, 4, none⟩ = some (.int .i64 m) := fun s => s.fr.cell r3
      have hne1 := Later.some V
      go_wp2_with fail
      refine wp_region_pivot (C := fun w' => ∃ s : Later V, w' = s.u) (C2 := fun w' => BuZ w' p #[.int .i64 0, .int .i64 xg, .int .i64 m] ∧ RnAt w' R p ⟨r, s, b, m, q, c, k⟩ ∧ U.grownBy w' (some p)) 14 (by kernel_rfl) (by kernel_rfl) ⟨⟨V.drew, Fr.drew V⟩, rfl⟩ ?_
      simp only [List.take_succ_cons, List.take_zero, List.drop_succ_cons, List.drop_zero]
      repeat (go_big_quiet_step (fail))
      refine wpQuiet_nil ?_
      rintro _ ⟨σ, rfl⟩ o ho
      simp only [List.getElem?_cons_succ, List.getElem?_cons_zero, Option.some.injEq] at ho
      subst ho
      refine ⟨rfl, ?_⟩
      have aBs := aB.fr σ.fr
      have ns := aBs.free
      have ls := aBs.c2
      have gs := grown_trans (grown_trans gV σ.fr.wide) (grown_set σ.u p 2 (.int .i64 m))
      have z := aBs.set2 (.int .i64 m)
      have rs := (aR.fr σ.fr).keep (grown_set σ.u p 2 (.int .i64 m)) (by simp only [ne_eq, Option.some.injEq]; omega)
      have HR : Hid (BuZ (σ.u.setCell ⟨p, 2, none⟩ (.int .i64 m)) p #[.int .i64 0, .int .i64 xg, .int .i64 m] ∧ RnAt (σ.u.setCell ⟨p, 2, none⟩ (.int .i64 m)) R p ⟨r, s, b, m, q, c, k⟩ ∧ U.grownBy (σ.u.setCell ⟨p, 2, none⟩ (.int .i64 m)) (some p)) := ⟨z, rs, gs⟩
      clear z rs gs aBs
      go_simp
      refine ⟨HR.out, ?_⟩
      refine wpQuiet_nil ?_
      clear HR ns ls σ
      first | (rintro V2 ⟨aB2, aR2, gV2⟩) | (intro V2 aB2 aR2 gV2)
      go_wp2_with fail
      first | refine bodyPost_ret (results_none rfl _ _ _) rfl ?_ | go_end0
      exact ⟨rfl, aB2, grown_trans f.wide gV2⟩

  · rw [if_neg hy0] at hzz
    subst hzz
    obtain ⟨rp, r0, r1, r2, r3, r4, r5, r6⟩ := aR
    simp only [Nat.reduceAdd] at r0 r1 r2 r3 r4 r5 r6
    have l0 := aB.c0
    have l1 := aB.c1
    have l2 := aB.c2
    have n0 := aB.free
    have hd : decide (y = 0) = false := decide_eq_false hy0
    go_wp2_with fail
    first | refine bodyPost_ret (results_none rfl _ _ _) rfl ?_ | go_end0
    rw [hy] at aB
    exact ⟨rfl, aB, grown_trans f.wide gV⟩

set_option maxRecDepth 20000 in
set_option maxHeartbeats 4000000 in
theorem pass_any (c : Cf) (x : Bu) (p : Nat) (w : World) (h : BuZ w p #[.int .i64 x.l, .int .i64 x.s, .int .i64 x.g]) (h1 : 0 ≤ x.l ∧ x.l ≤ 1000) (h2 : 0 ≤ x.s ∧ x.s ≤ 100000) (h3 : 0 ≤ x.g ∧ x.g ≤ 100000) (h4 : 0 ≤ c.m ∧ c.m ≤ 100000) :
    Calls Try.prog 80 #[.agg #[.pointer (some ⟨p, 0, none⟩), .int .i64 c.r, .int .i64 c.s, .int .i64 c.b, .int .i64 c.m, .int .i64 c.q, .int .i64 c.c, .int .i64 c.w]] w fun e w' => e = .returned (.tuple #[]) ∧ BuZ w' p #[.int .i64 (passB c x).l, .int .i64 (passB c x).s, .int .i64 (passB c x).g] ∧ w.grownBy w' (some p) := by
  obtain ⟨z, hzz⟩ : ∃ z, z = passB c x := ⟨_, rfl⟩
  rw [← hzz]
  simp only [passB] at hzz
  obtain ⟨r, s, b, m, q, c, k⟩ := c
  obtain ⟨xl, xs, xg⟩ := x
  simp only at h1 h2 h3 h4 h hzz ⊢
  have aR := RnAt.new w p ⟨r, s, b, m, q, c, k⟩
  have f := Fr.alloc w (.cells #[.pointer (some ⟨p, 0, none⟩), .int .i64 r, .int .i64 s, .int .i64 b, .int .i64 m, .int .i64 q, .int .i64 c, .int .i64 k] 114)
  have hlt := h.lt
  have aB := h.fr f
  clear h
  obtain ⟨R, hR⟩ : ∃ R, R = w.heap.size := ⟨_, rfl⟩
  go_enter Try.func80, Try.ntmps80
  go_upto_region 1 with fail
  obtain ⟨U, hU⟩ : ∃ U, U = w.alloc (.cells #[.pointer (some ⟨p, 0, none⟩), .int .i64 r, .int .i64 s, .int .i64 b, .int .i64 m, .int .i64 q, .int .i64 c, .int .i64 k] 114) := ⟨_, rfl⟩
  rw [← hU] at aR aB f ⊢
  clear hU
  rw [← hR] at aR hlt ⊢
  clear hR
  have hne : R ≠ p := by omega
  have n0 := aB.free
  have aR0 := aR
  obtain ⟨rp, r0, r1, r2, r3, r4, r5, r6⟩ := aR0
  simp only [Nat.reduceAdd] at r0 r1 r2 r3 r4 r5 r6
  have l0 := aB.c0
  have l1 := aB.c1
  have l2 := aB.c2
  go_upto_region 2 with fail
  obtain ⟨y, hy⟩ : ∃ y, y = xs - 1 := ⟨_, rfl⟩
  rw [← hy] at hzz ⊢
  have gV := grown_set U p 1 (.int .i64 y)
  replace aB := aB.set1 (.int .i64 y)
  replace aR := aR.keep gV (by simp only [ne_eq, Option.some.injEq]; omega)
  clear rp r0 r1 r2 r3 r4 r5 r6 l0 l1 l2 n0
  obtain ⟨V, hV⟩ : ∃ V, V = U.setCell ⟨p, 1, none⟩ (.int .i64 y) := ⟨_, rfl⟩
  rw [← hV] at gV aB aR ⊢
  clear hV
  by_cases hy0 : y = 0
  · rw [if_pos hy0] at hzz
    subst hy0
    subst hzz
    clear hy
    have aR0 := aR
    obtain ⟨rp, r0, r1, r2, r3, r4, r5, r6⟩ := aR0
    simp only [Nat.reduceAdd] at r0 r1 r2 r3 r4 r5 r6
    have l0 := aB.c0
    have l1 := aB.c1
    have l2 := aB.c2
    have n0 := aB.free
    have hn0 := n0 0
    have g2 := grown_trans gV (grown_set V p 0 (.int .i64 b))
    have z := aB.set0 (.int .i64 b)
    go_wp2_with fail
    first | refine bodyPost_ret (results_none rfl _ _ _) rfl ?_ | go_end0
    exact ⟨rfl, z, grown_trans f.wide g2⟩

  · rw [if_neg hy0] at hzz
    subst hzz
    obtain ⟨rp, r0, r1, r2, r3, r4, r5, r6⟩ := aR
    simp only [Nat.reduceAdd] at r0 r1 r2 r3 r4 r5 r6
    have l0 := aB.c0
    have l1 := aB.c1
    have l2 := aB.c2
    have n0 := aB.free
    have hd : decide (y = 0) = false := decide_eq_false hy0
    go_wp2_with fail
    first | refine bodyPost_ret (results_none rfl _ _ _) rfl ?_ | go_end0
    rw [hy] at aB
    exact ⟨rfl, aB, grown_trans f.wide gV⟩

end Go.Proofs.Ytkfcchapfklpgaa
/-
  A burst's step: the method value, BurstStep of the program and of the specification.
-/
namespace Go.Proofs.Ytkfcchapfklpgaa
open Go.RowKit

set_option maxRecDepth 20000 in
set_option maxHeartbeats 4000000 in
theorem step_any (c : Cf) (x : Bu) (p : Nat) (w : World) (h : BuZ w p #[.int .i64 x.l, .int .i64 x.s, .int .i64 x.g]) (h1 : 0 ≤ x.l ∧ x.l ≤ 1000) (h2 : 0 ≤ x.s ∧ x.s ≤ 100000) (h3 : 0 ≤ x.g ∧ x.g ≤ 100000) (h4 : 0 ≤ c.m ∧ c.m ≤ 100000) :
    Calls Try.prog 75 #[.agg #[.pointer (some ⟨p, 0, none⟩), .int .i64 c.r, .int .i64 c.s, .int .i64 c.b, .int .i64 c.m, .int .i64 c.q, .int .i64 c.c, .int .i64 c.w]] w fun e w' => e = .returned (.bool (decide (x.l ≠ 0))) ∧ BuZ w' p #[.int .i64 (if x.l ≠ 0 then lookB c x else passB c x).l, .int .i64 (if x.l ≠ 0 then lookB c x else passB c x).s, .int .i64 (if x.l ≠ 0 then lookB c x else passB c x).g] ∧ w.grownBy w' (some p) := by
  have cL := fun u h => look_any c x p u h h1 h2 h3 h4
  have cP := fun u h => pass_any c x p u h h1 h2 h3 h4
  obtain ⟨B, hB⟩ : ∃ B, B = decide (x.l ≠ 0) := ⟨_, rfl⟩
  obtain ⟨y, hy⟩ : ∃ z, z = (if x.l ≠ 0 then lookB c x else passB c x) := ⟨_, rfl⟩
  obtain ⟨y1, hy1⟩ : ∃ z, z = lookB c x := ⟨_, rfl⟩
  obtain ⟨y2, hy2⟩ : ∃ z, z = passB c x := ⟨_, rfl⟩
  rw [← hB, ← hy]
  rw [← hy1] at cL hy
  rw [← hy2] at cP hy
  clear hy1 hy2 h1 h2 h3 h4
  obtain ⟨r, s, b, m, q, c, k⟩ := c
  obtain ⟨xl, xs, xg⟩ := x
  simp only at cL cP h hB hy ⊢
  have aR := RnAt.new w p ⟨r, s, b, m, q, c, k⟩
  have f := Fr.alloc w (.cells #[.pointer (some ⟨p, 0, none⟩), .int .i64 r, .int .i64 s, .int .i64 b, .int .i64 m, .int .i64 q, .int .i64 c, .int .i64 k] 114)
  have aB := h.fr f
  clear h
  obtain ⟨R, hR⟩ : ∃ R, R = w.heap.size := ⟨_, rfl⟩
  go_enter Try.func75, Try.ntmps75
  go_upto_region 1 with fail
  obtain ⟨U, hU⟩ : ∃ U, U = w.alloc (.cells #[.pointer (some ⟨p, 0, none⟩), .int .i64 r, .int .i64 s, .int .i64 b, .int .i64 m, .int .i64 q, .int .i64 c, .int .i64 k] 114) := ⟨_, rfl⟩
  rw [← hU] at aR aB f ⊢
  clear hU
  rw [← hR] at aR ⊢
  clear hR
  obtain ⟨rp, r0, r1, r2, r3, r4, r5, r6⟩ := aR
  simp only [Nat.reduceAdd] at r0 r1 r2 r3 r4 r5 r6
  have l0 := aB.c0
  by_cases hz : xl = 0
  · have hd : (xl != 0) = false := by simp [hz]
    have hn : ¬ (xl ≠ 0) := fun q => q hz
    rw [if_neg hn] at hy
    rw [decide_eq_false hn] at hB
    subst hy hB
    clear hn hz
    go_wp2_with fail
    refine (cP _ aB).mono ?_
    rintro e u1 ⟨rfl, z, g⟩
    go_wp2_with fail
    go_ret
    exact ⟨rfl, z, grown_trans f.wide g⟩
  · have hd : (xl != 0) = true := by simp [hz]
    have hn : xl ≠ 0 := hz
    rw [if_pos hn] at hy
    rw [decide_eq_true hn] at hB
    subst hy hB
    clear hn hz
    go_wp2_with fail
    refine (cL _ aB).mono ?_
    rintro e u1 ⟨rfl, z, g⟩
    go_wp2_with fail
    go_ret
    exact ⟨rfl, z, grown_trans f.wide g⟩

theorem stepsOf_any (c : Cf) (p : Nat) (w : World) :
    Calls Try.prog 69 #[.agg #[.int .i64 c.r, .int .i64 c.s, .int .i64 c.b, .int .i64 c.m, .int .i64 c.q, .int .i64 c.c, .int .i64 c.w], .pointer (some ⟨p, 0, none⟩)] w fun e w' => e = .returned (.func (.func 75) #[.agg #[.pointer (some ⟨p, 0, none⟩), .int .i64 c.r, .int .i64 c.s, .int .i64 c.b, .int .i64 c.m, .int .i64 c.q, .int .i64 c.c, .int .i64 c.w]] #[]) ∧ Fr w w' := by
  obtain ⟨r, s, b, m, q, c, k⟩ := c
  simp only
  have f := Fr.alloc w (.cells #[.int .i64 r, .int .i64 s, .int .i64 b, .int .i64 m, .int .i64 q, .int .i64 c, .int .i64 k] 29)
  have hmf : ∀ (fn : Fn) (first cap : Array Value) (w : World), (Instr.makeFunc fn first cap).run Try.prog w = .ok (.func fn first cap) w := fun _ _ _ _ => rfl
  go_enter Try.func69, Try.ntmps69
  go_wp2_with fail
  go_ret
  exact ⟨rfl, f⟩

end Go.Proofs.Ytkfcchapfklpgaa
/-
  BurstStep of the specification.
-/
namespace Go.Proofs.Ytkfcchapfklpgaa
open Go.RowKit

set_option maxRecDepth 20000 in
set_option maxHeartbeats 4000000 in
theorem buStep_spec (c : Cf) (x : Bu) (W : World) :
    Calls Try.prog 37 #[.agg #[.int .i64 c.r, .int .i64 c.s, .int .i64 c.b, .int .i64 c.m, .int .i64 c.q, .int .i64 c.c, .int .i64 c.w], .agg #[.int .i64 x.l, .int .i64 x.s, .int .i64 x.g]] W fun e w' => e = .returned (.tuple #[.agg #[.int .i64 (stB1 c x).l, .int .i64 (stB1 c x).s, .int .i64 (stB1 c x).g], .bool (stB2 c x)]) ∧ Fr W w' := by
  have cO := fun u => buOk_spec c x u
  have cM := fun u => l1Min_any (2 * x.g) c.m u
  have hB : bkB c x = true → (0 ≤ x.l ∧ x.l ≤ 1000) ∧ (0 ≤ x.s ∧ x.s ≤ 100000) ∧ (1 ≤ x.g ∧ x.g ≤ 100000) := fun h => by
    have q := bkB_in h
    have qc := cfB_in q.1
    omega
  have hC : bkB c x = true → (1 ≤ c.m ∧ c.m ≤ 100000) := fun h => by
    have q := bkB_in h
    have qc := cfB_in q.1
    omega
  obtain ⟨S1, hS1⟩ : ∃ z, z = stB1 c x := ⟨_, rfl⟩
  obtain ⟨S2, hS2⟩ : ∃ z, z = stB2 c x := ⟨_, rfl⟩
  rw [← hS1, ← hS2]
  simp only [stB1, stB2] at hS1 hS2
  generalize bkB c x = B at cO hS1 hS2 hB hC
  obtain ⟨r, s, b, m, q, c, k⟩ := c
  obtain ⟨xl, xs, xg⟩ := x
  simp only at cO cM hS1 hS2 hB hC ⊢
  have aC := CfAt.new W ⟨r, s, b, m, q, c, k⟩ 29
  have f := Fr.alloc W (.cells #[.int .i64 r, .int .i64 s, .int .i64 b, .int .i64 m, .int .i64 q, .int .i64 c, .int .i64 k] 29)
  obtain ⟨V, hV⟩ : ∃ V, V = W.alloc (.cells #[.int .i64 r, .int .i64 s, .int .i64 b, .int .i64 m, .int .i64 q, .int .i64 c, .int .i64 k] 29) := ⟨_, rfl⟩
  rw [← hV] at aC f
  have hs1 : V.heap.size = W.heap.size + 1 := by rw [hV]; simp
  have aX : BuZ (V.alloc (.cells #[.int .i64 xl, .int .i64 xs, .int .i64 xg] 51)) V.heap.size #[.int .i64 xl, .int .i64 xs, .int .i64 xg] := heap_alloc_new _ _
  have f2 := Fr.alloc V (.cells #[.int .i64 xl, .int .i64 xs, .int .i64 xg] 51)
  replace aC := aC.fr f2
  replace f := f.trans f2
  clear f2
  have hs2 : (V.alloc (.cells #[.int .i64 xl, .int .i64 xs, .int .i64 xg] 51)).heap.size = W.heap.size + 2 := by simp [hs1]
  rw [hs1] at aX
  have aZ : BuZ ((V.alloc (.cells #[.int .i64 xl, .int .i64 xs, .int .i64 xg] 51)).alloc (.cells #[.int .i64 0, .int .i64 0, .int .i64 0] 51)) (V.alloc (.cells #[.int .i64 xl, .int .i64 xs, .int .i64 xg] 51)).heap.size #[.int .i64 0, .int .i64 0, .int .i64 0] := heap_alloc_new _ _
  have f3 := Fr.alloc (V.alloc (.cells #[.int .i64 xl, .int .i64 xs, .int .i64 xg] 51)) (.cells #[.int .i64 0, .int .i64 0, .int .i64 0] 51)
  replace aC := aC.fr f3
  replace aX := aX.fr f3
  replace f := f.trans f3
  rw [hs2] at aZ
  rw [hV] at aC f aX aZ
  clear f3 hs1 hs2 hV V
  go_enter Try.func37, Try.ntmps37
  go_upto_region 1 with fail
  obtain ⟨U, hU⟩ : ∃ U, U = ((W.alloc (.cells #[.int .i64 r, .int .i64 s, .int .i64 b, .int .i64 m, .int .i64 q, .int .i64 c, .int .i64 k] 29)).alloc (.cells #[.int .i64 xl, .int .i64 xs, .int .i64 xg] 51)).alloc (.cells #[.int .i64 0, .int .i64 0, .int .i64 0] 51) := ⟨_, rfl⟩
  rw [← hU] at aC aX aZ f ⊢
  clear hU
  have aC0 := aC
  obtain ⟨k0, k1, k2, k3, k4, k5, k6⟩ := aC0
  simp only [Nat.zero_add] at k0 k1 k2 k3 k4 k5 k6
  have x0 := aX.c0
  have x1 := aX.c1
  have x2 := aX.c2
  go_wp2_with fail
  refine (cO _).mono ?_
  rintro e u0 ⟨rfl, f0⟩
  clear k0 k1 k2 k3 k4 k5 k6 x0 x1 x2 cO
  replace aC := aC.fr f0
  replace aX := aX.fr f0
  replace aZ := aZ.fr f0
  replace f := f.trans f0
  clear f0
  have aC0 := aC
  obtain ⟨k0, k1, k2, k3, k4, k5, k6⟩ := aC0
  simp only [Nat.zero_add] at k0 k1 k2 k3 k4 k5 k6
  have x0 := aX.c0
  have x1 := aX.c1
  have x2 := aX.c2
  have z0 := aZ.c0
  have z1 := aZ.c1
  have z2 := aZ.c2
  have nz := aZ.free
  cases B
  · simp only [Bool.false_eq_true, if_false, Bool.false_and] at hS1 hS2
    subst hS1 hS2
    clear hB hC cM
    have z := ((aZ.set0 (.int .i64 0)).set1 (.int .i64 0)).set2 (.int .i64 0)
    have g := grown_trans (grown_trans (grown_set u0 (W.heap.size + 2) 0 (.int .i64 0)) (grown_set _ (W.heap.size + 2) 1 (.int .i64 0))) (grown_set _ (W.heap.size + 2) 2 (.int .i64 0))
    have y0 := z.c0
    have y1 := z.c1
    have y2 := z.c2
    go_wp2_with fail
    refine bodyPost_ret (v := .tuple #[.agg #[.int .i64 0, .int .i64 0, .int .i64 0], .bool false]) (by simp [results, Try.results37, go_sem, y0, y1, y2]) rfl ⟨rfl, ?_⟩
    exact f.then g (by intro j hj; cases hj; omega)
  obtain ⟨⟨p1, p2⟩, ⟨p3, p4⟩, p5, p6⟩ := hB rfl
  obtain ⟨p7, p8⟩ := hC rfl
  clear hB hC
  simp only [if_true, Bool.true_and] at hS1 hS2
  have nx := aX.free
  by_cases hz : xl = 0
  · have hn : ¬ (xl ≠ 0) := fun q => q hz
    rw [if_neg hn] at hS1
    rw [decide_eq_false hn] at hS2
    subst hS2
    subst hz
    clear hn cM
    clear k0 k1 k4 k5 k6 aC
    go_upto_region 10 with fail
    have g4 := grown_set u0 (W.heap.size + 1) 1 (.int .i64 (xs - 1))
    replace aX := aX.set1 (.int .i64 (xs - 1))
    replace aZ := aZ.keep g4 (by simp)
    replace k2 := g4.cell k2 (by simp)
    replace k3 := g4.cell k3 (by simp)
    replace f := f.then g4 (by intro j hj; cases hj; omega)
    clear x0 x1 x2 z0 z1 z2 nz nx g4
    obtain ⟨v1, hN⟩ : ∃ V, V = u0.setCell ⟨W.heap.size + 1, 1, none⟩ (.int .i64 (xs - 1)) := ⟨_, rfl⟩
    rw [← hN] at aX aZ k2 k3 f ⊢
    clear hN
    have x0 := aX.c0
    have x1 := aX.c1
    have x2 := aX.c2
    have z0 := aZ.c0
    have z1 := aZ.c1
    have z2 := aZ.c2
    have nz := aZ.free
    have nx := aX.free
    by_cases hy : xs - 1 = 0
    · rw [if_pos hy, hy] at hS1
      subst hS1
      rw [hy] at x1 aX ⊢
      clear hy
      go_upto_region 12 with fail
      have g4 := grown_set v1 (W.heap.size + 1) 0 (.int .i64 (b))
      replace aX := aX.set0 (.int .i64 (b))
      replace aZ := aZ.keep g4 (by simp)
      replace k2 := g4.cell k2 (by simp)
      replace k3 := g4.cell k3 (by simp)
      replace f := f.then g4 (by intro j hj; cases hj; omega)
      clear x0 x1 x2 z0 z1 z2 nz nx g4
      obtain ⟨v2, hN⟩ : ∃ V, V = v1.setCell ⟨W.heap.size + 1, 0, none⟩ (.int .i64 (b)) := ⟨_, rfl⟩
      rw [← hN] at aX aZ k2 k3 f ⊢
      clear hN
      have x0 := aX.c0
      have x1 := aX.c1
      have x2 := aX.c2
      have z0 := aZ.c0
      have z1 := aZ.c1
      have z2 := aZ.c2
      have nz := aZ.free
      have nx := aX.free
      have z := ((aZ.set0 (.int .i64 b)).set1 (.int .i64 0)).set2 (.int .i64 xg)
      have g := grown_trans (grown_trans (grown_set v2 (W.heap.size + 2) 0 (.int .i64 b)) (grown_set _ (W.heap.size + 2) 1 (.int .i64 0))) (grown_set _ (W.heap.size + 2) 2 (.int .i64 xg))
      have y0 := z.c0
      have y1 := z.c1
      have y2 := z.c2
      go_wp2_with fail
      refine bodyPost_ret (v := .tuple #[.agg #[.int .i64 b, .int .i64 0, .int .i64 xg], .bool false]) (by simp [results, Try.results37, go_sem, y0, y1, y2]) rfl ⟨rfl, ?_⟩
      exact f.then g (by intro j hj; cases hj; omega)
    · rw [if_neg hy] at hS1
      subst hS1
      have hd : decide (xs - 1 = 0) = false := decide_eq_false hy
      go_upto_region 12 with fail
      have z := ((aZ.set0 (.int .i64 0)).set1 (.int .i64 (xs - 1))).set2 (.int .i64 xg)
      have g := grown_trans (grown_trans (grown_set v1 (W.heap.size + 2) 0 (.int .i64 0)) (grown_set _ (W.heap.size + 2) 1 (.int .i64 (xs - 1)))) (grown_set _ (W.heap.size + 2) 2 (.int .i64 xg))
      have y0 := z.c0
      have y1 := z.c1
      have y2 := z.c2
      go_wp2_with fail
      refine bodyPost_ret (v := .tuple #[.agg #[.int .i64 0, .int .i64 (xs - 1), .int .i64 xg], .bool false]) (by simp [results, Try.results37, go_sem, y0, y1, y2]) rfl ⟨rfl, ?_⟩
      exact f.then g (by intro j hj; cases hj; omega)
  · have hn : xl ≠ 0 := hz
    rw [if_pos hn] at hS1
    rw [decide_eq_true hn] at hS2
    subst hS2
    have hgt : 0 < xl := by omega
    clear k0 k1 k4 k5 k6 aC
    go_upto_region 5 with fail
    have g4 := grown_set u0 (W.heap.size + 1) 0 (.int .i64 (xl - 1))
    replace aX := aX.set0 (.int .i64 (xl - 1))
    replace aZ := aZ.keep g4 (by simp)
    replace k2 := g4.cell k2 (by simp)
    replace k3 := g4.cell k3 (by simp)
    replace f := f.then g4 (by intro j hj; cases hj; omega)
    clear x0 x1 x2 z0 z1 z2 nz nx g4
    obtain ⟨v1, hN⟩ : ∃ V, V = u0.setCell ⟨W.heap.size + 1, 0, none⟩ (.int .i64 (xl - 1)) := ⟨_, rfl⟩
    rw [← hN] at aX aZ k2 k3 f ⊢
    clear hN
    have x0 := aX.c0
    have x1 := aX.c1
    have x2 := aX.c2
    have z0 := aZ.c0
    have z1 := aZ.c1
    have z2 := aZ.c2
    have nz := aZ.free
    have nx := aX.free
    by_cases hy : xl - 1 = 0
    · rw [if_pos hy, hy] at hS1
      subst hS1
      rw [hy] at x0 aX ⊢
      clear hy
      go_upto_region 7 with fail
      have g4 := grown_set v1 (W.heap.size + 1) 1 (.int .i64 (xg))
      replace aX := aX.set1 (.int .i64 (xg))
      replace aZ := aZ.keep g4 (by simp)
      replace k2 := g4.cell k2 (by simp)
      replace k3 := g4.cell k3 (by simp)
      replace f := f.then g4 (by intro j hj; cases hj; omega)
      clear x0 x1 x2 z0 z1 z2 nz nx g4
      obtain ⟨v2, hN⟩ : ∃ V, V = v1.setCell ⟨W.heap.size + 1, 1, none⟩ (.int .i64 (xg)) := ⟨_, rfl⟩
      rw [← hN] at aX aZ k2 k3 f ⊢
      clear hN
      have x0 := aX.c0
      have x1 := aX.c1
      have x2 := aX.c2
      have z0 := aZ.c0
      have z1 := aZ.c1
      have z2 := aZ.c2
      have nz := aZ.free
      have nx := aX.free
      go_wp2_with fail
      refine (cM _).mono ?_
      rintro e v3 ⟨rfl, rfl⟩
      go_upto_region 8 with fail
      have g4 := grown_set v3 (W.heap.size + 1) 2 (.int .i64 (min (2 * xg) m))
      replace aX := aX.set2 (.int .i64 (min (2 * xg) m))
      replace aZ := aZ.keep g4 (by simp)
      replace k2 := g4.cell k2 (by simp)
      replace k3 := g4.cell k3 (by simp)
      replace f := f.then g4 (by intro j hj; cases hj; omega)
      clear x0 x1 x2 z0 z1 z2 nz nx g4
      obtain ⟨v4, hN⟩ : ∃ V, V = v3.setCell ⟨W.heap.size + 1, 2, none⟩ (.int .i64 (min (2 * xg) m)) := ⟨_, rfl⟩
      rw [← hN] at aX aZ k2 k3 f ⊢
      clear hN
      have x0 := aX.c0
      have x1 := aX.c1
      have x2 := aX.c2
      have z0 := aZ.c0
      have z1 := aZ.c1
      have z2 := aZ.c2
      have nz := aZ.free
      have nx := aX.free
      have z := ((aZ.set0 (.int .i64 0)).set1 (.int .i64 xg)).set2 (.int .i64 (min (2 * xg) m))
      have g := grown_trans (grown_trans (grown_set v4 (W.heap.size + 2) 0 (.int .i64 0)) (grown_set _ (W.heap.size + 2) 1 (.int .i64 xg))) (grown_set _ (W.heap.size + 2) 2 (.int .i64 (min (2 * xg) m)))
      have y0 := z.c0
      have y1 := z.c1
      have y2 := z.c2
      go_wp2_with fail
      refine bodyPost_ret (v := .tuple #[.agg #[.int .i64 0, .int .i64 xg, .int .i64 (min (2 * xg) m)], .bool true]) (by simp [results, Try.results37, go_sem, y0, y1, y2]) rfl ⟨rfl, ?_⟩
      exact f.then g (by intro j hj; cases hj; omega)
    · rw [if_neg hy] at hS1
      subst hS1
      have hd : decide (xl - 1 = 0) = false := decide_eq_false hy
      go_upto_region 8 with fail
      have z := ((aZ.set0 (.int .i64 (xl - 1))).set1 (.int .i64 xs)).set2 (.int .i64 xg)
      have g := grown_trans (grown_trans (grown_set v1 (W.heap.size + 2) 0 (.int .i64 (xl - 1))) (grown_set _ (W.heap.size + 2) 1 (.int .i64 xs))) (grown_set _ (W.heap.size + 2) 2 (.int .i64 xg))
      have y0 := z.c0
      have y1 := z.c1
      have y2 := z.c2
      go_wp2_with fail
      refine bodyPost_ret (v := .tuple #[.agg #[.int .i64 (xl - 1), .int .i64 xs, .int .i64 xg], .bool true]) (by simp [results, Try.results37, go_sem, y0, y1, y2]) rfl ⟨rfl, ?_⟩
      exact f.then g (by intro j hj; cases hj; omega)
end Go.Proofs.Ytkfcchapfklpgaa
/-
  Is a sampler right: the specification's SamplerOk.
-/
namespace Go.Proofs.Ytkfcchapfklpgaa
open Go.RowKit

theorem gorSp_any (x : Int) (w : World) :
    Calls Try.prog 24 #[.int .i64 x] w fun e w' => e = .returned (.bool (inB 0 15 x)) ∧ w' = w := by
  go_enter Try.func24, Try.ntmps24
  go_wp2_with (go_at_call 23; refine (l1In_any _ _ _ _).mono ?_; rintro e w' ⟨rfl, rfl⟩)
  go_ret
  exact ⟨rfl, rfl⟩
theorem ahead_any (o : Ow) (g f : Int) (w : World) :
    Calls Try.prog 26 #[.agg #[.int .i64 o.g, .int .i64 o.f, .int .i64 o.b.l, .int .i64 o.b.s, .int .i64 o.b.g], .int .i64 g, .int .i64 f] w fun e w' => e = .returned (.bool (ahB o.g o.f g f)) ∧ Fr w w' := by
  obtain ⟨og, of, l, s, p⟩ := o
  simp only
  unfold ahB
  by_cases h1 : og < g
  · have d1 : decide (og < g) = true := decide_eq_true h1
    rw [d1, Bool.true_or]
    go_enter Try.func26, Try.ntmps26
    go_wp2_with fail
    go_ret
    exact ⟨rfl, Fr.alloc _ _⟩
  · have d1 : decide (og < g) = false := decide_eq_false h1
    rw [d1, Bool.false_or]
    by_cases h2 : og = g
    · have d2 : (og == g) = true := beq_iff_eq.2 h2
      rw [decide_eq_true h2, Bool.true_and]
      have HF : Hid (og = g) := h2
      clear h2
      by_cases h3 : of < f
      · have d3 : decide (of < f) = true := decide_eq_true h3
        rw [d3]
        go_enter Try.func26, Try.ntmps26
        go_wp2_with fail
        go_ret
        exact ⟨rfl, Fr.alloc _ _⟩
      · have d3 : decide (of < f) = false := decide_eq_false h3
        rw [d3]
        go_enter Try.func26, Try.ntmps26
        go_wp2_with fail
        go_ret
        exact ⟨rfl, Fr.alloc _ _⟩
    · have d2 : (og == g) = false := beq_eq_false_iff_ne.2 h2
      rw [decide_eq_false h2, Bool.false_and]
      clear h2
      go_enter Try.func26, Try.ntmps26
      go_wp2_with fail
      go_ret
      exact ⟨rfl, Fr.alloc _ _⟩
theorem smB_cut {c : Cf} {os : List Ow} {p u : Int} (h : 300 < os.length) : smB c ⟨os, p, u⟩ = false := by
  simp only [smB]
  rw [decide_eq_false (show ¬ os.length ≤ 300 by omega)]
  simp
theorem smB_0 {c : Cf} {os : List Ow} {p u : Int} (h : cfB c = false) : smB c ⟨os, p, u⟩ = false := by simp [smB, h]
theorem smB_1 {c : Cf} {os : List Ow} {p u : Int} (h : inB (-1) 300 p = false) : smB c ⟨os, p, u⟩ = false := by simp [smB, h]
theorem smB_2 {c : Cf} {os : List Ow} {p u : Int} (h : inB 0 c.q u = false) : smB c ⟨os, p, u⟩ = false := by simp [smB, h]
theorem smB_3 {c : Cf} {os : List Ow} {p u : Int} (h0 : cfB c = true) (h : ¬ 300 < os.length) (h1 : inB (-1) 300 p = true) (h2 : inB 0 c.q u = true) : smB c ⟨os, p, u⟩ = rowO c os := by
  simp [smB, h0, h1, h2]
  intro _
  omega

set_option maxRecDepth 20000 in
set_option maxHeartbeats 8000000 in
theorem smOk_spec (c : Cf) (ao : Option Addr) (n cap : Nat) (os : List Ow) (p v : Int) (W : World) (hn : os.length = n) (h : ReadsG LO W ao os) :
    Calls Try.prog 7 #[.agg #[.int .i64 c.r, .int .i64 c.s, .int .i64 c.b, .int .i64 c.m, .int .i64 c.q, .int .i64 c.c, .int .i64 c.w], .agg #[.slice ao n cap, .int .i64 p, .int .i64 v]] W fun e w' => e = .returned (.bool (smB c ⟨os, p, v⟩)) ∧ Fr W w' := by
  subst hn
  have hl := h.len
  have cC := fun u => cfOk_spec c u
  have cP := fun w => l1In_any p (-1) 300 w
  have cU := fun w => l1In_any v 0 c.q w
  have cB := fun x u => buOk_spec c x u
  have f1 := Fr.alloc W (.cells #[.int .i64 c.r, .int .i64 c.s, .int .i64 c.b, .int .i64 c.m, .int .i64 c.q, .int .i64 c.c, .int .i64 c.w] 29)
  have aC := CfAt.new W c 29
  have f2 := Fr.alloc (W.alloc (.cells #[.int .i64 c.r, .int .i64 c.s, .int .i64 c.b, .int .i64 c.m, .int .i64 c.q, .int .i64 c.c, .int .i64 c.w] 29)) (.cells #[.slice ao os.length cap, .int .i64 p, .int .i64 v] 33)
  have zS : KyZ ((W.alloc (.cells #[.int .i64 c.r, .int .i64 c.s, .int .i64 c.b, .int .i64 c.m, .int .i64 c.q, .int .i64 c.c, .int .i64 c.w] 29)).alloc (.cells #[.slice ao os.length cap, .int .i64 p, .int .i64 v] 33)) (W.alloc (.cells #[.int .i64 c.r, .int .i64 c.s, .int .i64 c.b, .int .i64 c.m, .int .i64 c.q, .int .i64 c.c, .int .i64 c.w] 29)).heap.size 33 #[.slice ao os.length cap, .int .i64 p, .int .i64 v] := heap_alloc_new _ _
  rw [World.size_alloc] at zS
  replace aC := aC.fr f2
  replace f1 := f1.trans f2
  clear f2
  have hR := h.fr f1
  have H0 : Hid (cfB c = false → smB c ⟨os, p, v⟩ = false) := smB_0
  have H1 : Hid (inB (-1) 300 p = false → smB c ⟨os, p, v⟩ = false) := smB_1
  have H2 : Hid (inB 0 c.q v = false → smB c ⟨os, p, v⟩ = false) := smB_2
  have HL : Hid (300 < os.length → smB c ⟨os, p, v⟩ = false) := smB_cut
  have H3 : Hid (cfB c = true → ¬ 300 < os.length → inB (-1) 300 p = true → inB 0 c.q v = true → smB c ⟨os, p, v⟩ = rowO c os) := smB_3
  obtain ⟨R, hR2⟩ : ∃ R, R = smB c ⟨os, p, v⟩ := ⟨_, rfl⟩
  rw [← hR2] at H0 H1 H2 HL H3 ⊢
  clear hR2 h
  generalize cfB c = B0 at cC H0 H3 ⊢
  generalize inB (-1) 300 p = B1 at cP H1 H3 ⊢
  generalize inB 0 c.q v = B2 at cU H2 H3 ⊢
  obtain ⟨Z, hZ⟩ : ∃ Z, Z = W.heap.size := ⟨_, rfl⟩
  obtain ⟨r, s, b, m, q, cc, cw⟩ := c
  simp only at cC cU cB aC f1 zS hR ⊢
  go_enter Try.func7, Try.ntmps7
  go_wp2_with fail
  obtain ⟨V, hV⟩ : ∃ V, V = (W.alloc (.cells #[.int .i64 r, .int .i64 s, .int .i64 b, .int .i64 m, .int .i64 q, .int .i64 cc, .int .i64 cw] 29)).alloc (.cells #[.slice ao os.length cap, .int .i64 p, .int .i64 v] 33) := ⟨_, rfl⟩
  rw [← hV] at aC f1 zS hR ⊢
  rw [← hZ] at aC zS ⊢
  clear hV hZ
  refine (cC _).mono ?_
  rintro e u1 ⟨rfl, k1⟩
  replace f1 := f1.trans k1
  replace aC := aC.fr k1
  replace zS := zS.fr k1
  replace hR := hR.fr k1
  clear k1
  cases B0
  · have HF : Hid (R = false) := H0.out (by trivial)
    go_wp2_with fail
    go_ret
    exact ⟨ret_bool HF.out.symm, f1⟩
  have HQ : Hid (∀ u, Fr u1 u → CfAt u Z 0 ⟨r, s, b, m, q, cc, cw⟩ ∧ KyZ u (Z + 1) 33 #[.slice ao os.length cap, .int .i64 p, .int .i64 v] ∧ ReadsG LO u ao os) := fun u k => ⟨aC.fr k, zS.fr k, hR.fr k⟩
  clear aC zS hR H0
  obtain ⟨⟨ak0, ak1, ak2, ak3, ak4, ak5, ak6⟩, zS, hR⟩ := HQ.out _ (Fr.refl _)
  simp only [Nat.zero_add] at ak0 ak1 ak2 ak3 ak4 ak5 ak6
  obtain ⟨z0, z1, z2⟩ := zS.c3
  clear zS hR
  by_cases hlong : 300 < os.length
  · have HF : Hid (R = false) := HL.out hlong
    go_wp2_with fail
    go_ret
    exact ⟨ret_bool HF.out.symm, f1⟩
  have hlong2 : decide ((300 : Int) < (os.length : Int)) = false := decide_eq_false (by omega)
  go_wp2_with fail
  refine (cP _).mono ?_
  rintro e u1 ⟨rfl, rfl⟩
  cases B1
  · have HF : Hid (R = false) := H1.out (by trivial)
    go_wp2_with fail
    go_ret
    exact ⟨ret_bool HF.out.symm, f1⟩
  go_wp2_with fail
  refine (cU _).mono ?_
  rintro e u1 ⟨rfl, rfl⟩
  cases B2
  · have HF : Hid (R = false) := H2.out (by trivial)
    go_wp2_with fail
    go_ret
    exact ⟨ret_bool HF.out.symm, f1⟩
  have HR : Hid (R = rowO ⟨r, s, b, m, q, cc, cw⟩ os) := H3.out (by trivial) hlong (by trivial) (by trivial)
  clear H1 H2 HL H3 ak0 ak1 ak2 ak3 ak4 ak5 ak6 z0 z1 z2 cP cU cC
  go_wp2_with fail
  go_loopw [5] (fun i wr => ∃ k : Nat, k ≤ os.length ∧ i = .int .i64 k ∧ Hid (∀ j, j < k → owAt ⟨r, s, b, m, q, cc, cw⟩ os j = true) ∧ Fr u1 wr) (fun i _ => os.length - (intOf i).toNat)
  case atStart => exact ⟨0, Nat.zero_le _, rfl, fun j hj => by omega, Fr.refl _⟩
  case round =>
    obtain ⟨k, hk, rfl, HA, fV⟩ := hrel
    obtain ⟨⟨ak0, ak1, ak2, ak3, ak4, ak5, ak6⟩, zS, hR⟩ := HQ.out _ fV
    simp only [Nat.zero_add] at ak0 ak1 ak2 ak3 ak4 ak5 ak6
    obtain ⟨z0, z1, z2⟩ := zS.c3
    clear zS
    by_cases hlt : k < os.length
    · obtain ⟨eb, off, rfl, d0, d1, d2, d3, d4⟩ := ow_at hR k hlt
      obtain ⟨x, hx⟩ : ∃ x, x = os[k] := ⟨_, rfl⟩
      have HX : Hid (x = os[k]) := hx
      rw [← hx] at d0 d1 d2 d3 d4
      clear hx hR
      have c1 := fun u => gorSp_any x.g u
      have c2 := fun u => l1In_any x.f 0 999 u
      have c3 := fun u => cB x.b u
      obtain ⟨B1, hB1⟩ : ∃ B1, B1 = inB 0 15 x.g := ⟨_, rfl⟩
      obtain ⟨B2, hB2⟩ : ∃ B2, B2 = inB 0 999 x.f := ⟨_, rfl⟩
      obtain ⟨B3, hB3⟩ : ∃ B3, B3 = bkB ⟨r, s, b, m, q, cc, cw⟩ x.b := ⟨_, rfl⟩
      have HO : Hid (owB ⟨r, s, b, m, q, cc, cw⟩ x = (B1 && B2 && B3)) := by rw [hB1, hB2, hB3]; rfl
      simp only [← hB1] at c1
      simp only [← hB2] at c2
      simp only [← hB3] at c3
      clear hB1 hB2 hB3
      obtain ⟨xg, xf, xl, xs, xp⟩ := x
      simp only at d0 d1 d2 d3 d4 c1 c2 c3
      have z3 : OwZ (wr.alloc (.cells #[.int .i64 xg, .int .i64 xf, .int .i64 xl, .int .i64 xs, .int .i64 xp] 53)) wr.heap.size #[.int .i64 xg, .int .i64 xf, .int .i64 xl, .int .i64 xs, .int .i64 xp] := heap_alloc_new wr _
      have fz := Fr.alloc wr (.cells #[.int .i64 xg, .int .i64 xf, .int .i64 xl, .int .i64 xs, .int .i64 xp] 53)
      go_wp2_with fail
      clear ak0 ak1 ak2 ak3 ak4 ak5 ak6 z0 z1 z2 d0 d1 d2 d3 d4
      obtain ⟨U, hU⟩ : ∃ U, U = wr.alloc (.cells #[.int .i64 xg, .int .i64 xf, .int .i64 xl, .int .i64 xs, .int .i64 xp] 53) := ⟨_, rfl⟩
      rw [← hU] at z3 fz ⊢
      clear hU
      have fU := fV.trans fz
      obtain ⟨O, hO⟩ : ∃ O, O = wr.heap.size := ⟨_, rfl⟩
      rw [← hO] at z3 ⊢
      clear hO fz
      obtain ⟨⟨ak0, ak1, ak2, ak3, ak4, ak5, ak6⟩, zS, hR⟩ := HQ.out _ fU
      simp only [Nat.zero_add] at ak0 ak1 ak2 ak3 ak4 ak5 ak6
      obtain ⟨z0, -, -⟩ := zS.c3
      obtain ⟨o0, o1, o2, o3, o4⟩ := z3.cs
      have p0 : ∀ s : Later U, s.u.cell? ⟨O, 0, none⟩ = some (.int .i64 xg) := fun s => s.fr.cell o0
      have p1 : ∀ s : Later U, s.u.cell? ⟨O, 1, none⟩ = some (.int .i64 xf) := fun s => s.fr.cell o1
      have p2 : ∀ s : Later U, s.u.cell? ⟨O, 2, none⟩ = some (.int .i64 xl) := fun s => s.fr.cell o2
      have p3 : ∀ s : Later U, s.u.cell? ⟨O, 3, none⟩ = some (.int .i64 xs) := fun s => s.fr.cell o3
      have p4 : ∀ s : Later U, s.u.cell? ⟨O, 4, none⟩ = some (.int .i64 xp) := fun s => s.fr.cell o4
      have := Later.some U
      clear zS z3 o0 o1 o2 o3 o4
      have HBAD : Hid ((B1 && B2 && B3) = false → R = false) := fun hb => by
        rw [HR.out]
        exact rowO_no hlt (owAt_bad hlt (by rw [← HX.out, HO.out]; exact hb))
      cases B1
      · have HF : Hid (R = false) := HBAD.out (by trivial)
        clear hR HBAD HO
        refine wp_region_grown (by kernel_rfl) (by kernel_rfl) ?_
        repeat (go_big_quiet_step (with_reducible exact Calls.grown_same (c1 _)))
        refine wpQuiet_nil ?_
        rintro _ ⟨s, rfl⟩
        go_wp2_with fail
        go_ret
        exact ⟨ret_bool HF.out.symm, f1.trans (fU.trans s.fr)⟩
      cases B2
      · have HF : Hid (R = false) := HBAD.out (by trivial)
        clear hR HBAD HO
        refine wp_region_grown (by kernel_rfl) (by kernel_rfl) ?_
        repeat (go_big_quiet_step (first | with_reducible exact Calls.grown_same (c1 _) | with_reducible exact Calls.grown_same (c2 _)))
        refine wpQuiet_nil ?_
        rintro _ ⟨s, rfl⟩
        go_wp2_with fail
        go_ret
        exact ⟨ret_bool HF.out.symm, f1.trans (fU.trans s.fr)⟩
      have q0 : ∀ s : Later U, s.u.cell? ⟨Z, 0, none⟩ = some (.int .i64 r) := fun s => s.fr.cell ak0
      have q1 : ∀ s : Later U, s.u.cell? ⟨Z, 1, none⟩ = some (.int .i64 _) := fun s => s.fr.cell ak1
      have q2 : ∀ s : Later U, s.u.cell? ⟨Z, 2, none⟩ = some (.int .i64 b) := fun s => s.fr.cell ak2
      have q3 : ∀ s : Later U, s.u.cell? ⟨Z, 3, none⟩ = some (.int .i64 m) := fun s => s.fr.cell ak3
      have q4 : ∀ s : Later U, s.u.cell? ⟨Z, 4, none⟩ = some (.int .i64 q) := fun s => s.fr.cell ak4
      have q5 : ∀ s : Later U, s.u.cell? ⟨Z, 5, none⟩ = some (.int .i64 cc) := fun s => s.fr.cell ak5
      have q6 : ∀ s : Later U, s.u.cell? ⟨Z, 6, none⟩ = some (.int .i64 cw) := fun s => s.fr.cell ak6
      have q7 : ∀ s : Later U, s.u.cell? ⟨Z + 1, 0, none⟩ = some (.slice (some ⟨eb, off, none⟩) os.length cap) := fun s => s.fr.cell z0
      clear ak0 ak1 ak2 ak3 ak4 ak5 ak6 z0
      cases B3
      · have HF : Hid (R = false) := HBAD.out (by trivial)
        clear hR HBAD HO
        refine wp_region_grown (by kernel_rfl) (by kernel_rfl) ?_
        repeat (go_big_quiet_step (first | with_reducible exact Calls.grown_same (c1 _) | with_reducible exact Calls.grown_same (c2 _) | with_reducible exact Calls.grown_of (c3 _)))
        refine wpQuiet_nil ?_
        rintro _ ⟨s, rfl⟩
        go_wp2_with fail
        go_ret
        exact ⟨ret_bool HF.out.symm, f1.trans (fU.trans s.fr)⟩
      clear HBAD
      cases k with
      | zero =>
        have HT : Hid (owAt ⟨r, s, b, m, q, cc, cw⟩ os 0 = true) := by
          show _ = true
          rw [owAt_zero hlt, ← HX.out, HO.out]; rfl
        have hd : decide ((0 : Int) < 0) = false := by decide
        clear HO HX hR
        refine wp_region_grown (by kernel_rfl) (by kernel_rfl) ?_
        repeat (go_big_quiet_step (first | with_reducible exact Calls.grown_same (c1 _) | with_reducible exact Calls.grown_same (c2 _) | with_reducible exact Calls.grown_of (c3 _)))
        refine wpQuiet_nil ?_
        rintro _ ⟨s, rfl⟩
        go_wp2_with fail
        go_roundw
        case rel => exact ⟨1, by omega, by go_num, rowO_next HA.out HT.out, fU.trans s.fr⟩
        case measure => simp [intOf]; omega
      | succ k =>
        obtain ⟨eb', off', e', t0, t1, t2, t3, t4⟩ := ow_at hR k (by omega)
        simp only [Option.some.injEq, Addr.mk.injEq, and_true] at e'
        obtain ⟨rfl, rfl⟩ := e'
        obtain ⟨y, hy⟩ : ∃ y, y = os[k] := ⟨_, rfl⟩
        have HY : Hid (y = os[k]) := hy
        rw [← hy] at t0 t1 t2 t3 t4
        clear hy hR
        have HM : Hid (owAt ⟨r, s, b, m, q, cc, cw⟩ os (k + 1) = ahB y.g y.f xg xf) := by
          show _ = _
          rw [owAt_succ hlt, ← HX.out, HO.out, ← HY.out]; rfl
        have cY := fun u => ahead_any y xg xf u
        obtain ⟨C, hC⟩ : ∃ C, C = ahB y.g y.f xg xf := ⟨_, rfl⟩
        simp only [← hC] at cY
        rw [← hC] at HM
        clear hC HX HO HY
        obtain ⟨yg, yf, yl, ys, yp⟩ := y
        simp only at t0 t1 t2 t3 t4 cY
        have g0 : ∀ s : Later U, s.u.cell? ⟨eb, off + k * 5, none⟩ = some (.int .i64 yg) := fun s => s.fr.cell t0
        have g1 : ∀ s : Later U, s.u.cell? ⟨eb, off + k * 5 + 1, none⟩ = some (.int .i64 yf) := fun s => s.fr.cell t1
        have g2 : ∀ s : Later U, s.u.cell? ⟨eb, off + k * 5 + 2, none⟩ = some (.int .i64 yl) := fun s => s.fr.cell t2
        have g3 : ∀ s : Later U, s.u.cell? ⟨eb, off + k * 5 + 3, none⟩ = some (.int .i64 ys) := fun s => s.fr.cell t3
        have g4 : ∀ s : Later U, s.u.cell? ⟨eb, off + k * 5 + 4, none⟩ = some (.int .i64 yp) := fun s => s.fr.cell t4
        clear t0 t1 t2 t3 t4
        have hwk : IntKind.i64.wrap (((k + 1 : Nat) : Int) - 1) = (k : Int) := by rw [IntKind.wrap_i64]; omega
        have hpos : decide (((k + 1 : Nat) : Int) > 0) = true := decide_eq_true (by omega)
        cases C
        · have HF : Hid (R = false) := by
            show R = false
            rw [HR.out]
            exact rowO_no hlt HM.out
          clear HM
          refine wp_region_grown (by kernel_rfl) (by kernel_rfl) ?_
          repeat (go_big_quiet_step (first | with_reducible exact Calls.grown_same (c1 _) | with_reducible exact Calls.grown_same (c2 _) | with_reducible exact Calls.grown_of (c3 _) | with_reducible exact Calls.grown_of (cY _)))
          refine wpQuiet_nil ?_
          rintro _ ⟨s, rfl⟩
          go_wp2_with fail
          go_ret
          exact ⟨ret_bool HF.out.symm, f1.trans (fU.trans s.fr)⟩
        · refine wp_region_grown (by kernel_rfl) (by kernel_rfl) ?_
          repeat (go_big_quiet_step (first | with_reducible exact Calls.grown_same (c1 _) | with_reducible exact Calls.grown_same (c2 _) | with_reducible exact Calls.grown_of (c3 _) | with_reducible exact Calls.grown_of (cY _)))
          refine wpQuiet_nil ?_
          rintro _ ⟨s, rfl⟩
          go_wp2_with fail
          go_roundw
          case rel => exact ⟨k + 2, by omega, by go_num, rowO_next HA.out HM.out, fU.trans s.fr⟩
          case measure => simp [intOf]; omega
    · have HT : Hid (R = true) := by
        show R = true
        rw [HR.out]
        exact rowO_yes fun j hj => HA.out j (by omega)
      clear hR ak0 ak1 ak2 ak3 ak4 ak5 ak6
      go_wp2_with fail
      go_ret
      exact ⟨ret_bool HT.out.symm, f1.trans fV⟩
end Go.Proofs.Ytkfcchapfklpgaa
/-
  A region that draws its order, by an invariant over what has come up: one proof an operation serves every order.
-/
namespace Go.Proofs.Ytkfcchapfklpgaa
open Go.RowKit

/-- What has come up, and i. -/
def cameL (L : Nat → Bool) (i : Nat) : Nat → Bool := fun k => if k = i then true else L k

/-- The edges that bind go back. -/
def lexOkB (ops : Array Oper) : Bool := (List.range ops.size).all fun i => ((ops[i]?).map fun o => o.after.all fun e => !Region.binds .any e || decide (e.on < i)).getD true
theorem lexB_of {ops : Array Oper} (h : lexOkB ops = true) : ∀ (i : Nat) (o : Oper), ops[i]? = some o → ∀ e ∈ o.after, Region.binds .any e = true → e.on < i := by
  intro i o ho e he hb
  have hi := (Array.getElem?_eq_some_iff.1 ho).1
  have h1 := List.all_eq_true.1 h i (List.mem_range.2 hi)
  simp only [ho, Option.map_some, Option.getD_some, Array.all_eq_true_iff_forall_mem] at h1
  have h2 := h1 e he
  rw [hb] at h2
  simpa using h2

theorem wpAny_inv {P : Program} {ops : Array Oper} {Q : Exit → Act → World → Prop} (Inv : (Nat → Bool) → Act → World → Prop)
    (hlex : ∀ (i : Nat) (o : Oper), ops[i]? = some o → ∀ e ∈ o.after, Region.binds .any e = true → e.on < i)
    (step : ∀ (i : Nat) (o : Oper) L a u, ops[i]? = some o → Inv L a u → L i = false → (∀ e ∈ o.after, Region.binds .any e = true → L e.on = true) →
      Region.wanted o (yielded ops a.tmps) = true ∧ o.wp P a u (fun a' u' => Inv (cameL L i) a' u') Q)
    (done : ∀ L a u, Inv L a u → (∀ i, i < ops.size → L i = true) → Q .normal a u) :
    ∀ (fuel : Nat) (l : Array Bool) (a : Act) (u : World), l.size = ops.size → left ops.size l ≤ fuel → Inv (fun k => l.getD k false) a u → wpAny P .any ops Q fuel l a u := by
  have hnone : ∀ (l : Array Bool), l.size = ops.size → Region.ready .any ops l = [] → ∀ i, i < ops.size → l.getD i false = true := by
    intro l hl he
    have hmin : ∀ m, m ≤ ops.size → (∀ k, k < m → l.getD k false = true) := by
      intro m
      induction m with
      | zero => intro _ k hk; omega
      | succ m ih =>
        intro hm k hk
        by_cases hkm : k < m
        · exact ih (by omega) k hkm
        · have hk2 : k = m := by omega
          subst hk2
          cases hv : l.getD k false
          · exfalso
            have ho : ops[k]? = some ops[k] := Array.getElem?_eq_getElem (by omega)
            have : k ∈ Region.ready .any ops l := mem_ready.2 ⟨by
              rw [Array.getD_eq_getD_getElem?] at hv ⊢
              rw [Array.getElem?_eq_getElem (by omega)] at hv ⊢
              exact hv, _, ho, fun e he2 hb2 => ih (by omega) _ (hlex k _ ho e he2 hb2)⟩
            rw [he] at this
            cases this
          · rfl
    exact fun i hi => hmin ops.size (Nat.le_refl _) i hi
  intro fuel
  induction fuel with
  | zero =>
    intro l a u hl hf hI
    have hall : ∀ i, i < ops.size → l.getD i false = true := fun i hi => by
      cases hv : l.getD i false
      · have := left_pos (l := l) (n := ops.size) hi hv
        omega
      · rfl
    refine ⟨?_, done _ a u hI hall⟩
    cases hr : Region.ready .any ops l with
    | nil => rfl
    | cons i r =>
      exfalso
      have hm : i ∈ Region.ready .any ops l := by rw [hr]; exact List.mem_cons_self
      obtain ⟨q1, o, q2, -⟩ := mem_ready.1 hm
      have hi : i < ops.size := (Array.getElem?_eq_some_iff.1 q2).1
      have := hall i hi
      rw [Array.getD_eq_getD_getElem?] at this q1
      rw [Array.getElem?_eq_getElem (by omega)] at this q1
      simp at this q1
      rw [this] at q1
      cases q1
  | succ fuel ih =>
    intro l a u hl hf hI
    refine ⟨fun he => done _ a u hI (hnone l hl he), fun i hi => ?_⟩
    obtain ⟨q1, o, q2, q3⟩ := mem_ready.1 hi
    have hi2 : i < ops.size := (Array.getElem?_eq_some_iff.1 q2).1
    have hfi : l.getD i false = false := by
      rw [Array.getD_eq_getD_getElem?] at q1 ⊢
      rw [Array.getElem?_eq_getElem (by omega)] at q1 ⊢
      exact q1
    have hlt := left_put hl hi2 hfi
    obtain ⟨w1, w2⟩ := step i o _ a u q2 hI hfi q3
    unfold wpOp
    simp only [q2]
    rw [if_pos w1]
    refine .inl (Oper.wp_mono (fun a' u' hq => ih _ a' u' (by simpa using hl) (by omega) ?_) w2)
    have e : (fun k => (l.setIfInBounds i true).getD k false) = cameL (fun k => l.getD k false) i := funext fun k => getD_put (by omega)
    rw [e]
    exact hq
theorem wp_region_inv {P : Program} {ops : Array Oper} {Q : Exit → Act → World → Prop} {id : Nat} {a : Act} {w : World} (Inv : (Nat → Bool) → Act → World → Prop)
    (hm : P.follows .mixedOrders = true) (hlex : lexOkB ops = true) (h0 : Inv (fun _ => false) a w.drew)
    (step : ∀ (i : Nat) (o : Oper) L a u, ops[i]? = some o → Inv L a u → L i = false → (∀ e ∈ o.after, Region.binds .any e = true → L e.on = true) →
      Region.wanted o (yielded ops a.tmps) = true ∧ o.wp P a u (fun a' u' => Inv (cameL L i) a' u') Q)
    (done : ∀ L a u, Inv L a u → (∀ i, i < ops.size → L i = true) → Q .normal a u) : (Code.region id ops true).wp P Q a w := by
  refine wp_region_any hm (wpAny_inv Inv (lexB_of hlex) step done _ _ _ _ (by simp) ?_ ?_)
  · unfold left
    exact Nat.le_trans (List.length_filter_le _ _) (by simp)
  · have e : (fun k => (Array.replicate ops.size false).getD k false) = fun _ => false := funext fun k => by
      rw [Array.getD_eq_getD_getElem?, Array.getElem?_replicate]
      split <;> rfl
    rw [e]
    exact h0
end Go.Proofs.Ytkfcchapfklpgaa
