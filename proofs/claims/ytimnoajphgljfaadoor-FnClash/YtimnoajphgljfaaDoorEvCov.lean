/-
  What covers a byte: of the program and of the specification.
-/
import Derived.Test.YtimnoajphgljfaaDoorEvAcc
namespace Go.Proofs.YtimnoajphgljfaaDoor
open Go.RowKit

/-- The ways of Covers. -/
theorem cov_ways (e : Ev) (x : Int) :
    (evOk e = false ∧ accB e = false ∧ covB e x = false) ∨
    (evOk e = true ∧ accB e = true ∧ (e.k = 20 ∨ e.k = 21) ∧ 0 ≤ e.l ∧ e.l ≤ 65535 ∧ 1 ≤ e.s ∧ e.s ≤ 64 ∧ covB e x = (decide (e.l ≤ x) && decide (x < e.l + e.s))) ∨
    (evOk e = true ∧ accB e = false ∧ e.k = 22 ∧ 0 ≤ e.l ∧ e.l ≤ 65535 ∧ 1 ≤ e.s ∧ e.s ≤ 64 ∧ covB e x = (decide (e.l ≤ x) && decide (x < e.l + e.s))) ∨
    (evOk e = true ∧ accB e = false ∧ ¬ e.k = 20 ∧ ¬ e.k = 21 ∧ ¬ e.k = 22 ∧ covB e x = false) := by
  cases h : evOk e
  · left; simp [accB, covB, h]
  · right
    have hl := ok_lies h
    by_cases k1 : e.k = 20
    · left
      obtain ⟨a, b, c, d⟩ := hl (.inl k1)
      simp [accB, covB, h, k1, a, b, c, d]
    by_cases k2 : e.k = 21
    · left
      obtain ⟨a, b, c, d⟩ := hl (.inr (.inl k2))
      simp [accB, covB, h, k2, a, b, c, d]
    right
    by_cases k3 : e.k = 22
    · left
      obtain ⟨a, b, c, d⟩ := hl (.inr (.inr k3))
      simp [accB, covB, h, k3, a, b, c, d]
    · right
      simp [accB, covB, h, k1, k2, k3]

theorem cov_in {l x : Int} (h : l ≤ x) (b : Bool) : b = (decide (l ≤ x) && b) := by simp [h]
theorem cov_out {l x : Int} (h : x < l) (b : Bool) : false = (decide (l ≤ x) && b) := by simp; omega

set_option maxHeartbeats 1000000 in
theorem implCov_any (e : Ev) (x : Int) (w : World) (hs : Shapes w) :
    Calls Tryd.prog 13 #[.agg #[.int .i64 e.k, .int .i64 e.g, .int .i64 e.o, .int .i64 e.w, .int .i64 e.l, .int .i64 e.s, .int .i64 e.f, .int .i64 e.t], .int .i64 x] w fun y w' => y = .returned (.bool (covB e x)) ∧ Fr w w' := by
  have c1 := fun w (h : Shapes w) => implAcc_any e w h
  have c2 := fun w (h : Shapes w) => implOk_any e w h
  rcases cov_ways e x with ⟨h1, h2, h3⟩ | ⟨h1, h2, hk, l0, l1, s0, s1, h3⟩ | ⟨h1, h2, hk, l0, l1, s0, s1, h3⟩ | ⟨h1, h2, k1, k2, k3, h3⟩
  all_goals
    rw [h3]
    simp only [h2] at c1
    simp only [h1] at c2
    clear h1 h2 h3
    obtain ⟨k, g, o, wi, l, sz, f, t⟩ := e
    simp only at *
  · go_enter Tryd.func13, Tryd.ntmps13
    go_wp2_with fail
    refine (c1 _ (hs.fr (Fr.alloc _ _))).mono ?_
    rintro e w1 ⟨rfl, f1⟩
    have fw : Fr w w1 := (Fr.alloc _ _).trans f1
    have d0 : w1.cell? ⟨w.heap.size, 0, none⟩ = some (.int .i64 k) := f1.cell (by go_simp)
    have d1 : w1.cell? ⟨w.heap.size, 1, none⟩ = some (.int .i64 g) := f1.cell (by go_simp)
    have d2 : w1.cell? ⟨w.heap.size, 2, none⟩ = some (.int .i64 o) := f1.cell (by go_simp)
    have d3 : w1.cell? ⟨w.heap.size, 3, none⟩ = some (.int .i64 wi) := f1.cell (by go_simp)
    have d4 : w1.cell? ⟨w.heap.size, 4, none⟩ = some (.int .i64 l) := f1.cell (by go_simp)
    have d5 : w1.cell? ⟨w.heap.size, 5, none⟩ = some (.int .i64 sz) := f1.cell (by go_simp)
    have d6 : w1.cell? ⟨w.heap.size, 6, none⟩ = some (.int .i64 f) := f1.cell (by go_simp)
    have d7 : w1.cell? ⟨w.heap.size, 7, none⟩ = some (.int .i64 t) := f1.cell (by go_simp)
    clear f1
    go_wp2_with fail
    refine (c2 _ (hs.fr fw)).mono ?_
    rintro e w2 ⟨rfl, f2⟩
    go_wp2_with fail
    go_ret
    exact ⟨rfl, fw.trans f2⟩
  · by_cases hl : l ≤ x
    · go_enter Tryd.func13, Tryd.ntmps13
      go_wp2_with fail
      refine (c1 _ (hs.fr (Fr.alloc _ _))).mono ?_
      rintro e w1 ⟨rfl, f1⟩
      have fw : Fr w w1 := (Fr.alloc _ _).trans f1
      have d4 : w1.cell? ⟨w.heap.size, 4, none⟩ = some (.int .i64 l) := f1.cell (by go_simp)
      have d5 : w1.cell? ⟨w.heap.size, 5, none⟩ = some (.int .i64 sz) := f1.cell (by go_simp)
      clear f1 hk c1 c2
      go_wp2_with fail
      go_ret
      first | exact ⟨ret_bool (cov_in hl _), fw⟩ | exact ⟨ret_bool (cov_out hl _), fw⟩
    · go_enter Tryd.func13, Tryd.ntmps13
      go_wp2_with fail
      refine (c1 _ (hs.fr (Fr.alloc _ _))).mono ?_
      rintro e w1 ⟨rfl, f1⟩
      have fw : Fr w w1 := (Fr.alloc _ _).trans f1
      have d4 : w1.cell? ⟨w.heap.size, 4, none⟩ = some (.int .i64 l) := f1.cell (by go_simp)
      clear f1 hk c1 c2
      go_wp2_with fail
      go_ret
      first | exact ⟨ret_bool (cov_in hl _), fw⟩ | exact ⟨ret_bool (cov_out hl _), fw⟩
  · subst hk
    by_cases hl : l ≤ x
    all_goals
      go_enter Tryd.func13, Tryd.ntmps13
      go_wp2_with fail
      refine (c1 _ (hs.fr (Fr.alloc _ _))).mono ?_
      rintro e w1 ⟨rfl, f1⟩
      have fw : Fr w w1 := (Fr.alloc _ _).trans f1
      have d0 : w1.cell? ⟨w.heap.size, 0, none⟩ = some (.int .i64 22) := f1.cell (by go_simp)
      have d1 : w1.cell? ⟨w.heap.size, 1, none⟩ = some (.int .i64 g) := f1.cell (by go_simp)
      have d2 : w1.cell? ⟨w.heap.size, 2, none⟩ = some (.int .i64 o) := f1.cell (by go_simp)
      have d3 : w1.cell? ⟨w.heap.size, 3, none⟩ = some (.int .i64 wi) := f1.cell (by go_simp)
      have d4 : w1.cell? ⟨w.heap.size, 4, none⟩ = some (.int .i64 l) := f1.cell (by go_simp)
      have d5 : w1.cell? ⟨w.heap.size, 5, none⟩ = some (.int .i64 sz) := f1.cell (by go_simp)
      have d6 : w1.cell? ⟨w.heap.size, 6, none⟩ = some (.int .i64 f) := f1.cell (by go_simp)
      have d7 : w1.cell? ⟨w.heap.size, 7, none⟩ = some (.int .i64 t) := f1.cell (by go_simp)
      clear f1
      go_wp2_with fail
      refine (c2 _ (hs.fr fw)).mono ?_
      rintro e w2 ⟨rfl, f2⟩
      have i0 := f2.cell d0
      have i4 := f2.cell d4
      have i5 := f2.cell d5
      have fz := fw.trans f2
      clear d0 d1 d2 d3 d4 d5 d6 d7 f2 c1 c2 hs
      go_wp2_with fail
      go_ret
      first | exact ⟨ret_bool (cov_in hl _), fz⟩ | exact ⟨ret_bool (cov_out hl _), fz⟩
  · go_enter Tryd.func13, Tryd.ntmps13
    go_wp2_with fail
    refine (c1 _ (hs.fr (Fr.alloc _ _))).mono ?_
    rintro e w1 ⟨rfl, f1⟩
    have fw : Fr w w1 := (Fr.alloc _ _).trans f1
    have d0 : w1.cell? ⟨w.heap.size, 0, none⟩ = some (.int .i64 k) := f1.cell (by go_simp)
    have d1 : w1.cell? ⟨w.heap.size, 1, none⟩ = some (.int .i64 g) := f1.cell (by go_simp)
    have d2 : w1.cell? ⟨w.heap.size, 2, none⟩ = some (.int .i64 o) := f1.cell (by go_simp)
    have d3 : w1.cell? ⟨w.heap.size, 3, none⟩ = some (.int .i64 wi) := f1.cell (by go_simp)
    have d4 : w1.cell? ⟨w.heap.size, 4, none⟩ = some (.int .i64 l) := f1.cell (by go_simp)
    have d5 : w1.cell? ⟨w.heap.size, 5, none⟩ = some (.int .i64 sz) := f1.cell (by go_simp)
    have d6 : w1.cell? ⟨w.heap.size, 6, none⟩ = some (.int .i64 f) := f1.cell (by go_simp)
    have d7 : w1.cell? ⟨w.heap.size, 7, none⟩ = some (.int .i64 t) := f1.cell (by go_simp)
    clear f1
    go_wp2_with fail
    refine (c2 _ (hs.fr fw)).mono ?_
    rintro e w2 ⟨rfl, f2⟩
    have i0 := f2.cell d0
    have fz := fw.trans f2
    clear d0 d1 d2 d3 d4 d5 d6 d7 f2 c1 c2 hs
    go_wp2_with fail
    go_ret
    exact ⟨rfl, fz⟩

set_option maxHeartbeats 1000000 in
theorem specCov_any (e : Ev) (x : Int) (w : World) :
    Calls Tryd.prog 21 #[.agg #[.int .i64 e.k, .int .i64 e.g, .int .i64 e.o, .int .i64 e.w, .int .i64 e.l, .int .i64 e.s, .int .i64 e.f, .int .i64 e.t], .int .i64 x] w fun y w' => y = .returned (.bool (covB e x)) ∧ Fr w w' := by
  have c2 := fun w => specOk_any e w
  have ways := cov_ways e x
  have hk4 : (evOk e = false ∧ covB e x = false) ∨
    (evOk e = true ∧ (e.k = 20 ∨ e.k = 21 ∨ e.k = 22) ∧ 0 ≤ e.l ∧ e.l ≤ 65535 ∧ 1 ≤ e.s ∧ e.s ≤ 64 ∧ covB e x = (decide (e.l ≤ x) && decide (x < e.l + e.s))) ∨
    (evOk e = true ∧ ¬ e.k = 20 ∧ ¬ e.k = 21 ∧ ¬ e.k = 22 ∧ covB e x = false) := by
    rcases ways with ⟨h1, h2, h3⟩ | ⟨h1, h2, hk, l0, l1, s0, s1, h3⟩ | ⟨h1, h2, hk, l0, l1, s0, s1, h3⟩ | ⟨h1, h2, k1, k2, k3, h3⟩
    · exact .inl ⟨h1, h3⟩
    · exact .inr (.inl ⟨h1, by omega, l0, l1, s0, s1, h3⟩)
    · exact .inr (.inl ⟨h1, by omega, l0, l1, s0, s1, h3⟩)
    · exact .inr (.inr ⟨h1, k1, k2, k3, h3⟩)
  clear ways
  rcases hk4 with ⟨h1, h3⟩ | ⟨h1, hk, l0, l1, s0, s1, h3⟩ | ⟨h1, k1, k2, k3, h3⟩
  all_goals
    rw [h3]
    simp only [h1] at c2
    clear h1 h3
    obtain ⟨k, g, o, wi, l, sz, f, t⟩ := e
    simp only at *
  · go_enter Tryd.func21, Tryd.ntmps21
    go_wp2_with fail
    refine (c2 _).mono ?_
    rintro e w1 ⟨rfl, f1⟩
    go_wp2_with fail
    go_ret
    exact ⟨rfl, (Fr.alloc _ _).trans f1⟩
  · by_cases hl : l ≤ x
    all_goals
      rcases hk with rfl | rfl | rfl
      all_goals
        go_enter Tryd.func21, Tryd.ntmps21
        go_wp2_with fail
        refine (c2 _).mono ?_
        rintro e w1 ⟨rfl, f1⟩
        have fw : Fr w w1 := (Fr.alloc _ _).trans f1
        have d0 := f1.cell (p := ⟨w.heap.size, 0, none⟩) (by go_simp; rfl)
        have d4 : w1.cell? ⟨w.heap.size, 4, none⟩ = some (.int .i64 l) := f1.cell (by go_simp)
        have d5 : w1.cell? ⟨w.heap.size, 5, none⟩ = some (.int .i64 sz) := f1.cell (by go_simp)
        clear f1 c2
        go_wp2_with fail
        go_ret
        first | exact ⟨ret_bool (cov_in hl _), fw⟩ | exact ⟨ret_bool (cov_out hl _), fw⟩
  · go_enter Tryd.func21, Tryd.ntmps21
    go_wp2_with fail
    refine (c2 _).mono ?_
    rintro e w1 ⟨rfl, f1⟩
    have fw : Fr w w1 := (Fr.alloc _ _).trans f1
    have d0 : w1.cell? ⟨w.heap.size, 0, none⟩ = some (.int .i64 k) := f1.cell (by go_simp)
    clear f1 c2
    go_wp2_with fail
    go_ret
    exact ⟨rfl, fw⟩
end Go.Proofs.YtimnoajphgljfaaDoor
