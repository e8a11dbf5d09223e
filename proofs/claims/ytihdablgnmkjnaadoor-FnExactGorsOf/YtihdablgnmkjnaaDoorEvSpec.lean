/-
  The specification's EventOk.
-/
import Derived.Test.YtihdablgnmkjnaaDoorEv2
import Derived.Test.YtihdablgnmkjnaaDoorGrown
namespace Go.Proofs.YtihdablgnmkjnaaDoor
open Go.RowKit

set_option maxHeartbeats 2000000 in
theorem specOk_any (e : Ev) (w : World) :
    Calls Tryd.prog 10 #[.agg #[.int .i64 e.k, .int .i64 e.g, .int .i64 e.o, .int .i64 e.w, .int .i64 e.l, .int .i64 e.s, .int .i64 e.f, .int .i64 e.t]] w fun x w' => x = .returned (.bool (evOk e)) ∧ Fr w w' := by
  have ck := fun w => specFields_any e.k w
  have cg := fun w => l2Gor_any e.g w
  cases hk : inB 1 22 e.k
  · have hv : evOk e = false := by simp [evOk, hk]
    have hf : fldV e.k = -1 := by rw [fldV, hk]; rfl
    rw [hv]
    simp only [hf] at ck
    clear hv hk hf cg
    go_enter Tryd.func10, Tryd.ntmps10
    go_wp2_with fail
    refine (ck _).mono ?_
    rintro e w1 ⟨rfl, f1⟩
    go_wp2_with fail
    go_ret
    exact ⟨rfl, (Fr.alloc _ _).trans f1⟩
  have hz : 0 ≤ fldV e.k := by
    obtain ⟨n, hn, hkn⟩ := kinds hk
    rw [hkn, fldV_at n hn]
    exact (fldN_in n).1
  obtain ⟨z, ez⟩ : ∃ z, z = fldV e.k := ⟨_, rfl⟩
  rw [← ez] at hz
  simp only [← ez] at ck
  clear ez
  cases hg : inB 0 15 e.g
  · have hv : evOk e = false := by simp [evOk, hg]
    rw [hv]
    simp only [hg] at cg
    clear hv hk hg
    obtain ⟨k, g, o, wi, l, sz, f, t⟩ := e
    simp only at ck cg ⊢
    go_enter Tryd.func10, Tryd.ntmps10
    go_wp2_with fail
    refine (ck _).mono ?_
    rintro e w1 ⟨rfl, f1⟩
    have d1 : w1.cell? ⟨w.heap.size, 1, none⟩ = some (.int .i64 g) := f1.cell (by go_simp)
    go_wp2_with fail
    refine (cg _).mono ?_
    rintro e w1 ⟨rfl, rfl⟩
    go_wp2_with fail
    go_ret
    exact ⟨rfl, (Fr.alloc _ _).trans f1⟩
  simp only [hg] at cg
  have hv : evOk e = (ev1 e && ev2 e && ev3 e && ev4 e && ev5 e && ev6 e) := by simp [evOk, hk, hg]
  rw [hv]
  clear hv hk hg
  obtain ⟨k, g, o, wi, l, sz, f, t⟩ := e
  simp only at ck cg ⊢
  have cs := fun w => l2Sizes_any k w
  have t1 := fun w => l2Has_any k 1 w (by simp)
  have t2 := fun w => l2Has_any k 2 w (by simp)
  have t3 := fun w => l2Has_any k 4 w (by simp)
  have t4 := fun w => l2Has_any k 8 w (by simp)
  have t5 := fun w => l2Has_any k 16 w (by simp)
  have t6 := fun w => l2Has_any k 32 w (by simp)
  unfold ev1 ev2 ev3 ev4 ev5 ev6
  simp only
  obtain ⟨lo, hlo⟩ : ∃ z, z = loV k := ⟨_, rfl⟩
  obtain ⟨hi, hhi⟩ : ∃ z, z = hiV k := ⟨_, rfl⟩
  simp only [← hlo, ← hhi] at cs ⊢
  obtain ⟨p1, y1⟩ : ∃ b, b = hasB k 1 := ⟨_, rfl⟩
  obtain ⟨p2, y2⟩ : ∃ b, b = hasB k 2 := ⟨_, rfl⟩
  obtain ⟨p3, y3⟩ : ∃ b, b = hasB k 4 := ⟨_, rfl⟩
  obtain ⟨p4, y4⟩ : ∃ b, b = hasB k 8 := ⟨_, rfl⟩
  obtain ⟨p5, y5⟩ : ∃ b, b = hasB k 16 := ⟨_, rfl⟩
  obtain ⟨p6, y6⟩ : ∃ b, b = hasB k 32 := ⟨_, rfl⟩
  simp only [← y1] at t1 ⊢
  simp only [← y2] at t2 ⊢
  simp only [← y3] at t3 ⊢
  simp only [← y4] at t4 ⊢
  simp only [← y5] at t5 ⊢
  simp only [← y6] at t6 ⊢
  clear y1 y2 y3 y4 y5 y6 hlo hhi
  have c1 := fun w => l2Field_any p1 o 0 15 w
  have c2 := fun w => l2Field_any p2 wi 0 15 w
  have c3 := fun w => l2Field_any p3 l 0 65535 w
  have c4 := fun w => l2Field_any p4 sz lo hi w
  have c5 := fun w => l2Field_any p5 f 0 999 w
  have c6 := fun w => l2Field_any p6 t 0 999 w
  obtain ⟨b1, e1⟩ : ∃ b, b = fitB p1 o 0 15 := ⟨_, rfl⟩
  obtain ⟨b2, e2⟩ : ∃ b, b = fitB p2 wi 0 15 := ⟨_, rfl⟩
  obtain ⟨b3, e3⟩ : ∃ b, b = fitB p3 l 0 65535 := ⟨_, rfl⟩
  obtain ⟨b4, e4⟩ : ∃ b, b = fitB p4 sz lo hi := ⟨_, rfl⟩
  obtain ⟨b5, e5⟩ : ∃ b, b = fitB p5 f 0 999 := ⟨_, rfl⟩
  obtain ⟨b6, e6⟩ : ∃ b, b = fitB p6 t 0 999 := ⟨_, rfl⟩
  simp only [← e1] at c1 ⊢
  simp only [← e2] at c2 ⊢
  simp only [← e3] at c3 ⊢
  simp only [← e4] at c4 ⊢
  simp only [← e5] at c5 ⊢
  simp only [← e6] at c6 ⊢
  clear e1 e2 e3 e4 e5 e6
  have hk1 : k = 1 ∨ ¬ k = 1 := by omega
  go_enter Tryd.func10, Tryd.ntmps10
  go_wp2_with fail
  refine (ck _).mono ?_
  rintro e W ⟨rfl, f1⟩
  have fW : Fr w W := (Fr.alloc _ _).trans f1
  have i0 : W.cell? ⟨w.heap.size, 0, none⟩ = some (.int .i64 k) := f1.cell (by go_simp)
  have i1 : W.cell? ⟨w.heap.size, 1, none⟩ = some (.int .i64 g) := f1.cell (by go_simp)
  have d0 : ∀ s : Later W, s.u.cell? ⟨w.heap.size, 0, none⟩ = some (.int .i64 k) := fun s => s.fr.cell (f1.cell (by go_simp))
  have d2 : ∀ s : Later W, s.u.cell? ⟨w.heap.size, 2, none⟩ = some (.int .i64 o) := fun s => s.fr.cell (f1.cell (by go_simp))
  have d3 : ∀ s : Later W, s.u.cell? ⟨w.heap.size, 3, none⟩ = some (.int .i64 wi) := fun s => s.fr.cell (f1.cell (by go_simp))
  have d4 : ∀ s : Later W, s.u.cell? ⟨w.heap.size, 4, none⟩ = some (.int .i64 l) := fun s => s.fr.cell (f1.cell (by go_simp))
  have d5 : ∀ s : Later W, s.u.cell? ⟨w.heap.size, 5, none⟩ = some (.int .i64 sz) := fun s => s.fr.cell (f1.cell (by go_simp))
  have d6 : ∀ s : Later W, s.u.cell? ⟨w.heap.size, 6, none⟩ = some (.int .i64 f) := fun s => s.fr.cell (f1.cell (by go_simp))
  have d7 : ∀ s : Later W, s.u.cell? ⟨w.heap.size, 7, none⟩ = some (.int .i64 t) := fun s => s.fr.cell (f1.cell (by go_simp))
  clear f1
  go_wp2_with fail
  refine (cg _).mono ?_
  rintro e w1 ⟨rfl, rfl⟩
  have := Later.some w1
  have hb : b1 = false ∨ (b1 = true ∧ b2 = false) ∨ (b1 = true ∧ b2 = true ∧ b3 = false) ∨ (b1 = true ∧ b2 = true ∧ b3 = true ∧ b4 = false) ∨ (b1 = true ∧ b2 = true ∧ b3 = true ∧ b4 = true ∧ b5 = false) ∨ (b1 = true ∧ b2 = true ∧ b3 = true ∧ b4 = true ∧ b5 = true) := by
    cases b1 <;> cases b2 <;> cases b3 <;> cases b4 <;> cases b5 <;> simp
  rcases hk1 with rfl | hk1
  all_goals
    go_wp2_with fail
    refine (cs _).mono ?_
    rintro e w2 ⟨rfl, rfl⟩
    go_wp2_with fail
    refine wp_region_grown (by kernel_rfl) (by kernel_rfl) ?_
    clear i0 i1 ck cg cs
    rcases hb with rfl | ⟨rfl, rfl⟩ | ⟨rfl, rfl, rfl⟩ | ⟨rfl, rfl, rfl, rfl⟩ | ⟨rfl, rfl, rfl, rfl, rfl⟩ | ⟨rfl, rfl, rfl, rfl, rfl⟩
    all_goals
      repeat (go_big_quiet_step (first | with_reducible exact Calls.grown_of (t1 _) | with_reducible exact Calls.grown_of (t2 _) | with_reducible exact Calls.grown_of (t3 _) | with_reducible exact Calls.grown_of (t4 _) | with_reducible exact Calls.grown_of (t5 _) | with_reducible exact Calls.grown_of (t6 _) | with_reducible exact Calls.grown_same (c1 _) | with_reducible exact Calls.grown_same (c2 _) | with_reducible exact Calls.grown_same (c3 _) | with_reducible exact Calls.grown_same (c4 _) | with_reducible exact Calls.grown_same (c5 _) | with_reducible exact Calls.grown_same (c6 _)))
      refine wpQuiet_nil ?_
      rintro _ ⟨s, rfl⟩
      go_wp2_with fail
      go_ret
      exact ⟨ret_bool (by simp), fW.trans s.fr⟩
end Go.Proofs.YtihdablgnmkjnaaDoor
