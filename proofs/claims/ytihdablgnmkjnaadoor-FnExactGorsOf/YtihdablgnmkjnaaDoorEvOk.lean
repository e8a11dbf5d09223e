/-
  The program's EventOk, over its table.
-/
import Derived.Test.YtihdablgnmkjnaaDoorEv
import Derived.Test.YtihdablgnmkjnaaDoorGrown
namespace Go.Proofs.YtihdablgnmkjnaaDoor
open Go.RowKit

/-- The program's table lies as its text lays it: a row of three for each Kind. -/
def Shapes (w : World) : Prop := ∀ n : Nat, n < 22 → w.cell? ⟨0, (n + 1) * 3, none⟩ = some (.int .i64 (fldN n)) ∧
  w.cell? ⟨0, (n + 1) * 3 + 1, none⟩ = some (.int .i64 (loV ((n : Int) + 1))) ∧ w.cell? ⟨0, (n + 1) * 3 + 2, none⟩ = some (.int .i64 (hiV ((n : Int) + 1)))

theorem Shapes.keep {w w' : World} {row : Option Nat} (h : Shapes w) (k : w.grownBy w' row) (hr : row ≠ some 0) : Shapes w' := fun n hn => by
  obtain ⟨h1, h2, h3⟩ := h n hn
  exact ⟨k.cell h1 (fun e => hr e.symm), k.cell h2 (fun e => hr e.symm), k.cell h3 (fun e => hr e.symm)⟩
theorem Shapes.fr {w w' : World} (h : Shapes w) (k : Fr w w') : Shapes w' := h.keep k (by simp)

set_option maxHeartbeats 2000000 in
theorem implOk_any (e : Ev) (w : World) (hs : Shapes w) :
    Calls Tryd.prog 13 #[.agg #[.int .i64 e.k, .int .i64 e.g, .int .i64 e.o, .int .i64 e.w, .int .i64 e.l, .int .i64 e.s, .int .i64 e.f, .int .i64 e.t]] w fun x w' => x = .returned (.bool (evOk e)) ∧ Fr w w' := by
  have ck := fun w => kindIn_any e.k w
  have cg := fun w => gorIn_any e.g w
  cases hk : inB 1 22 e.k
  · have hv : evOk e = false := by simp [evOk, hk]
    rw [hv]
    simp only [hk] at ck
    clear hv hk hs cg
    go_enter Tryd.func13, Tryd.ntmps13
    go_wp2_with fail
    refine (ck _).mono ?_
    rintro e w1 ⟨rfl, rfl⟩
    go_wp2_with fail
    go_ret
    exact ⟨rfl, Fr.alloc _ _⟩
  cases hg : inB 0 15 e.g
  · have hv : evOk e = false := by simp [evOk, hg]
    rw [hv]
    simp only [hk] at ck
    simp only [hg] at cg
    clear hv hk hs hg
    go_enter Tryd.func13, Tryd.ntmps13
    go_wp2_with fail
    refine (ck _).mono ?_
    rintro e w1 ⟨rfl, rfl⟩
    go_wp2_with fail
    refine (cg _).mono ?_
    rintro e w1 ⟨rfl, rfl⟩
    go_wp2_with fail
    go_ret
    exact ⟨rfl, Fr.alloc _ _⟩
  simp only [hk] at ck
  simp only [hg] at cg
  have hv : evOk e = (ev1 e && ev2 e && ev3 e && ev4 e && ev5 e && ev6 e) := by simp [evOk, hk, hg]
  rw [hv]
  clear hv
  obtain ⟨n, hn, hkn⟩ := kinds hk
  obtain ⟨h1, h2, h3⟩ := hs n hn
  have hw0 : 0 < w.heap.size := World.block_lt_of_cell? w _ h1
  obtain ⟨z, hz⟩ : ∃ z, z = fldN n := ⟨_, rfl⟩
  obtain ⟨lo, hlo⟩ : ∃ z, z = loV ((n : Int) + 1) := ⟨_, rfl⟩
  obtain ⟨hi, hhi⟩ : ∃ z, z = hiV ((n : Int) + 1) := ⟨_, rfl⟩
  rw [← hz] at h1
  rw [← hlo] at h2
  rw [← hhi] at h3
  obtain ⟨k, g, o, wi, l, sz, f, t⟩ := e
  simp only at hkn ck cg ⊢
  subst hkn
  have m := mask_has n hn
  rw [← hz] at m
  have c1 := fun w => fits_any z lo hi 1 o 0 15 _ (m 1 (by simp)) w
  have c2 := fun w => fits_any z lo hi 2 wi 0 15 _ (m 2 (by simp)) w
  have c3 := fun w => fits_any z lo hi 4 l 0 65535 _ (m 4 (by simp)) w
  have c4 := fun w => fits_any z lo hi 8 sz lo hi _ (m 8 (by simp)) w
  have c5 := fun w => fits_any z lo hi 16 f 0 999 _ (m 16 (by simp)) w
  have c6 := fun w => fits_any z lo hi 32 t 0 999 _ (m 32 (by simp)) w
  unfold ev1 ev2 ev3 ev4 ev5 ev6
  simp only
  rw [← hlo, ← hhi]
  obtain ⟨b1, e1⟩ : ∃ b, b = fitB (hasB ((n : Int) + 1) 1) o 0 15 := ⟨_, rfl⟩
  obtain ⟨b2, e2⟩ : ∃ b, b = fitB (hasB ((n : Int) + 1) 2) wi 0 15 := ⟨_, rfl⟩
  obtain ⟨b3, e3⟩ : ∃ b, b = fitB (hasB ((n : Int) + 1) 4) l 0 65535 := ⟨_, rfl⟩
  obtain ⟨b4, e4⟩ : ∃ b, b = fitB (hasB ((n : Int) + 1) 8) sz lo hi := ⟨_, rfl⟩
  obtain ⟨b5, e5⟩ : ∃ b, b = fitB (hasB ((n : Int) + 1) 16) f 0 999 := ⟨_, rfl⟩
  obtain ⟨b6, e6⟩ : ∃ b, b = fitB (hasB ((n : Int) + 1) 32) t 0 999 := ⟨_, rfl⟩
  simp only [← e1] at c1 ⊢
  simp only [← e2] at c2 ⊢
  simp only [← e3] at c3 ⊢
  simp only [← e4] at c4 ⊢
  simp only [← e5] at c5 ⊢
  simp only [← e6] at c6 ⊢
  clear e1 e2 e3 e4 e5 e6 m hz hlo hhi hs hk hg
  go_enter Tryd.func13, Tryd.ntmps13
  go_wp2_with fail
  refine (ck _).mono ?_
  rintro e w1 ⟨rfl, rfl⟩
  go_wp2_with fail
  refine (cg _).mono ?_
  rintro e w1 ⟨rfl, rfl⟩
  go_wp2_with fail
  obtain ⟨W, hW⟩ : ∃ W, W = (w.alloc (.cells #[.int .i64 ((n : Int) + 1), .int .i64 g, .int .i64 o, .int .i64 wi, .int .i64 l, .int .i64 sz, .int .i64 f, .int .i64 t] 26)).alloc (.cells #[.int .i64 z, .int .i64 lo, .int .i64 hi] 40) := ⟨_, rfl⟩
  rw [← hW]
  have fW : Fr w W := by rw [hW]; exact (Fr.alloc _ _).trans (Fr.alloc _ _)
  have d0 : ∀ s : Later W, s.u.cell? ⟨w.heap.size, 0, none⟩ = some (.int .i64 ((n : Int) + 1)) := fun s => s.fr.cell (by rw [hW]; go_simp)
  have d1 : ∀ s : Later W, s.u.cell? ⟨w.heap.size, 1, none⟩ = some (.int .i64 g) := fun s => s.fr.cell (by rw [hW]; go_simp)
  have d2 : ∀ s : Later W, s.u.cell? ⟨w.heap.size, 2, none⟩ = some (.int .i64 o) := fun s => s.fr.cell (by rw [hW]; go_simp)
  have d3 : ∀ s : Later W, s.u.cell? ⟨w.heap.size, 3, none⟩ = some (.int .i64 wi) := fun s => s.fr.cell (by rw [hW]; go_simp)
  have d4 : ∀ s : Later W, s.u.cell? ⟨w.heap.size, 4, none⟩ = some (.int .i64 l) := fun s => s.fr.cell (by rw [hW]; go_simp)
  have d5 : ∀ s : Later W, s.u.cell? ⟨w.heap.size, 5, none⟩ = some (.int .i64 sz) := fun s => s.fr.cell (by rw [hW]; go_simp)
  have d6 : ∀ s : Later W, s.u.cell? ⟨w.heap.size, 6, none⟩ = some (.int .i64 f) := fun s => s.fr.cell (by rw [hW]; go_simp)
  have d7 : ∀ s : Later W, s.u.cell? ⟨w.heap.size, 7, none⟩ = some (.int .i64 t) := fun s => s.fr.cell (by rw [hW]; go_simp)
  have q0 : ∀ s : Later W, s.u.cell? ⟨w.heap.size + 1, 0, none⟩ = some (.int .i64 z) := fun s => s.fr.cell (by rw [hW]; go_simp)
  have q1 : ∀ s : Later W, s.u.cell? ⟨w.heap.size + 1, 1, none⟩ = some (.int .i64 lo) := fun s => s.fr.cell (by rw [hW]; go_simp)
  have q2 : ∀ s : Later W, s.u.cell? ⟨w.heap.size + 1, 2, none⟩ = some (.int .i64 hi) := fun s => s.fr.cell (by rw [hW]; go_simp)
  clear hW h1 h2 h3 hw0 ck cg hn
  have := Later.some W
  have hb : b1 = false ∨ (b1 = true ∧ b2 = false) ∨ (b1 = true ∧ b2 = true ∧ b3 = false) ∨ (b1 = true ∧ b2 = true ∧ b3 = true ∧ b4 = false) ∨ (b1 = true ∧ b2 = true ∧ b3 = true ∧ b4 = true ∧ b5 = false) ∨ (b1 = true ∧ b2 = true ∧ b3 = true ∧ b4 = true ∧ b5 = true) := by
    cases b1 <;> cases b2 <;> cases b3 <;> cases b4 <;> cases b5 <;> simp
  refine wp_region_grown (by kernel_rfl) (by kernel_rfl) ?_
  rcases hb with rfl | ⟨rfl, rfl⟩ | ⟨rfl, rfl, rfl⟩ | ⟨rfl, rfl, rfl, rfl⟩ | ⟨rfl, rfl, rfl, rfl, rfl⟩ | ⟨rfl, rfl, rfl, rfl, rfl⟩
  all_goals
    repeat (go_big_quiet_step (first | with_reducible exact Calls.grown_of (c1 _) | with_reducible exact Calls.grown_of (c2 _) | with_reducible exact Calls.grown_of (c3 _) | with_reducible exact Calls.grown_of (c4 _) | with_reducible exact Calls.grown_of (c5 _) | with_reducible exact Calls.grown_of (c6 _) | with_reducible exact Calls.grown_same (mostObj_any _ _)))
    refine wpQuiet_nil ?_
    rintro _ ⟨s, rfl⟩
    go_wp2_with fail
    go_ret
    exact ⟨ret_bool (by simp), fW.trans s.fr⟩
end Go.Proofs.YtihdablgnmkjnaaDoor
