/-
  The program's questions on a board: who lacks a goroutine; what was done once.
-/
import Derived.Test.YtikjodbboljhjaaGreatDoorScBoard
import Derived.Test.YtikjodbboljhjaaGreatDoorScMod
import Derived.Test.YtikjodbboljhjaaGreatDoorEvTo
namespace Go.Proofs.YtikjodbboljhjaaGreatDoor
open Go.RowKit

def lacksB (g : Int) (e : Ev) : Bool := decide (g ≤ e.g) || (decide (e.k = 1) && decide (e.o ≠ g)) || (decide (e.k = 9) && (decide (g ≤ e.w) || decide (e.w = e.g)))

set_option maxHeartbeats 1000000 in
theorem lacksGor_any (b : Nat) (g : Int) (e : Ev) (w : World) (hb : w.cell? ⟨b, 0, none⟩ = some (.int .i64 g)) :
    Calls Tryz.prog 112 #[.pointer (some ⟨b, 0, none⟩), .agg #[.int .i64 e.k, .int .i64 e.g, .int .i64 e.o, .int .i64 e.w, .int .i64 e.l, .int .i64 e.s, .int .i64 e.f, .int .i64 e.t]] w fun x w' => x = .returned (.bool (lacksB g e)) ∧ Fr w w' := by
  have fW := Fr.alloc w (.cells #[.int .i64 e.k, .int .i64 e.g, .int .i64 e.o, .int .i64 e.w, .int .i64 e.l, .int .i64 e.s, .int .i64 e.f, .int .i64 e.t] 31)
  have kE := EvAt.new w e 31
  have hb := fW.cell hb
  obtain ⟨R, hR⟩ : ∃ R, R = lacksB g e := ⟨_, rfl⟩
  rw [← hR]
  have HR : Hid (R = lacksB g e) := hR
  clear hR
  obtain ⟨k, gr, o, wi, l, sz, f, t⟩ := e
  simp only at fW kE hb ⊢
  go_enter Tryz.func112, Tryz.ntmps112
  go_wp2_with fail
  obtain ⟨W, hW⟩ : ∃ W, W = w.alloc (.cells #[.int .i64 k, .int .i64 gr, .int .i64 o, .int .i64 wi, .int .i64 l, .int .i64 sz, .int .i64 f, .int .i64 t] 31) := ⟨_, rfl⟩
  rw [← hW] at fW kE hb ⊢
  clear hW
  obtain ⟨c0, c1, c2, c3, c4, c5, c6, c7⟩ := kE
  simp only at c0 c1 c2 c3
  clear c4 c5 c6 c7
  go_region_held3 (fun u => u.cell? ⟨b, 0, none⟩ = some (.int .i64 g) ∧ u.cell? ⟨w.heap.size, 0, none⟩ = some (.int .i64 k) ∧ u.cell? ⟨w.heap.size, 1, none⟩ = some (.int .i64 gr) ∧ u.cell? ⟨w.heap.size, 2, none⟩ = some (.int .i64 o) ∧ u.cell? ⟨w.heap.size, 3, none⟩ = some (.int .i64 wi)) (go_keep) (fail)
  obtain ⟨V, hV⟩ : ∃ V, V = W.drew := ⟨_, rfl⟩
  have fV : Fr w V := by rw [hV]; exact fW.trans (Fr.drew W)
  have kE : V.cell? ⟨b, 0, none⟩ = some (.int .i64 g) ∧ V.cell? ⟨w.heap.size, 0, none⟩ = some (.int .i64 k) ∧ V.cell? ⟨w.heap.size, 1, none⟩ = some (.int .i64 gr) ∧ V.cell? ⟨w.heap.size, 2, none⟩ = some (.int .i64 o) ∧ V.cell? ⟨w.heap.size, 3, none⟩ = some (.int .i64 wi) := by rw [hV]; exact ⟨hb, c0, c1, c2, c3⟩
  rw [← hV]
  clear hV fW hb c0 c1 c2 c3
  obtain ⟨hb, c0, c1, c2, c3⟩ := kE
  by_cases h1 : g ≤ gr
  · have HN : Hid (R = true) := by show R = true; rw [HR.out]; simp [lacksB, h1]
    go_wp2_with fail
    go_ret
    exact ⟨ret_bool HN.out.symm, fV⟩
  · by_cases h2 : k = 1
    · subst h2
      by_cases h3 : o = g
      · have HN : Hid (R = false) := by show R = false; rw [HR.out]; simp [lacksB, h1, h3]
        have hq : (o != g) = false := by simp [h3]
        have h3 : Hid (o = g) := h3
        go_wp2_with fail
        go_region_held3 (fun u => u.cell? ⟨b, 0, none⟩ = some (.int .i64 g) ∧ u.cell? ⟨w.heap.size, 0, none⟩ = some (.int .i64 1) ∧ u.cell? ⟨w.heap.size, 1, none⟩ = some (.int .i64 gr) ∧ u.cell? ⟨w.heap.size, 2, none⟩ = some (.int .i64 o) ∧ u.cell? ⟨w.heap.size, 3, none⟩ = some (.int .i64 wi)) (go_keep) (fail)
        go_wp2_with fail
        go_ret
        exact ⟨ret_bool HN.out.symm, fV.trans (Fr.drew V)⟩
      · have HN : Hid (R = true) := by show R = true; rw [HR.out]; simp [lacksB, h1, h3]
        have hq : (o != g) = true := by simp [h3]
        go_wp2_with fail
        go_region_held3 (fun u => u.cell? ⟨b, 0, none⟩ = some (.int .i64 g) ∧ u.cell? ⟨w.heap.size, 0, none⟩ = some (.int .i64 1) ∧ u.cell? ⟨w.heap.size, 1, none⟩ = some (.int .i64 gr) ∧ u.cell? ⟨w.heap.size, 2, none⟩ = some (.int .i64 o) ∧ u.cell? ⟨w.heap.size, 3, none⟩ = some (.int .i64 wi)) (go_keep) (fail)
        go_wp2_with fail
        go_ret
        exact ⟨ret_bool HN.out.symm, fV.trans (Fr.drew V)⟩
    · by_cases h3 : k = 9
      · subst h3
        have := Later.some V
        have q0 : ∀ s : Later V, s.u.cell? ⟨b, 0, none⟩ = some (.int .i64 g) := fun s => s.fr.cell hb
        have q1 : ∀ s : Later V, s.u.cell? ⟨w.heap.size, 1, none⟩ = some (.int .i64 gr) := fun s => s.fr.cell c1
        have q3 : ∀ s : Later V, s.u.cell? ⟨w.heap.size, 3, none⟩ = some (.int .i64 wi) := fun s => s.fr.cell c3
        by_cases h4 : g ≤ wi
        · have HN : Hid (R = true) := by show R = true; rw [HR.out]; simp [lacksB, h4]
          go_wp2_with fail
          refine wp_region_grown (by kernel_rfl) (by kernel_rfl) ?_
          repeat (go_big_quiet_step (fail))
          refine wpQuiet_nil ?_
          rintro _ ⟨s, rfl⟩
          go_wp2_with fail
          go_ret
          exact ⟨ret_bool HN.out.symm, fV.trans s.fr⟩
        · by_cases h5 : wi = gr
          · have HN : Hid (R = true) := by show R = true; rw [HR.out]; simp [lacksB, h5]
            subst h5
            have hd : decide (g ≤ wi) = false := by simpa using h4
            go_wp2_with fail
            refine wp_region_grown (by kernel_rfl) (by kernel_rfl) ?_
            repeat (go_big_quiet_step (fail))
            refine wpQuiet_nil ?_
            rintro _ ⟨s, rfl⟩
            go_wp2_with fail
            go_ret
            exact ⟨ret_bool HN.out.symm, fV.trans s.fr⟩
          · have HN : Hid (R = false) := by show R = false; rw [HR.out]; simp [lacksB, h1, h4, h5]
            have hd : decide (g ≤ wi) = false := by simpa using h4
            go_wp2_with fail
            refine wp_region_grown (by kernel_rfl) (by kernel_rfl) ?_
            repeat (go_big_quiet_step (fail))
            refine wpQuiet_nil ?_
            rintro _ ⟨s, rfl⟩
            go_wp2_with fail
            go_ret
            exact ⟨ret_bool ((show (wi == gr) = false by simpa using h5).trans HN.out.symm), fV.trans s.fr⟩
      · have HN : Hid (R = false) := by show R = false; rw [HR.out]; simp [lacksB, h1, h2, h3]
        go_wp2_with fail
        go_ret
        exact ⟨ret_bool HN.out.symm, fV⟩
end Go.Proofs.YtikjodbboljhjaaGreatDoor
