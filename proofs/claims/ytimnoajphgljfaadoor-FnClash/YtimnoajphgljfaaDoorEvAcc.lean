/-
  Accesses, and what covers a byte: of the program and of the specification.
-/
import Derived.Test.YtimnoajphgljfaaDoorEvOk
import Derived.Test.YtimnoajphgljfaaDoorEvSpec
namespace Go.Proofs.YtimnoajphgljfaaDoor
open Go.RowKit

/-- IsAccess, Covers. -/
def accB (e : Ev) : Bool := evOk e && (e.k == 20 || e.k == 21)
def covB (e : Ev) (x : Int) : Bool := evOk e && (e.k == 20 || e.k == 21 || e.k == 22) && decide (e.l ≤ x) && decide (x < e.l + e.s)

theorem has4 : hasB 20 4 = true ∧ hasB 21 4 = true ∧ hasB 22 4 = true := by decide +kernel
theorem has8 : hasB 20 8 = true ∧ hasB 21 8 = true ∧ hasB 22 8 = true := by decide +kernel

/-- Where an access or new bytes lie. -/
theorem ok_lies {e : Ev} (h : evOk e = true) (hk : e.k = 20 ∨ e.k = 21 ∨ e.k = 22) : 0 ≤ e.l ∧ e.l ≤ 65535 ∧ 1 ≤ e.s ∧ e.s ≤ 64 := by
  simp only [evOk, Bool.and_eq_true] at h
  obtain ⟨⟨⟨⟨-, h3⟩, h4⟩, -⟩, -⟩ := h
  unfold ev3 at h3
  unfold ev4 at h4
  rcases hk with hk | hk | hk <;> rw [hk] at h3 h4 <;> simp only [has4, has8, fitB, if_true] at h3 h4 <;> have a := inB_true h3 <;> have b := inB_true h4 <;> simp [loV, hiV] at b <;> omega
theorem acc_lies {e : Ev} (h : accB e = true) : 0 ≤ e.l ∧ e.l ≤ 65535 ∧ 1 ≤ e.s ∧ e.s ≤ 64 := by
  simp only [accB, Bool.and_eq_true, Bool.or_eq_true, beq_iff_eq] at h
  exact ok_lies h.1 (by omega)

set_option maxHeartbeats 1000000 in
theorem implAcc_any (e : Ev) (w : World) (hs : Shapes w) :
    Calls Tryd.prog 14 #[.agg #[.int .i64 e.k, .int .i64 e.g, .int .i64 e.o, .int .i64 e.w, .int .i64 e.l, .int .i64 e.s, .int .i64 e.f, .int .i64 e.t]] w fun x w' => x = .returned (.bool (accB e)) ∧ Fr w w' := by
  have c1 := fun w (h : Shapes w) => implOk_any e w h
  unfold accB
  obtain ⟨b, hb⟩ : ∃ b, b = evOk e := ⟨_, rfl⟩
  simp only [← hb] at c1 ⊢
  clear hb
  obtain ⟨k, g, o, wi, l, sz, f, t⟩ := e
  simp only at c1 ⊢
  cases b
  · go_enter Tryd.func14, Tryd.ntmps14
    go_wp2_with fail
    refine (c1 _ (hs.fr (Fr.alloc _ _))).mono ?_
    rintro e w1 ⟨rfl, f1⟩
    go_wp2_with fail
    go_ret
    exact ⟨rfl, (Fr.alloc _ _).trans f1⟩
  · have hk : k = 20 ∨ k = 21 ∨ (¬ k = 20 ∧ ¬ k = 21) := by omega
    go_enter Tryd.func14, Tryd.ntmps14
    go_wp2_with fail
    refine (c1 _ (hs.fr (Fr.alloc _ _))).mono ?_
    rintro e w1 ⟨rfl, f1⟩
    have d0 : w1.cell? ⟨w.heap.size, 0, none⟩ = some (.int .i64 k) := f1.cell (by go_simp)
    have fw : Fr w w1 := (Fr.alloc _ _).trans f1
    clear f1 c1 hs
    rcases hk with rfl | rfl | ⟨k1, k2⟩
    · go_wp2_with fail
      go_ret
      exact ⟨rfl, fw⟩
    · go_wp2_with fail
      go_ret
      exact ⟨rfl, fw⟩
    · go_wp2_with fail
      go_ret
      exact ⟨ret_bool (by simp), fw⟩

set_option maxHeartbeats 1000000 in
theorem specAcc_any (e : Ev) (w : World) :
    Calls Tryd.prog 20 #[.agg #[.int .i64 e.k, .int .i64 e.g, .int .i64 e.o, .int .i64 e.w, .int .i64 e.l, .int .i64 e.s, .int .i64 e.f, .int .i64 e.t]] w fun x w' => x = .returned (.bool (accB e)) ∧ Fr w w' := by
  have c1 := fun w => specOk_any e w
  unfold accB
  obtain ⟨b, hb⟩ : ∃ b, b = evOk e := ⟨_, rfl⟩
  simp only [← hb] at c1 ⊢
  clear hb
  obtain ⟨k, g, o, wi, l, sz, f, t⟩ := e
  simp only at c1 ⊢
  cases b
  · go_enter Tryd.func20, Tryd.ntmps20
    go_wp2_with fail
    refine (c1 _).mono ?_
    rintro e w1 ⟨rfl, f1⟩
    go_wp2_with fail
    go_ret
    exact ⟨rfl, (Fr.alloc _ _).trans f1⟩
  · have hk : k = 20 ∨ k = 21 ∨ (¬ k = 20 ∧ ¬ k = 21) := by omega
    go_enter Tryd.func20, Tryd.ntmps20
    go_wp2_with fail
    refine (c1 _).mono ?_
    rintro e w1 ⟨rfl, f1⟩
    have d0 : w1.cell? ⟨w.heap.size, 0, none⟩ = some (.int .i64 k) := f1.cell (by go_simp)
    have fw : Fr w w1 := (Fr.alloc _ _).trans f1
    clear f1 c1
    rcases hk with rfl | rfl | ⟨k1, k2⟩
    · go_wp2_with fail
      go_ret
      exact ⟨rfl, fw⟩
    · go_wp2_with fail
      go_ret
      exact ⟨rfl, fw⟩
    · go_wp2_with fail
      go_ret
      exact ⟨ret_bool (by simp), fw⟩
end Go.Proofs.YtimnoajphgljfaaDoor
