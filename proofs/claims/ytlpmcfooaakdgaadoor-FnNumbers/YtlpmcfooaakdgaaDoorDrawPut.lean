/-
  What is drawn for the law on numbers: one number, whatever it is.
-/
import Derived.Test.YtlpmcfooaakdgaaDoorDrawNew
namespace Go.Proofs.YtlpmcfooaakdgaaDoor
open Go.RowKit

set_option maxHeartbeats 400000 in
theorem drawPut_any (ao : Option Addr) (n cap : Nat) (w : World) (h : ByteRow w ao n) (hn : n ≤ 4096) :
    Calls Tryd.prog 18 #[.slice ao n cap] w fun e w' => ∃ m : Int, e = .returned (.int .i64 m) ∧ I64 m ∧ Fr w w' := by
  go_enter Tryd.func18, Tryd.ntmps18
  go_wp2_with fail
  refine (l1New_any _ _ _ _ h (by omega)).mono ?_
  rintro e w1 ⟨rfl, c1, f1⟩
  go_wp2_with fail
  refine (l1Once_any _ _ _ c1).mono ?_
  rintro e w2 ⟨b, rfl, c2, k2⟩
  cases b
  · go_wp2_with fail
    refine (l1Below_any _ _ _ c2).mono ?_
    rintro e w3 ⟨x, rfl, x0, x1, x2, c3, k3⟩
    go_wp2_with fail
    refine (l1Below_any _ _ _ c3).mono ?_
    rintro e w4 ⟨y, rfl, y0, y1, y2, c4, k4⟩
    have hx := x1 (by omega)
    have hy := y1 (by omega)
    clear x1 x2 y1 y2
    have m0 : 0 ≤ x * y := Int.mul_nonneg x0 y0
    have m1 : x * y ≤ 1048576 * y := Int.mul_le_mul_of_nonneg_right (by omega) y0
    go_wp2_with fail
    go_ret
    exact ⟨x * y, rfl, ⟨by omega, by omega⟩, f1.then (grown_trans (grown_trans k2 k3) k4) (by intro j hj; simp only [Option.some.injEq] at hj; omega)⟩
  · go_wp2_with fail
    refine (l1Odd_any _ _ c2).mono ?_
    rintro e w3 ⟨o, rfl, ho, c3, k3⟩
    have hlt := c3.lt
    go_wp2_with fail
    refine (l1Below_any _ _ _ (c3.fr (Fr.alloc _ _))).mono ?_
    rintro e w4 ⟨x, rfl, x0, x1, x2, c4, k4⟩
    have x3 : x < 9 := x1 (by omega)
    clear x1 x2
    obtain ⟨k, rfl⟩ := Int.eq_ofNat_of_zero_le x0
    obtain ⟨z, hz, hcell⟩ := lit_cell (w := w3) (t := 2) [0, 127, 128, 16383, 16384, 4398046511103, 4398046511104, -1, o] (by intro z hz; simp at hz; rcases hz with rfl | rfl | rfl | rfl | rfl | rfl | rfl | rfl | rfl <;> first | exact ho | exact ⟨by decide, by decide⟩) k (by simp; omega)
    have hcell2 := k4.cell hcell (by simp; omega)
    have hk9 : k < 9 := by omega
    clear hcell
    go_wp2_with fail
    go_ret
    exact ⟨z, rfl, hz, f1.then (grown_trans (grown_trans k2 k3) (grown_then (Fr.alloc w3 _).wide k4 (by intro j hj; right; simpa using hj.symm))) (by intro j hj; simp only [Option.some.injEq] at hj; omega)⟩
end Go.Proofs.YtlpmcfooaakdgaaDoor
