/-
  Periods: the program's exported functions.
-/
import Derived.Test.YtkfcchapfklpgaaPrd2
namespace Go.Proofs.Ytkfcchapfklpgaa
open Go.RowKit

set_option maxHeartbeats 2000000 in
theorem cfOk_impl (c : Cf) (W : World) :
    Calls Try.prog 28 #[.agg #[.int .i64 c.r, .int .i64 c.s, .int .i64 c.b, .int .i64 c.m, .int .i64 c.q, .int .i64 c.c, .int .i64 c.w]] W fun e w' => e = .returned (.bool (cfB c)) ∧ Fr W w' := by
  have cL := fun u => limited_any c u
  have cA := fun u => lcOk_any c u
  obtain ⟨r, s, b, m, q, c, w⟩ := c
  generalize cfB ⟨r, s, b, m, q, c, w⟩ = B at cA ⊢
  simp only at cL cA ⊢
  have f := Fr.alloc W (.cells #[.int .i64 r, .int .i64 s, .int .i64 b, .int .i64 m, .int .i64 q, .int .i64 c, .int .i64 w] 29)
  go_enter Try.func28, Try.ntmps28
  go_wp2_with fail
  refine (cL _).mono ?_
  rintro e u1 ⟨rfl, f1⟩
  go_wp2_with fail
  refine (cA _).mono ?_
  rintro e u2 ⟨rfl, f2⟩
  go_wp2_with fail
  go_ret
  exact ⟨rfl, (f.trans f1).trans f2⟩

end Go.Proofs.Ytkfcchapfklpgaa
