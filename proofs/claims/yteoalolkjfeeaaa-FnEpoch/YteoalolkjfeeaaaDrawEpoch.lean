/-
  What is drawn for the law on epochs: two numbers, whatever they are.
-/
import Derived.Test.YteoalolkjfeeaaaDrawNew
namespace Go.Proofs.Yteoalolkjfeeaaa
open Go.RowKit

set_option maxHeartbeats 400000 in
theorem drawPackEpoch_any (ao : Option Addr) (n cap : Nat) (w : World) (h : ByteRow w ao n) (hn : n ≤ 4096) :
    Calls Try.prog 21 #[.slice ao n cap] w fun e w' => ∃ g m : Int, e = .returned (.tuple #[.int .i64 g, .int .i64 m]) ∧ I64 g ∧ I64 m ∧ Fr w w' := by
  go_enter Try.func21, Try.ntmps21
  go_wp2_with fail
  refine (l1New_any _ _ _ _ h (by omega)).mono ?_
  rintro e w1 ⟨rfl, c1, f1⟩
  go_wp2_with fail
  refine (l1Num_any _ _ _ c1 (by decide) (by decide)).mono ?_
  rintro e w2 ⟨x, rfl, hx, c2, k2⟩
  go_wp2_with fail
  refine (l1Num_any _ _ _ c2 (by decide) (by decide)).mono ?_
  rintro e w3 ⟨y, rfl, hy, c3, k3⟩
  go_wp2_with fail
  go_ret2
  exact ⟨x, y, rfl, hx, hy, f1.then (grown_trans k2 k3) (by intro j hj; simp only [Option.some.injEq] at hj; omega)⟩
end Go.Proofs.Yteoalolkjfeeaaa
