/-
  The walks of the functions on epochs (chapter 1): PackEpoch and UnpackEpoch, of the program and of its specification.
-/
import Derived.Test.YteoalolkjfeeaaaRange
import Derived.WalkKit
import Derived.WalkLawsBesides
import Derived.Laws.BitsAllLaws
import Derived.Laws.Shifts
namespace Go.Proofs.Yteoalolkjfeeaaa
open Go.RowKit

/-- The or of a number in the highest sixteen bits and one in the lowest forty-eight is their sum. -/
theorem or_join (g n : Int) (g0 : 0 ≤ g) (g1 : g ≤ 15) (n0 : 0 ≤ n) (n1 : n ≤ 281474976710655) :
    bits .or .u64 (g * 281474976710656) n = g * 281474976710656 + n := by
  obtain ⟨g, rfl⟩ := Int.eq_ofNat_of_zero_le g0
  obtain ⟨n, rfl⟩ := Int.eq_ofNat_of_zero_le n0
  have e : ((g : Int) * 281474976710656) = ((g * 281474976710656 : Nat) : Int) := by omega
  rw [e, u64_or_nat _ _ (by omega) (by omega), nat_join 48 _ _ (by omega) (by omega)]
  omega

/-- The lowest forty-eight bits. -/
theorem and_low (x : Int) (h0 : 0 ≤ x) (h1 : x < 18446744073709551616) : bits .and .u64 x 281474976710655 = x % 281474976710656 := by
  obtain ⟨x, rfl⟩ := Int.eq_ofNat_of_zero_le h0
  have e : (281474976710655 : Int) = ((281474976710655 : Nat) : Int) := rfl
  rw [e, u64_and_nat _ _ (by omega) (by omega)]
  have : x &&& 281474976710655 = x % 281474976710656 := Nat.and_two_pow_sub_one_eq_mod x 48
  rw [this]; omega

theorem epochOf_any (g n : Int) (w : World) (g0 : 0 ≤ g) (g1 : g ≤ 15) (n0 : 0 ≤ n) (n1 : n ≤ 281474976710655) :
    Calls Try.prog 41 #[.int .i64 g, .int .i64 n] w fun e w' => e = .returned (.int .u64 (g * 281474976710656 + n)) ∧ w' = w := by
  go_enter Try.func41, Try.ntmps41
  go_wp2
  go_ret
  exact ⟨ret_int (or_join g n g0 g1 n0 n1), rfl⟩

theorem gor_any (x : Int) (w : World) (h0 : 0 ≤ x) (h1 : x < 18446744073709551616) :
    Calls Try.prog 43 #[.int .u64 x] w fun e w' => e = .returned (.int .i64 (x / 281474976710656)) ∧ w' = w := by
  go_enter Try.func43, Try.ntmps43
  go_wp2
  go_ret
  exact ⟨rfl, rfl⟩

theorem tick_any (x : Int) (w : World) (h0 : 0 ≤ x) (h1 : x < 18446744073709551616) :
    Calls Try.prog 44 #[.int .u64 x] w fun e w' => e = .returned (.int .i64 (x % 281474976710656)) ∧ w' = w := by
  go_enter Try.func44, Try.ntmps44
  go_wp2
  go_ret
  exact ⟨ret_int (by rw [and_low x h0 h1]; exact IntWalk.wrap64_in _ ⟨by omega, by omega⟩), rfl⟩

/-- What PackEpoch answers. -/
def packV (g n : Int) : Value := if inB 0 15 g && inB 0 281474976710655 n then .tuple #[.int .u64 (g * 281474976710656 + n), .bool true] else .tuple #[.int .u64 0, .bool false]

theorem pack_impl (g n : Int) (w : World) :
    Calls Try.prog 22 #[.int .i64 g, .int .i64 n] w fun e w' => e = .returned (packV g n) ∧ w' = w := by
  unfold packV
  cases h1 : inB 0 15 g
  · go_enter Try.func22, Try.ntmps22
    go_wp2_with (go_at_call 38; refine (gorIn_any _ _).mono ?_; rintro e w' ⟨rfl, rfl⟩)
    go_ret2
    exact ⟨rfl, rfl⟩
  · cases h2 : inB 0 281474976710655 n
    · go_enter Try.func22, Try.ntmps22
      go_wp2_with (first | (go_at_call 38; refine (gorIn_any _ _).mono ?_; rintro e w' ⟨rfl, rfl⟩) | (go_at_call 39; refine (tickIn_any _ _).mono ?_; rintro e w' ⟨rfl, rfl⟩))
      go_ret2
      exact ⟨rfl, rfl⟩
    · have b1 := inB_true h1
      have b2 := inB_true h2
      go_enter Try.func22, Try.ntmps22
      go_wp2_with (first | (go_at_call 38; refine (gorIn_any _ _).mono ?_; rintro e w' ⟨rfl, rfl⟩) | (go_at_call 39; refine (tickIn_any _ _).mono ?_; rintro e w' ⟨rfl, rfl⟩) | (go_at_call 41; refine (epochOf_any _ _ _ b1.1 b1.2 b2.1 b2.2).mono ?_; rintro e w' ⟨rfl, rfl⟩))
      go_ret2
      exact ⟨rfl, rfl⟩

theorem pack_spec (g n : Int) (w : World) :
    Calls Try.prog 23 #[.int .i64 g, .int .i64 n] w fun e w' => e = .returned (packV g n) ∧ w' = w := by
  unfold packV
  cases h1 : inB 0 15 g
  · go_enter Try.func23, Try.ntmps23
    go_wp2_with (go_at_call 36; refine (l1In_any _ _ _ _).mono ?_; rintro e w' ⟨rfl, rfl⟩)
    go_ret2
    exact ⟨rfl, rfl⟩
  · cases h2 : inB 0 281474976710655 n
    · go_enter Try.func23, Try.ntmps23
      go_wp2_with (go_at_call 36; refine (l1In_any _ _ _ _).mono ?_; rintro e w' ⟨rfl, rfl⟩)
      go_ret2
      exact ⟨rfl, rfl⟩
    · have b1 := inB_true h1
      have b2 := inB_true h2
      obtain ⟨b11, b12⟩ := b1
      obtain ⟨b21, b22⟩ := b2
      go_enter Try.func23, Try.ntmps23
      go_wp2_with (go_at_call 36; refine (l1In_any _ _ _ _).mono ?_; rintro e w' ⟨rfl, rfl⟩)
      go_ret2
      exact ⟨rfl, rfl⟩

/-- What UnpackEpoch answers. -/
def unpackV (x : Int) : Value := if inB 0 15 (x / 281474976710656) then .tuple #[.int .i64 (x / 281474976710656), .int .i64 (x % 281474976710656), .bool true] else .tuple #[.int .i64 0, .int .i64 0, .bool false]

theorem ok_any (x : Int) (w : World) (h0 : 0 ≤ x) (h1 : x < 18446744073709551616) :
    Calls Try.prog 42 #[.int .u64 x] w fun e w' => e = .returned (.bool (inB 0 15 (x / 281474976710656))) ∧ w' = w := by
  go_enter Try.func42, Try.ntmps42
  go_wp2_with (first | (go_at_call 43; refine (gor_any _ _ h0 h1).mono ?_; rintro e w' ⟨rfl, rfl⟩) | (go_at_call 38; refine (gorIn_any _ _).mono ?_; rintro e w' ⟨rfl, rfl⟩))
  go_ret
  exact ⟨rfl, rfl⟩

theorem unpack_impl (x : Int) (w : World) (h0 : 0 ≤ x) (h1 : x < 18446744073709551616) :
    Calls Try.prog 24 #[.int .u64 x] w fun e w' => e = .returned (unpackV x) ∧ w' = w := by
  unfold unpackV
  cases h : inB 0 15 (x / 281474976710656)
  · go_enter Try.func24, Try.ntmps24
    go_wp2_with (go_at_call 42; refine (ok_any _ _ h0 h1).mono ?_; rintro e w' ⟨rfl, rfl⟩)
    go_ret3
    exact ⟨rfl, rfl⟩
  · go_enter Try.func24, Try.ntmps24
    go_wp2_with (first | (go_at_call 42; refine (ok_any _ _ h0 h1).mono ?_; rintro e w' ⟨rfl, rfl⟩) | (go_at_call 43; refine (gor_any _ _ h0 h1).mono ?_; rintro e w' ⟨rfl, rfl⟩) | (go_at_call 44; refine (tick_any _ _ h0 h1).mono ?_; rintro e w' ⟨rfl, rfl⟩))
    go_ret3
    exact ⟨rfl, rfl⟩

theorem unpack_spec (x : Int) (w : World) (h0 : 0 ≤ x) (h1 : x < 18446744073709551616) :
    Calls Try.prog 33 #[.int .u64 x] w fun e w' => e = .returned (unpackV x) ∧ w' = w := by
  unfold unpackV
  cases h : inB 0 15 (x / 281474976710656)
  · have b := inB_false h
    have b' : ¬ x / 281474976710656 ≤ 15 := by omega
    go_enter Try.func33, Try.ntmps33
    go_wp2
    go_ret3
    exact ⟨rfl, rfl⟩
  · have b := (inB_true h).2
    go_enter Try.func33, Try.ntmps33
    go_wp2
    go_ret3
    exact ⟨rfl, rfl⟩
end Go.Proofs.Yteoalolkjfeeaaa
