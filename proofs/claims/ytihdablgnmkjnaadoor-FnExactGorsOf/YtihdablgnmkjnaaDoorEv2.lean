/-
  Events: the specification's small callees.
-/
import Derived.Test.YtihdablgnmkjnaaDoorEv
namespace Go.Proofs.YtihdablgnmkjnaaDoor
open Go.RowKit

theorem l2Gor_any (x : Int) (w : World) :
    Calls Tryd.prog 15 #[.int .i64 x] w fun e w' => e = .returned (.bool (inB 0 15 x)) ∧ w' = w := by
  go_enter Tryd.func15, Tryd.ntmps15
  go_wp2_with fail
  refine (l1In_any _ _ _ _).mono ?_
  rintro e w1 ⟨rfl, rfl⟩
  go_wp2_with fail
  go_ret
  exact ⟨rfl, rfl⟩

theorem l2Field_any (h : Bool) (n lo hi : Int) (w : World) :
    Calls Tryd.prog 17 #[.bool h, .int .i64 n, .int .i64 lo, .int .i64 hi] w fun e w' => e = .returned (.bool (fitB h n lo hi)) ∧ w' = w := by
  cases h
  · go_enter Tryd.func17, Tryd.ntmps17
    go_wp2
    go_ret
    exact ⟨rfl, rfl⟩
  · go_enter Tryd.func17, Tryd.ntmps17
    go_wp2_with fail
    refine (l1In_any _ _ _ _).mono ?_
    rintro e w1 ⟨rfl, rfl⟩
    go_wp2_with fail
    go_ret
    exact ⟨rfl, rfl⟩

theorem l2Sizes_any (k : Int) (w : World) :
    Calls Tryd.prog 16 #[.int .i64 k] w fun e w' => e = .returned (.tuple #[.int .i64 (loV k), .int .i64 (hiV k)]) ∧ w' = w := by
  by_cases h6 : k = 6
  · subst h6
    go_enter Tryd.func16, Tryd.ntmps16
    go_wp2
    go_ret2
    exact ⟨rfl, rfl⟩
  by_cases h12 : k = 12
  · subst h12
    go_enter Tryd.func16, Tryd.ntmps16
    go_wp2
    go_ret2
    exact ⟨rfl, rfl⟩
  by_cases h20 : k = 20
  · subst h20
    go_enter Tryd.func16, Tryd.ntmps16
    go_wp2
    go_ret2
    exact ⟨rfl, rfl⟩
  by_cases h21 : k = 21
  · subst h21
    go_enter Tryd.func16, Tryd.ntmps16
    go_wp2
    go_ret2
    exact ⟨rfl, rfl⟩
  by_cases h22 : k = 22
  · subst h22
    go_enter Tryd.func16, Tryd.ntmps16
    go_wp2
    go_ret2
    exact ⟨rfl, rfl⟩
  have e1 : loV k = 0 := by rw [loV, if_neg (by omega)]
  have e2 : hiV k = 0 := by rw [hiV, if_neg h6, if_neg h12, if_neg (by omega), if_neg h22]
  rw [e1, e2]
  clear e1 e2
  go_enter Tryd.func16, Tryd.ntmps16
  go_wp2
  go_ret2
  exact ⟨rfl, rfl⟩

theorem l2Has_any (k d : Int) (w : World) (hd : d = 1 ∨ d = 2 ∨ d = 4 ∨ d = 8 ∨ d = 16 ∨ d = 32) :
    Calls Tryd.prog 18 #[.int .i64 k, .int .i64 d] w fun e w' => e = .returned (.bool (hasB k d)) ∧ Fr w w' := by
  have c1 := fun w => specFields_any k w
  have hb := fldV_in k
  unfold hasB
  obtain ⟨z, hz⟩ : ∃ z, z = fldV k := ⟨_, rfl⟩
  rw [← hz] at hb ⊢
  simp only [← hz] at c1
  clear hz
  rcases hd with rfl | rfl | rfl | rfl | rfl | rfl
  all_goals
    go_enter Tryd.func18, Tryd.ntmps18
    go_wp2_with fail
    refine (c1 _).mono ?_
    rintro e w1 ⟨rfl, f1⟩
    go_wp2_with fail
    go_ret
    first
      | exact ⟨rfl, f1⟩
      | exact ⟨ret_bool (by rw [Int.tdiv_one]), f1⟩
end Go.Proofs.YtihdablgnmkjnaaDoor
