/-
  slices.Index and slices.Contains at int64.
-/
import Derived.Test.YtikjodbboljhjaaGreatDoorScRise
namespace Go.Proofs.YtikjodbboljhjaaGreatDoor
open Go.RowKit

theorem memB_step {xs : List Int} {x : Int} {k : Nat} (hk : k < xs.length) (h : x ≠ xs[k]) : memB (xs.drop k) x = memB (xs.drop (k + 1)) x := by
  rw [List.drop_eq_getElem_cons hk, memB, List.any_cons, show (xs[k] == x) = false by simpa using Ne.symm h]
  rfl
theorem memB_here {xs : List Int} {x : Int} {k : Nat} (hk : k < xs.length) (h : x = xs[k]) : memB (xs.drop k) x = true := by
  rw [List.drop_eq_getElem_cons hk, memB, List.any_cons, show (xs[k] == x) = true by simpa using h.symm]
  rfl

set_option maxHeartbeats 1000000 in
theorem index_any (ao : Option Addr) (n c : Nat) (xs : List Int) (x : Int) (w : World) (hn : xs.length = n) (hl : xs.length ≤ 1048576) (h : Reads w ao xs) :
    Calls Tryz.prog 171 #[.slice ao n c, .int .i64 x] w fun e w' => ∃ r : Int, e = .returned (.int .i64 r) ∧ decide (0 ≤ r) = memB xs x ∧ w' = w := by
  subst hn
  obtain ⟨R, hR⟩ : ∃ R, R = memB xs x := ⟨_, rfl⟩
  rw [← hR]
  have HR : Hid (R = memB xs x) := hR
  clear hR
  go_enter Tryz.func171, Tryz.ntmps171
  go_wp2_with fail
  go_loopw [8] (fun i wr => ∃ (k : Nat), k ≤ xs.length ∧ i = .int .i64 k ∧ Hid (R = memB (xs.drop k) x) ∧ wr = w) (fun i _ => xs.length - (intOf i).toNat)
  case atStart => exact ⟨0, Nat.zero_le _, rfl, HR, rfl⟩
  case round =>
    clear HR
    obtain ⟨k, hk, rfl, HR, rfl⟩ := hrel
    by_cases hlt : k < xs.length
    · obtain ⟨b, off, rfl, hc⟩ := h.at_ k hlt
      have hck := hc k hlt
      rw [getD_at hlt] at hck
      have HY : Hid (x ≠ xs[k] → R = memB (xs.drop (k + 1)) x) := fun h1 => HR.out.trans (memB_step hlt h1)
      have HF : Hid (x = xs[k] → R = true) := fun h1 => HR.out.trans (memB_here hlt h1)
      obtain ⟨z, hz⟩ : ∃ z, z = xs[k] := ⟨_, rfl⟩
      rw [← hz] at hck HY HF
      clear hz hc HR
      by_cases h1 : x = z
      · have HN : Hid (R = true) := HF.out h1
        subst h1
        go_wp2_with fail
        go_ret
        exact ⟨k, rfl, by rw [HN.out]; simp, rfl⟩
      · have HN : Hid (R = memB (xs.drop (k + 1)) x) := HY.out h1
        go_wp2_with fail
        go_roundw
        case rel => exact ⟨k + 1, by omega, by go_num, HN, trivial⟩
        case measure => simp [intOf]; omega
    · have HN : Hid (R = false) := by
        have h1 := HR.out
        rw [List.drop_eq_nil_of_le (by omega)] at h1
        exact h1
      go_wp2_with fail
      go_ret
      exact ⟨-1, rfl, by rw [HN.out]; simp, rfl⟩
theorem contains_any (ao : Option Addr) (n c : Nat) (xs : List Int) (x : Int) (w : World) (hn : xs.length = n) (hl : xs.length ≤ 1048576) (h : Reads w ao xs) :
    Calls Tryz.prog 161 #[.slice ao n c, .int .i64 x] w fun e w' => e = .returned (.bool (memB xs x)) ∧ w' = w := by
  go_enter Tryz.func161, Tryz.ntmps161
  go_wp2_with fail
  refine (index_any ao n c xs x w hn hl h).mono ?_
  rintro e u ⟨r, rfl, hr, rfl⟩
  go_wp2_with fail
  go_ret
  exact ⟨rfl, rfl⟩
end Go.Proofs.YtikjodbboljhjaaGreatDoor
