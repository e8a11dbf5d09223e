/-
  The walk of the laws' eqInt64S: are two lists of numbers alike?
-/
import Derived.Test.YtpmloeneffolpaaInts
namespace Go.Proofs.Ytpmloeneffolpaa
open Go.RowKit

set_option maxHeartbeats 400000 in
theorem eqI_any (ao bo : Option Addr) (n m c d : Nat) (xs ys : List Int) (w : World) (hn : xs.length = n) (hm : ys.length = m) (h : Reads w ao xs) (h' : Reads w bo ys) :
    Calls Try.prog 23 #[.slice ao n c, .slice bo m d] w fun e w' => e = .returned (.bool (decide (xs = ys))) ∧ ∃ nq, w' = w.drewN nq := by
  subst hn hm
  have hl := h.len
  by_cases hne : xs.length = ys.length
  · have hb : ((xs.length : Int) != (ys.length : Int)) = false := by simp [hne]
    have HNE : Hid (xs.length = ys.length) := hne
    clear hne
    go_enter Try.func23, Try.ntmps23
    go_wp2
    go_loopw [5] (fun i wr => ∃ k : Nat, k ≤ xs.length ∧ i = .int .i64 k ∧ Hid (xs.take k = ys.take k) ∧ ∃ nq, wr = w.drewN nq) (fun i _ => xs.length - (intOf i).toNat)
    case atStart => exact ⟨0, Nat.zero_le _, rfl, rfl, 0, rfl⟩
    case round =>
      obtain ⟨k, hk, rfl, HT, nq, rfl⟩ := hrel
      by_cases hlt : k < xs.length
      · have hlt' : k < ys.length := by have := HNE.out; omega
        obtain ⟨b, off, rfl, hc⟩ := h.at_ k hlt
        obtain ⟨b', off', rfl, hc'⟩ := h'.at_ k hlt'
        have hck := hc k hlt
        have hck' := hc' k hlt'
        rw [getD_at hlt] at hck
        rw [getD_at hlt'] at hck'
        clear hc hc' hb
        go_wp2
        go_quiet (fail)
        go_wp2
        · have hq : (xs[k] != ys[k]) = true := by assumption
          go_ret
          refine ⟨?_, _, drew2 _ _ _⟩
          rw [ne_of_at hlt hlt' (by simpa using hq)]
          rfl
        · have hq : (xs[k] != ys[k]) = false := by assumption
          go_roundw
          case rel => exact ⟨k + 1, by omega, by go_num, eq_step HNE.out hlt HT.out (by simpa using hq), _, rfl⟩
          case measure => simp [intOf]; omega
      · go_wp2
        go_ret
        refine ⟨?_, nq, rfl⟩
        have e : xs = ys := by
          have h1 := HT.out
          have h2 := HNE.out
          rwa [List.take_of_length_le (by omega), List.take_of_length_le (by omega)] at h1
        have : decide (xs = ys) = true := by simpa using e
        rw [this]
        rfl
  · have hb : ((xs.length : Int) != (ys.length : Int)) = true := by simp; omega
    go_enter Try.func23, Try.ntmps23
    go_wp2
    go_ret
    refine ⟨?_, 0, rfl⟩
    have : decide (xs = ys) = false := by simp only [decide_eq_false_iff_not]; intro e; exact hne (by rw [e])
    rw [this]
    rfl
end Go.Proofs.Ytpmloeneffolpaa
