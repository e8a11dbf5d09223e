/-
  The specification's l3Right: are all events right, and are there not too many?
-/
import Derived.Test.YtnekojcgbokhpaaDoorEvs
import Derived.Test.YtnekojcgbokhpaaDoorEvSpec
namespace Go.Proofs.YtnekojcgbokhpaaDoor
open Go.RowKit

set_option maxHeartbeats 1000000 in
theorem right_any (ao : Option Addr) (n cap : Nat) (es : List Ev) (w : World) (hn : es.length = n) (h : ReadsE w ao es) :
    Calls Tryd.prog 28 #[.slice ao n cap] w fun e w' => e = .returned (.bool (encB es)) ∧ Fr w w' := by
  subst hn
  have hl := h.len
  go_enter Tryd.func28, Tryd.ntmps28
  go_wp2_with fail
  go_loopw [3] (fun i wr => ∃ k : Nat, k ≤ es.length ∧ i = .int .i64 k ∧ Hid (okL (es.take k) = true) ∧ Fr w wr) (fun i _ => es.length - (intOf i).toNat)
  case atStart => exact ⟨0, Nat.zero_le _, rfl, rfl, Fr.refl _⟩
  case round =>
    obtain ⟨k, hk, rfl, HO, hf⟩ := hrel
    by_cases hlt : k < es.length
    · obtain ⟨b, off, rfl, hc⟩ := (h.fr hf).at_ k hlt
      obtain ⟨c0, c1, c2, c3, c4, c5, c6, c7⟩ := hc k hlt
      have cO := fun w => specOk_any es[k] w
      obtain ⟨e, he⟩ : ∃ e, e = es[k] := ⟨_, rfl⟩
      rw [← he] at c0 c1 c2 c3 c4 c5 c6 c7
      simp only [← he] at cO
      have HE : Hid (e = es[k]) := he
      clear hc he
      cases ho : evOk e
      · simp only [ho] at cO
        have HX : Hid (encB es = false) := by
          show _ = _
          have := okL_not es k hlt (by rw [← HE.out]; exact ho)
          rw [okL] at this
          rw [encB, this]
          rfl
        clear ho
        go_wp2_with fail
        refine (cO _).mono ?_
        rintro e w1 ⟨rfl, f1⟩
        go_wp2_with fail
        go_ret
        exact ⟨ret_bool HX.out.symm, hf.trans f1⟩
      · simp only [ho] at cO
        have HO' : Hid (okL (es.take (k + 1)) = true) := okL_take es k hlt HO.out (by rw [← HE.out]; exact ho)
        clear ho
        go_wp2_with fail
        refine (cO _).mono ?_
        rintro e w1 ⟨rfl, f1⟩
        go_wp2_with fail
        go_roundw
        case rel => exact ⟨k + 1, by omega, by go_num, HO', hf.trans f1⟩
        case measure => simp [intOf]; omega
    · have HX : Hid (es.all evOk = true) := by
        have := HO.out
        rwa [List.take_of_length_le (by omega)] at this
      go_wp2_with fail
      go_ret
      refine ⟨ret_bool ?_, hf⟩
      rw [encB, HX.out]
      simp
      omega
end Go.Proofs.YtnekojcgbokhpaaDoor
