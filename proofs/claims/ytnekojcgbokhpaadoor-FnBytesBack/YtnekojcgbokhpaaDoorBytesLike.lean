/-
  The walk of the laws' likeBytes, of two like lists of bytes.
-/
import Derived.Test.YtnekojcgbokhpaaDoorBytes
import Derived.Laws.BytesArg
namespace Go.Proofs.YtnekojcgbokhpaaDoor
open Go.RowKit

theorem readsB_conv {w : World} {b off n cap : Nat} {xs : List Int} (hn : xs.length = n) (h : ReadsB w (some ⟨b, off, none⟩) xs) : (convert 22 9 (.slice (some ⟨b, off, none⟩) n cap)).run Tryd.prog w = .ok (.string (strOfNums xs)) w := by
  refine run_convert_bytes_arg (P := Tryd.prog) w 22 5 Tryd.underlying22 Tryd.underlying5 b off n cap xs hn (fun i hi => ?_) _ Tryd.underlying9
  obtain ⟨b', o', e, hc⟩ := h.at_ i (by omega)
  simp only [Option.some.injEq, Addr.mk.injEq, and_true] at e
  obtain ⟨rfl, rfl⟩ := e
  exact hc i (by omega)

set_option maxHeartbeats 400000 in
theorem likeB_same (b off b' off' n c d : Nat) (xs : List Int) (w : World) (hn : xs.length = n) (h : ReadsB w (some ⟨b, off, none⟩) xs) (h' : ReadsB w (some ⟨b', off', none⟩) xs) :
    Calls Tryd.prog 14 #[.slice (some ⟨b, off, none⟩) n c, .slice (some ⟨b', off', none⟩) n d] w fun e w' => e = .returned (.bool true) ∧ w' = w := by
  have k1 := readsB_conv (cap := c) hn h
  have k2 := readsB_conv (cap := d) hn h'
  go_enter Tryd.func14, Tryd.ntmps14
  go_wp2_with fail
  go_ret
  exact ⟨rfl, rfl⟩
end Go.Proofs.YtnekojcgbokhpaaDoor
