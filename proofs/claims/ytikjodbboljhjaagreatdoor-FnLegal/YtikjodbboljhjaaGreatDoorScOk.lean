/-
  Is a channel right, is a lock right: l4Chan, l4Lock.
-/
import Derived.Test.YtikjodbboljhjaaGreatDoorScOf
import Derived.Test.YtikjodbboljhjaaGreatDoorGrown
import Derived.BigQuiet
namespace Go.Proofs.YtikjodbboljhjaaGreatDoor
open Go.RowKit

def chB (c : Ch) : Bool := inB 0 15 c.o && (inB 0 8 c.cap && (inB 0 1000000 c.sent && (inB 0 c.sent c.got && decide (c.sent ≤ c.got + c.cap))))

theorem chB_new (w : World) (c : Ch) : (w.alloc (.cells #[.int .i64 c.o, .int .i64 c.cap, .int .i64 c.sent, .int .i64 c.got, .bool c.cl] 82)).cell? ⟨w.heap.size, 0, none⟩ = some (.int .i64 c.o) := by simp [go_sem]

set_option maxHeartbeats 800000 in
theorem l4Chan_any (c : Ch) (w : World) :
    Calls Tryz.prog 50 #[.agg #[.int .i64 c.o, .int .i64 c.cap, .int .i64 c.sent, .int .i64 c.got, .bool c.cl]] w fun e w' => e = .returned (.bool (chB c)) ∧ Fr w w' := by
  obtain ⟨o, cap, sent, got, cl⟩ := c
  simp only
  unfold chB
  simp only
  cases h1 : inB 0 15 o
  · go_enter Tryz.func50, Tryz.ntmps50
    go_wp2_with (first | (go_at_call 51; refine (l4Obj_any _ _).mono ?_; rintro e w' ⟨rfl, rfl⟩) | (go_at_call 48; refine (l1In_any _ _ _ _).mono ?_; rintro e w' ⟨rfl, rfl⟩))
    go_ret
    exact ⟨rfl, Fr.alloc _ _⟩
  cases h2 : inB 0 8 cap
  · go_enter Tryz.func50, Tryz.ntmps50
    go_wp2_with (first | (go_at_call 51; refine (l4Obj_any _ _).mono ?_; rintro e w' ⟨rfl, rfl⟩) | (go_at_call 48; refine (l1In_any _ _ _ _).mono ?_; rintro e w' ⟨rfl, rfl⟩))
    go_ret
    exact ⟨rfl, Fr.alloc _ _⟩
  have r2 := inB_true h2
  cases h3 : inB 0 1000000 sent
  · go_enter Tryz.func50, Tryz.ntmps50
    go_wp2_with (first | (go_at_call 51; refine (l4Obj_any _ _).mono ?_; rintro e w' ⟨rfl, rfl⟩) | (go_at_call 48; refine (l1In_any _ _ _ _).mono ?_; rintro e w' ⟨rfl, rfl⟩))
    go_ret
    exact ⟨rfl, Fr.alloc _ _⟩
  have r3 := inB_true h3
  cases h4 : inB 0 sent got
  · go_enter Tryz.func50, Tryz.ntmps50
    go_wp2_with (first | (go_at_call 51; refine (l4Obj_any _ _).mono ?_; rintro e w' ⟨rfl, rfl⟩) | (go_at_call 48; refine (l1In_any _ _ _ _).mono ?_; rintro e w' ⟨rfl, rfl⟩))
    go_ret
    exact ⟨rfl, Fr.alloc _ _⟩
  have r4 := inB_true h4
  go_enter Tryz.func50, Tryz.ntmps50
  go_wp2_with (first | (go_at_call 51; refine (l4Obj_any _ _).mono ?_; rintro e w' ⟨rfl, rfl⟩) | (go_at_call 48; refine (l1In_any _ _ _ _).mono ?_; rintro e w' ⟨rfl, rfl⟩))
  go_ret
  exact ⟨rfl, Fr.alloc _ _⟩
end Go.Proofs.YtikjodbboljhjaaGreatDoor
