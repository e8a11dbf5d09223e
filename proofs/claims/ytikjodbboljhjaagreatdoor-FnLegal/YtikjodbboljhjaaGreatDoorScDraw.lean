/-
  The drawing of traces and of lists to be encoded: l5Draw, DrawEncoded.
-/
import Derived.Test.YtikjodbboljhjaaGreatDoorScGrow
import Derived.Test.YtikjodbboljhjaaGreatDoorDrawNew
namespace Go.Proofs.YtikjodbboljhjaaGreatDoor
open Go.RowKit

/-- The cursor's first cell. -/
theorem Cur.c0 {w : World} {g : Nat} (h : Cur w g) : ∃ ao n cap, w.cell? ⟨g, 0, none⟩ = some (.slice ao n cap) ∧ n ≤ 4294967296 := by
  obtain ⟨ao, n, cap, i, hh, hg, hin, hn, hb⟩ := h
  exact ⟨ao, n, cap, by rw [cell_of_row _ _ _ _ _ _ hg]; rfl, hn⟩

set_option maxRecDepth 20000 in
set_option maxHeartbeats 2000000 in
theorem l5Draw_any (g : Nat) (w : World) (hc : Cur w g) :
    Calls Tryz.prog 126 #[.pointer (some ⟨g, 0, none⟩)] w fun x w' => ∃ v : Value, x = .returned v ∧ ∃ es : List Ev, OwnE w' w.heap.size v es ∧ es.length ≤ 58 ∧ Cur w' g ∧ w.grownBy w' (some g) := by
  obtain ⟨ao, n, cap, hn, hnl⟩ := hc.c0
  go_enter Tryz.func126, Tryz.ntmps126
  go_wp2_with fail
  go_region_with (first
    | (go_at_call 127; refine (l1Below_any g _ _ (hc.fr (Fr.drew w))).mono ?_; rintro e w1 ⟨x, rfl, x0, x1, x2, c1, g1⟩; have x3 : x < 50 := x1 (by omega); have hw : IntKind.i64.wrap (8 + x) = 8 + x := (by rw [IntKind.wrap_i64]; omega); obtain ⟨ao1, n1, cap1, hn1, hnl1⟩ := c1.c0)
    | (go_at_call 145; refine (l1Min_any _ _ _).mono ?_; rintro e w2 ⟨rfl, rfl⟩)
    | (go_at_call 163; refine (l5Grow_any g _ _ c1 (by first | omega | (rw [hw]; omega))).mono ?_; rintro e w3 ⟨v, rfl, es, o3, l3, c3, g3⟩))
  all_goals (
    have hsz : w.heap.size ≤ w2.heap.size := g1.size
    go_wp2_with fail
    go_ret
    exact ⟨_, rfl, es, o3.lower hsz, by omega, c3, grown_trans (Fr.drew w).wide (grown_trans g1 g3)⟩)
end Go.Proofs.YtikjodbboljhjaaGreatDoor
