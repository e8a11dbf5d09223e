/-
  Pack BF: TchId, Past.
-/
import Derived.Test.YtplnijpolkflcaaGreatDoorPqBA
import Derived.Test.YtplnijpolkflcaaGreatDoorPqBE
import Derived.Test.YtplnijpolkflcaaGreatDoorPqAS
import Derived.Deep.RegionHeld3
namespace Go.Proofs.YtplnijpolkflcaaGreatDoor
open Go.RowKit

set_option maxRecDepth 20000 in
set_option maxHeartbeats 2000000 in
theorem tchI_18 (b b2 : Nat) (co cap sent got : Int) (cl : Bool) (gr o wi l sz f t : Int) (w : World) (hb : w.cell? ⟨b, 2, none⟩ = some (.map (some b2)))
    (hL : ∀ u, Fr w u → (Instr.lookup 144 (.map (some b2)) (.int .i64 o) false).run Tryz.prog u = .ok (.agg #[.int .i64 co, .int .i64 cap, .int .i64 sent, .int .i64 got, .bool cl]) u) :
    Calls Tryz.prog 188 #[.pointer (some ⟨b, 0, none⟩), .agg #[.int .i64 18, .int .i64 gr, .int .i64 o, .int .i64 wi, .int .i64 l, .int .i64 sz, .int .i64 f, .int .i64 t]] w fun x w' => ∃ v, x = .returned v ∧ OwnG layT w' w.heap.size v [⟨7, o, 0, false, true⟩] ∧ Fr w w' := by
  have fW := Fr.alloc w (.cells #[.int .i64 18, .int .i64 gr, .int .i64 o, .int .i64 wi, .int .i64 l, .int .i64 sz, .int .i64 f, .int .i64 t] 31)
  have kE := EvAt.new w ⟨18, gr, o, wi, l, sz, f, t⟩ 31
  have hb := fW.cell hb
  simp only at kE
  go_enter Tryz.func188, Tryz.ntmps188
  go_wp2_with fail
  obtain ⟨W, hW⟩ : ∃ W, W = w.alloc (.cells #[.int .i64 18, .int .i64 gr, .int .i64 o, .int .i64 wi, .int .i64 l, .int .i64 sz, .int .i64 f, .int .i64 t] 31) := ⟨_, rfl⟩
  rw [← hW] at fW kE hb ⊢
  clear hW
  obtain ⟨c0, c1, c2, c3, c4, c5, c6, c7⟩ := kE
  simp only at c0 c2
  clear c1 c3 c4 c5 c6 c7
  have HL : Hid (∀ u, Fr w u → (Instr.lookup 144 (.map (some b2)) (.int .i64 o) false).run Tryz.prog u = .ok (.agg #[.int .i64 co, .int .i64 cap, .int .i64 sent, .int .i64 got, .bool cl]) u) := hL
  clear hL
  have l1 := HL.out _ (fW.trans (Fr.drew W))
  have l2 := HL.out _ ((fW.trans (Fr.alloc W (.cells #[.int .i64 0, .int .i64 0, .int .i64 0, .int .i64 0, .bool false] 85))).trans (Fr.drew _))
  go_region_held3 (fun u => u.cell? ⟨b, 2, none⟩ = some (.map (some b2)) ∧ u.cell? ⟨w.heap.size, 2, none⟩ = some (.int .i64 o)) (go_keep) (fail)
  all_goals (
    clear l1 l2 HL
    obtain ⟨V, hV⟩ : ∃ V, V = (W.alloc (.cells #[.int .i64 co, .int .i64 cap, .int .i64 sent, .int .i64 got, .bool cl] 85)).drew := ⟨_, rfl⟩
    have fA : Fr W V := by rw [hV]; exact (Fr.alloc _ _).trans (Fr.drew _)
    have fV : Fr w V := fW.trans fA
    have x0 := fA.cell c0
    have x2 := fA.cell c2
    have y1 : V.cell? ⟨W.heap.size, 1, none⟩ = some (.int .i64 cap) := by rw [hV]; simp [go_sem]
    have y2 : V.cell? ⟨W.heap.size, 2, none⟩ = some (.int .i64 sent) := by rw [hV]; simp [go_sem]
    have y3 : V.cell? ⟨W.heap.size, 3, none⟩ = some (.int .i64 got) := by rw [hV]; simp [go_sem]
    rw [← hV]
    have hbV : w.heap.size ≤ V.heap.size := fV.size
    have z1 : w.heap.size < V.heap.size := World.block_lt_of_cell? V _ x0
    have z2 : W.heap.size < V.heap.size := World.block_lt_of_cell? V _ y1
    have n1 : ¬ w.heap.size = V.heap.size := by omega
    have n2 : ¬ w.heap.size = V.heap.size + 1 := by omega
    have n3 : ¬ W.heap.size = V.heap.size := by omega
    have n4 : ¬ W.heap.size = V.heap.size + 1 := by omega
    clear hV fA c0 c2 hb
    go_upto_block 0 with fail
    refine wp_block ?_
    refine wp_nestC [(1, _), (2, _), (3, _), (4, _), (5, _), (6, _), (7, _), (8, _), (9, _), (10, _), (11, _), (12, _), (13, _), (14, _), (15, _), (16, _)] _ ?_
    refine wp_opaque (fun Q0 hQ0 => ?_)
    have HQ0 : Hid _ := hQ0
    clear hQ0
    go_wp2_with fail
    refine HQ0.out _ _ _ (postC_at [(1, _), (2, _), (3, _), (4, _), (5, _), (6, _), (7, _), (8, _), (9, _), (10, _), (11, _), (12, _), (13, _)] (by rfl) ?_)
    clear HQ0
    refine wp_opaque (fun Q1 hQ1 => ?_)
    have HQ1 : Hid _ := hQ1
    clear hQ1
    go_wp2_with fail
    refine HQ1.out _ _ _ (postC_out _ (by rfl) (inBlock_same ?_))
    clear HQ1
    go_wp2_with (at_builtin; refine appGL layT _ rfl _ _ 194 _ 32 rfl Tryz.underlying194 Tryz.infoT rfl (by decide) w.heap.size (.slice (some ⟨V.heap.size + 1 + 1, 0, none⟩) 1 1) [⟨7, o, 0, false, true⟩] [] rfl (ownG_litK layT _ [⟨7, o, 0, false, true⟩] (by simp) _ rfl _ _ (by simp) (by omega)) ⟨V.heap.size + 1, 0, none⟩ 0 rfl (by simp) (by simp) (by simp; omega) ?_; intro v4 w4 hv4 hg4 hat4)
    go_ret
    refine ⟨v4, rfl, hv4, ?_⟩
    exact (((fV.trans (Fr.alloc _ _)).trans (Fr.alloc _ _)).trans (Fr.alloc _ _)).then hg4 (fun j hj => by simp only [Value.ownBlock, Option.some.injEq] at hj; omega))

set_option maxRecDepth 20000 in
set_option maxHeartbeats 2000000 in
theorem tchI_19 (b b2 : Nat) (co cap sent got : Int) (cl : Bool) (gr o wi l sz f t : Int) (w : World) (hb : w.cell? ⟨b, 2, none⟩ = some (.map (some b2)))
    (hL : ∀ u, Fr w u → (Instr.lookup 144 (.map (some b2)) (.int .i64 o) false).run Tryz.prog u = .ok (.agg #[.int .i64 co, .int .i64 cap, .int .i64 sent, .int .i64 got, .bool cl]) u) :
    Calls Tryz.prog 188 #[.pointer (some ⟨b, 0, none⟩), .agg #[.int .i64 19, .int .i64 gr, .int .i64 o, .int .i64 wi, .int .i64 l, .int .i64 sz, .int .i64 f, .int .i64 t]] w fun x w' => ∃ v, x = .returned v ∧ OwnG layT w' w.heap.size v [⟨7, o, 0, true, true⟩] ∧ Fr w w' := by
  have fW := Fr.alloc w (.cells #[.int .i64 19, .int .i64 gr, .int .i64 o, .int .i64 wi, .int .i64 l, .int .i64 sz, .int .i64 f, .int .i64 t] 31)
  have kE := EvAt.new w ⟨19, gr, o, wi, l, sz, f, t⟩ 31
  have hb := fW.cell hb
  simp only at kE
  go_enter Tryz.func188, Tryz.ntmps188
  go_wp2_with fail
  obtain ⟨W, hW⟩ : ∃ W, W = w.alloc (.cells #[.int .i64 19, .int .i64 gr, .int .i64 o, .int .i64 wi, .int .i64 l, .int .i64 sz, .int .i64 f, .int .i64 t] 31) := ⟨_, rfl⟩
  rw [← hW] at fW kE hb ⊢
  clear hW
  obtain ⟨c0, c1, c2, c3, c4, c5, c6, c7⟩ := kE
  simp only at c0 c2
  clear c1 c3 c4 c5 c6 c7
  have HL : Hid (∀ u, Fr w u → (Instr.lookup 144 (.map (some b2)) (.int .i64 o) false).run Tryz.prog u = .ok (.agg #[.int .i64 co, .int .i64 cap, .int .i64 sent, .int .i64 got, .bool cl]) u) := hL
  clear hL
  have l1 := HL.out _ (fW.trans (Fr.drew W))
  have l2 := HL.out _ ((fW.trans (Fr.alloc W (.cells #[.int .i64 0, .int .i64 0, .int .i64 0, .int .i64 0, .bool false] 85))).trans (Fr.drew _))
  go_region_held3 (fun u => u.cell? ⟨b, 2, none⟩ = some (.map (some b2)) ∧ u.cell? ⟨w.heap.size, 2, none⟩ = some (.int .i64 o)) (go_keep) (fail)
  all_goals (
    clear l1 l2 HL
    obtain ⟨V, hV⟩ : ∃ V, V = (W.alloc (.cells #[.int .i64 co, .int .i64 cap, .int .i64 sent, .int .i64 got, .bool cl] 85)).drew := ⟨_, rfl⟩
    have fA : Fr W V := by rw [hV]; exact (Fr.alloc _ _).trans (Fr.drew _)
    have fV : Fr w V := fW.trans fA
    have x0 := fA.cell c0
    have x2 := fA.cell c2
    have y1 : V.cell? ⟨W.heap.size, 1, none⟩ = some (.int .i64 cap) := by rw [hV]; simp [go_sem]
    have y2 : V.cell? ⟨W.heap.size, 2, none⟩ = some (.int .i64 sent) := by rw [hV]; simp [go_sem]
    have y3 : V.cell? ⟨W.heap.size, 3, none⟩ = some (.int .i64 got) := by rw [hV]; simp [go_sem]
    rw [← hV]
    have hbV : w.heap.size ≤ V.heap.size := fV.size
    have z1 : w.heap.size < V.heap.size := World.block_lt_of_cell? V _ x0
    have z2 : W.heap.size < V.heap.size := World.block_lt_of_cell? V _ y1
    have n1 : ¬ w.heap.size = V.heap.size := by omega
    have n2 : ¬ w.heap.size = V.heap.size + 1 := by omega
    have n3 : ¬ W.heap.size = V.heap.size := by omega
    have n4 : ¬ W.heap.size = V.heap.size + 1 := by omega
    clear hV fA c0 c2 hb
    go_upto_block 0 with fail
    refine wp_block ?_
    refine wp_nestC [(1, _), (2, _), (3, _), (4, _), (5, _), (6, _), (7, _), (8, _), (9, _), (10, _), (11, _), (12, _), (13, _), (14, _), (15, _), (16, _)] _ ?_
    refine wp_opaque (fun Q0 hQ0 => ?_)
    have HQ0 : Hid _ := hQ0
    clear hQ0
    go_wp2_with fail
    refine HQ0.out _ _ _ (postC_at [(1, _), (2, _), (3, _), (4, _), (5, _), (6, _), (7, _), (8, _), (9, _), (10, _), (11, _), (12, _)] (by rfl) ?_)
    clear HQ0
    refine wp_opaque (fun Q1 hQ1 => ?_)
    have HQ1 : Hid _ := hQ1
    clear hQ1
    go_wp2_with fail
    refine HQ1.out _ _ _ (postC_on ?_)
    clear HQ1
    refine wp_opaque (fun Q1 hQ1 => ?_)
    have HQ1 : Hid _ := hQ1
    clear hQ1
    go_wp2_with fail
    refine HQ1.out _ _ _ (postC_out _ (by rfl) (inBlock_same ?_))
    clear HQ1
    go_wp2_with (at_builtin; refine appGL layT _ rfl _ _ 194 _ 32 rfl Tryz.underlying194 Tryz.infoT rfl (by decide) w.heap.size (.slice (some ⟨V.heap.size + 1 + 1, 0, none⟩) 1 1) [⟨7, o, 0, true, true⟩] [] rfl (ownG_litK layT _ [⟨7, o, 0, true, true⟩] (by simp) _ rfl _ _ (by simp) (by omega)) ⟨V.heap.size + 1, 0, none⟩ 0 rfl (by simp) (by simp) (by simp; omega) ?_; intro v4 w4 hv4 hg4 hat4)
    go_ret
    refine ⟨v4, rfl, hv4, ?_⟩
    exact (((fV.trans (Fr.alloc _ _)).trans (Fr.alloc _ _)).trans (Fr.alloc _ _)).then hg4 (fun j hj => by simp only [Value.ownBlock, Option.some.injEq] at hj; omega))

set_option maxRecDepth 20000 in
set_option maxHeartbeats 2000000 in
theorem tchI_20 (b b2 : Nat) (co cap sent got : Int) (cl : Bool) (gr o wi l sz f t : Int) (w : World) (hb : w.cell? ⟨b, 2, none⟩ = some (.map (some b2)))
    (hL : ∀ u, Fr w u → (Instr.lookup 144 (.map (some b2)) (.int .i64 o) false).run Tryz.prog u = .ok (.agg #[.int .i64 co, .int .i64 cap, .int .i64 sent, .int .i64 got, .bool cl]) u) :
    Calls Tryz.prog 188 #[.pointer (some ⟨b, 0, none⟩), .agg #[.int .i64 20, .int .i64 gr, .int .i64 o, .int .i64 wi, .int .i64 l, .int .i64 sz, .int .i64 f, .int .i64 t]] w fun x w' => ∃ v, x = .returned v ∧ OwnG layT w' w.heap.size v [] ∧ Fr w w' := by
  have fW := Fr.alloc w (.cells #[.int .i64 20, .int .i64 gr, .int .i64 o, .int .i64 wi, .int .i64 l, .int .i64 sz, .int .i64 f, .int .i64 t] 31)
  have kE := EvAt.new w ⟨20, gr, o, wi, l, sz, f, t⟩ 31
  have hb := fW.cell hb
  simp only at kE
  go_enter Tryz.func188, Tryz.ntmps188
  go_wp2_with fail
  obtain ⟨W, hW⟩ : ∃ W, W = w.alloc (.cells #[.int .i64 20, .int .i64 gr, .int .i64 o, .int .i64 wi, .int .i64 l, .int .i64 sz, .int .i64 f, .int .i64 t] 31) := ⟨_, rfl⟩
  rw [← hW] at fW kE hb ⊢
  clear hW
  obtain ⟨c0, c1, c2, c3, c4, c5, c6, c7⟩ := kE
  simp only at c0 c2
  clear c1 c3 c4 c5 c6 c7
  have HL : Hid (∀ u, Fr w u → (Instr.lookup 144 (.map (some b2)) (.int .i64 o) false).run Tryz.prog u = .ok (.agg #[.int .i64 co, .int .i64 cap, .int .i64 sent, .int .i64 got, .bool cl]) u) := hL
  clear hL
  have l1 := HL.out _ (fW.trans (Fr.drew W))
  have l2 := HL.out _ ((fW.trans (Fr.alloc W (.cells #[.int .i64 0, .int .i64 0, .int .i64 0, .int .i64 0, .bool false] 85))).trans (Fr.drew _))
  go_region_held3 (fun u => u.cell? ⟨b, 2, none⟩ = some (.map (some b2)) ∧ u.cell? ⟨w.heap.size, 2, none⟩ = some (.int .i64 o)) (go_keep) (fail)
  all_goals (
    clear l1 l2 HL
    obtain ⟨V, hV⟩ : ∃ V, V = (W.alloc (.cells #[.int .i64 co, .int .i64 cap, .int .i64 sent, .int .i64 got, .bool cl] 85)).drew := ⟨_, rfl⟩
    have fA : Fr W V := by rw [hV]; exact (Fr.alloc _ _).trans (Fr.drew _)
    have fV : Fr w V := fW.trans fA
    have x0 := fA.cell c0
    have x2 := fA.cell c2
    have y1 : V.cell? ⟨W.heap.size, 1, none⟩ = some (.int .i64 cap) := by rw [hV]; simp [go_sem]
    have y2 : V.cell? ⟨W.heap.size, 2, none⟩ = some (.int .i64 sent) := by rw [hV]; simp [go_sem]
    have y3 : V.cell? ⟨W.heap.size, 3, none⟩ = some (.int .i64 got) := by rw [hV]; simp [go_sem]
    rw [← hV]
    have hbV : w.heap.size ≤ V.heap.size := fV.size
    have z1 : w.heap.size < V.heap.size := World.block_lt_of_cell? V _ x0
    have z2 : W.heap.size < V.heap.size := World.block_lt_of_cell? V _ y1
    have n1 : ¬ w.heap.size = V.heap.size := by omega
    have n2 : ¬ w.heap.size = V.heap.size + 1 := by omega
    have n3 : ¬ W.heap.size = V.heap.size := by omega
    have n4 : ¬ W.heap.size = V.heap.size + 1 := by omega
    clear hV fA c0 c2 hb
    go_upto_block 0 with fail
    refine wp_block ?_
    refine wp_nestC [(1, _), (2, _), (3, _), (4, _), (5, _), (6, _), (7, _), (8, _), (9, _), (10, _), (11, _), (12, _), (13, _), (14, _), (15, _), (16, _)] _ ?_
    refine wp_opaque (fun Q0 hQ0 => ?_)
    have HQ0 : Hid _ := hQ0
    clear hQ0
    go_wp2_with fail
    refine HQ0.out _ _ _ (postC_at [(1, _), (2, _), (3, _), (4, _), (5, _), (6, _), (7, _), (8, _), (9, _), (10, _), (11, _), (12, _), (13, _), (14, _), (15, _)] (by rfl) ?_)
    clear HQ0
    refine wp_opaque (fun Q1 hQ1 => ?_)
    have HQ1 : Hid _ := hQ1
    clear hQ1
    go_wp2_with fail
    refine HQ1.out _ _ _ (postC_ret _ ?_)
    clear HQ1
    repeat (first | refine inBlock_ret ?_ | refine then_ret ?_)
    go_ret
    refine ⟨.slice (some ⟨V.heap.size + 1 + 1, 0, none⟩) 0 0, rfl, ?_, ?_⟩
    · exact ownG_litK layT _ [] (by simp) _ rfl _ _ (by simp) (by omega)
    · exact ((fV.trans (Fr.alloc _ _)).trans (Fr.alloc _ _)).trans (Fr.alloc _ _))

set_option maxRecDepth 20000 in
set_option maxHeartbeats 2000000 in
theorem tchI_21 (b b2 : Nat) (co cap sent got : Int) (cl : Bool) (gr o wi l sz f t : Int) (w : World) (hb : w.cell? ⟨b, 2, none⟩ = some (.map (some b2)))
    (hL : ∀ u, Fr w u → (Instr.lookup 144 (.map (some b2)) (.int .i64 o) false).run Tryz.prog u = .ok (.agg #[.int .i64 co, .int .i64 cap, .int .i64 sent, .int .i64 got, .bool cl]) u) :
    Calls Tryz.prog 188 #[.pointer (some ⟨b, 0, none⟩), .agg #[.int .i64 21, .int .i64 gr, .int .i64 o, .int .i64 wi, .int .i64 l, .int .i64 sz, .int .i64 f, .int .i64 t]] w fun x w' => ∃ v, x = .returned v ∧ OwnG layT w' w.heap.size v [] ∧ Fr w w' := by
  have fW := Fr.alloc w (.cells #[.int .i64 21, .int .i64 gr, .int .i64 o, .int .i64 wi, .int .i64 l, .int .i64 sz, .int .i64 f, .int .i64 t] 31)
  have kE := EvAt.new w ⟨21, gr, o, wi, l, sz, f, t⟩ 31
  have hb := fW.cell hb
  simp only at kE
  go_enter Tryz.func188, Tryz.ntmps188
  go_wp2_with fail
  obtain ⟨W, hW⟩ : ∃ W, W = w.alloc (.cells #[.int .i64 21, .int .i64 gr, .int .i64 o, .int .i64 wi, .int .i64 l, .int .i64 sz, .int .i64 f, .int .i64 t] 31) := ⟨_, rfl⟩
  rw [← hW] at fW kE hb ⊢
  clear hW
  obtain ⟨c0, c1, c2, c3, c4, c5, c6, c7⟩ := kE
  simp only at c0 c2
  clear c1 c3 c4 c5 c6 c7
  have HL : Hid (∀ u, Fr w u → (Instr.lookup 144 (.map (some b2)) (.int .i64 o) false).run Tryz.prog u = .ok (.agg #[.int .i64 co, .int .i64 cap, .int .i64 sent, .int .i64 got, .bool cl]) u) := hL
  clear hL
  have l1 := HL.out _ (fW.trans (Fr.drew W))
  have l2 := HL.out _ ((fW.trans (Fr.alloc W (.cells #[.int .i64 0, .int .i64 0, .int .i64 0, .int .i64 0, .bool false] 85))).trans (Fr.drew _))
  go_region_held3 (fun u => u.cell? ⟨b, 2, none⟩ = some (.map (some b2)) ∧ u.cell? ⟨w.heap.size, 2, none⟩ = some (.int .i64 o)) (go_keep) (fail)
  all_goals (
    clear l1 l2 HL
    obtain ⟨V, hV⟩ : ∃ V, V = (W.alloc (.cells #[.int .i64 co, .int .i64 cap, .int .i64 sent, .int .i64 got, .bool cl] 85)).drew := ⟨_, rfl⟩
    have fA : Fr W V := by rw [hV]; exact (Fr.alloc _ _).trans (Fr.drew _)
    have fV : Fr w V := fW.trans fA
    have x0 := fA.cell c0
    have x2 := fA.cell c2
    have y1 : V.cell? ⟨W.heap.size, 1, none⟩ = some (.int .i64 cap) := by rw [hV]; simp [go_sem]
    have y2 : V.cell? ⟨W.heap.size, 2, none⟩ = some (.int .i64 sent) := by rw [hV]; simp [go_sem]
    have y3 : V.cell? ⟨W.heap.size, 3, none⟩ = some (.int .i64 got) := by rw [hV]; simp [go_sem]
    rw [← hV]
    have hbV : w.heap.size ≤ V.heap.size := fV.size
    have z1 : w.heap.size < V.heap.size := World.block_lt_of_cell? V _ x0
    have z2 : W.heap.size < V.heap.size := World.block_lt_of_cell? V _ y1
    have n1 : ¬ w.heap.size = V.heap.size := by omega
    have n2 : ¬ w.heap.size = V.heap.size + 1 := by omega
    have n3 : ¬ W.heap.size = V.heap.size := by omega
    have n4 : ¬ W.heap.size = V.heap.size + 1 := by omega
    clear hV fA c0 c2 hb
    go_upto_block 0 with fail
    refine wp_block ?_
    refine wp_nestC [(1, _), (2, _), (3, _), (4, _), (5, _), (6, _), (7, _), (8, _), (9, _), (10, _), (11, _), (12, _), (13, _), (14, _), (15, _), (16, _)] _ ?_
    refine wp_opaque (fun Q0 hQ0 => ?_)
    have HQ0 : Hid _ := hQ0
    clear hQ0
    go_wp2_with fail
    refine HQ0.out _ _ _ (postC_at [(1, _), (2, _), (3, _), (4, _), (5, _), (6, _), (7, _), (8, _), (9, _), (10, _), (11, _), (12, _), (13, _), (14, _), (15, _)] (by rfl) ?_)
    clear HQ0
    refine wp_opaque (fun Q1 hQ1 => ?_)
    have HQ1 : Hid _ := hQ1
    clear hQ1
    go_wp2_with fail
    refine HQ1.out _ _ _ (postC_ret _ ?_)
    clear HQ1
    repeat (first | refine inBlock_ret ?_ | refine then_ret ?_)
    go_ret
    refine ⟨.slice (some ⟨V.heap.size + 1 + 1, 0, none⟩) 0 0, rfl, ?_, ?_⟩
    · exact ownG_litK layT _ [] (by simp) _ rfl _ _ (by simp) (by omega)
    · exact ((fV.trans (Fr.alloc _ _)).trans (Fr.alloc _ _)).trans (Fr.alloc _ _))

set_option maxRecDepth 20000 in
set_option maxHeartbeats 2000000 in
theorem tchI_22 (b b2 : Nat) (co cap sent got : Int) (cl : Bool) (gr o wi l sz f t : Int) (w : World) (hb : w.cell? ⟨b, 2, none⟩ = some (.map (some b2)))
    (hL : ∀ u, Fr w u → (Instr.lookup 144 (.map (some b2)) (.int .i64 o) false).run Tryz.prog u = .ok (.agg #[.int .i64 co, .int .i64 cap, .int .i64 sent, .int .i64 got, .bool cl]) u) :
    Calls Tryz.prog 188 #[.pointer (some ⟨b, 0, none⟩), .agg #[.int .i64 22, .int .i64 gr, .int .i64 o, .int .i64 wi, .int .i64 l, .int .i64 sz, .int .i64 f, .int .i64 t]] w fun x w' => ∃ v, x = .returned v ∧ OwnG layT w' w.heap.size v [] ∧ Fr w w' := by
  have fW := Fr.alloc w (.cells #[.int .i64 22, .int .i64 gr, .int .i64 o, .int .i64 wi, .int .i64 l, .int .i64 sz, .int .i64 f, .int .i64 t] 31)
  have kE := EvAt.new w ⟨22, gr, o, wi, l, sz, f, t⟩ 31
  have hb := fW.cell hb
  simp only at kE
  go_enter Tryz.func188, Tryz.ntmps188
  go_wp2_with fail
  obtain ⟨W, hW⟩ : ∃ W, W = w.alloc (.cells #[.int .i64 22, .int .i64 gr, .int .i64 o, .int .i64 wi, .int .i64 l, .int .i64 sz, .int .i64 f, .int .i64 t] 31) := ⟨_, rfl⟩
  rw [← hW] at fW kE hb ⊢
  clear hW
  obtain ⟨c0, c1, c2, c3, c4, c5, c6, c7⟩ := kE
  simp only at c0 c2
  clear c1 c3 c4 c5 c6 c7
  have HL : Hid (∀ u, Fr w u → (Instr.lookup 144 (.map (some b2)) (.int .i64 o) false).run Tryz.prog u = .ok (.agg #[.int .i64 co, .int .i64 cap, .int .i64 sent, .int .i64 got, .bool cl]) u) := hL
  clear hL
  have l1 := HL.out _ (fW.trans (Fr.drew W))
  have l2 := HL.out _ ((fW.trans (Fr.alloc W (.cells #[.int .i64 0, .int .i64 0, .int .i64 0, .int .i64 0, .bool false] 85))).trans (Fr.drew _))
  go_region_held3 (fun u => u.cell? ⟨b, 2, none⟩ = some (.map (some b2)) ∧ u.cell? ⟨w.heap.size, 2, none⟩ = some (.int .i64 o)) (go_keep) (fail)
  all_goals (
    clear l1 l2 HL
    obtain ⟨V, hV⟩ : ∃ V, V = (W.alloc (.cells #[.int .i64 co, .int .i64 cap, .int .i64 sent, .int .i64 got, .bool cl] 85)).drew := ⟨_, rfl⟩
    have fA : Fr W V := by rw [hV]; exact (Fr.alloc _ _).trans (Fr.drew _)
    have fV : Fr w V := fW.trans fA
    have x0 := fA.cell c0
    have x2 := fA.cell c2
    have y1 : V.cell? ⟨W.heap.size, 1, none⟩ = some (.int .i64 cap) := by rw [hV]; simp [go_sem]
    have y2 : V.cell? ⟨W.heap.size, 2, none⟩ = some (.int .i64 sent) := by rw [hV]; simp [go_sem]
    have y3 : V.cell? ⟨W.heap.size, 3, none⟩ = some (.int .i64 got) := by rw [hV]; simp [go_sem]
    rw [← hV]
    have hbV : w.heap.size ≤ V.heap.size := fV.size
    have z1 : w.heap.size < V.heap.size := World.block_lt_of_cell? V _ x0
    have z2 : W.heap.size < V.heap.size := World.block_lt_of_cell? V _ y1
    have n1 : ¬ w.heap.size = V.heap.size := by omega
    have n2 : ¬ w.heap.size = V.heap.size + 1 := by omega
    have n3 : ¬ W.heap.size = V.heap.size := by omega
    have n4 : ¬ W.heap.size = V.heap.size + 1 := by omega
    clear hV fA c0 c2 hb
    go_upto_block 0 with fail
    refine wp_block ?_
    refine wp_nestC [(1, _), (2, _), (3, _), (4, _), (5, _), (6, _), (7, _), (8, _), (9, _), (10, _), (11, _), (12, _), (13, _), (14, _), (15, _), (16, _)] _ ?_
    refine wp_opaque (fun Q0 hQ0 => ?_)
    have HQ0 : Hid _ := hQ0
    clear hQ0
    go_wp2_with fail
    refine HQ0.out _ _ _ (postC_at [(1, _), (2, _), (3, _), (4, _), (5, _), (6, _), (7, _), (8, _), (9, _), (10, _), (11, _), (12, _), (13, _), (14, _), (15, _)] (by rfl) ?_)
    clear HQ0
    refine wp_opaque (fun Q1 hQ1 => ?_)
    have HQ1 : Hid _ := hQ1
    clear hQ1
    go_wp2_with fail
    refine HQ1.out _ _ _ (postC_ret _ ?_)
    clear HQ1
    repeat (first | refine inBlock_ret ?_ | refine then_ret ?_)
    go_ret
    refine ⟨.slice (some ⟨V.heap.size + 1 + 1, 0, none⟩) 0 0, rfl, ?_, ?_⟩
    · exact ownG_litK layT _ [] (by simp) _ rfl _ _ (by simp) (by omega)
    · exact ((fV.trans (Fr.alloc _ _)).trans (Fr.alloc _ _)).trans (Fr.alloc _ _))
end Go.Proofs.YtplnijpolkflcaaGreatDoor
namespace Go.Proofs.YtplnijpolkflcaaGreatDoor
open Go.RowKit

set_option maxHeartbeats 1000000 in
theorem thing_any (c : Tch) (w : World) :
    Calls Tryz.prog 202 #[.agg #[.int .i64 c.sp, .int .i64 c.ob, .int .i64 c.sl, .bool c.tk, .bool c.gv]] w fun e w' => e = .returned (.agg #[.int .i64 c.sp, .int .i64 c.ob, .int .i64 c.sl, .bool false, .bool false]) ∧ Fr w w' := by
  obtain ⟨sp, ob, sl, tk, gv⟩ := c
  simp only
  obtain ⟨U, hU⟩ : ∃ U, U = (w.alloc (.cells #[.int .i64 sp, .int .i64 ob, .int .i64 sl, .bool tk, .bool gv] 225)).alloc (.cells #[.int .i64 sp, .int .i64 ob, .int .i64 sl, .bool false, .bool false] 225) := ⟨_, rfl⟩
  have F : Fr w U := by rw [hU]; exact (Fr.alloc w _).trans (Fr.alloc _ _)
  have R : U.heap[w.heap.size + 1]? = some (.cells #[.int .i64 sp, .int .i64 ob, .int .i64 sl, .bool false, .bool false] 225 (0, 0)) := by
    have := heap_alloc_new (w.alloc (.cells #[.int .i64 sp, .int .i64 ob, .int .i64 sl, .bool tk, .bool gv] 225)) (.cells #[.int .i64 sp, .int .i64 ob, .int .i64 sl, .bool false, .bool false] 225)
    rw [World.size_alloc] at this
    rw [hU]
    exact this
  have d0 := cell_of_row _ _ 0 _ _ _ R
  have d1 := cell_of_row _ _ 1 _ _ _ R
  have d2 := cell_of_row _ _ 2 _ _ _ R
  have d3 := cell_of_row _ _ 3 _ _ _ R
  have d4 := cell_of_row _ _ 4 _ _ _ R
  clear R
  go_enter Tryz.func202, Tryz.ntmps202
  go_wp2_with fail
  rw [← hU]
  clear hU
  refine bodyPost_ret (v := .agg #[.int .i64 sp, .int .i64 ob, .int .i64 sl, .bool false, .bool false]) (by simp [results, Tryz.results202, go_sem, d0, d1, d2, d3, d4]) rfl ⟨rfl, F⟩

structure PastW (lo : Nat × Nat) (w : World) (p gm b b1 b2 b3 b4 nb nm : Nat) (m : Scn) (st la : Nat → Nat) (G : Int → Int → Int → Nat) : Prop where
  bd : BoardW lo w b b1 b2 b3 b4 nb m
  pt : w.cell? ⟨p, 0, none⟩ = some (.pointer (some ⟨b, 0, none⟩))
  mp : w.cell? ⟨p, 161, none⟩ = some (.map (some gm))
  st : ∀ g, g < 16 → PsC w p (1 + g * 5) (st g)
  la : ∀ g, g < 16 → PsC w p (81 + g * 5) (la g)
  row : RowAt w p 219
  mt : MapT w gm nm G
  ne : b < gm ∧ gm < p ∧ p < lo.2 ∧ lo.1 = 0
theorem PastW.fr {lo : Nat × Nat} {w w' : World} {p gm b b1 b2 b3 b4 nb nm : Nat} {m : Scn} {st la : Nat → Nat} {G : Int → Int → Int → Nat} (h : PastW lo w p gm b b1 b2 b3 b4 nb nm m st la G) (k : Fr w w') : PastW lo w' p gm b b1 b2 b3 b4 nb nm m st la G :=
  ⟨h.bd.fr k, k.cell h.pt, k.cell h.mp, fun g hg => (h.st g hg).fr k, fun g hg => (h.la g hg).fr k, h.row.fr k, h.mt.fr k, h.ne⟩

def goE (st la : Nat → Nat) (gs : List Int) : Nat := gs.foldl (fun N g => N ||| st g.toNat ||| la g.toNat) 0
def thE (G : Int → Int → Int → Nat) (N : Nat) (ts : List Tch) : Nat := ts.foldl (fun N t => if t.tk = true then N ||| G t.sp t.ob t.sl else N) N
theorem goE_one (st la : Nat → Nat) (gs : List Int) (g : Int) : goE st la (gs ++ [g]) = goE st la gs ||| st g.toNat ||| la g.toNat := by simp [goE]
theorem thE_one (G : Int → Int → Int → Nat) (N : Nat) (ts : List Tch) (t : Tch) : thE G N (ts ++ [t]) = if t.tk = true then thE G N ts ||| G t.sp t.ob t.sl else thE G N ts := by simp [thE]
theorem gors_in {e : Ev} (h : evOk e = true) {g : Int} (hg : g ∈ gorsL e) : 0 ≤ g ∧ g ≤ 15 := by
  have := evOk_gw h
  unfold gorsL at hg
  rw [if_pos h] at hg
  split at hg
  · simp only [List.mem_singleton] at hg
    subst hg
    exact this.1
  · rename_i q
    have h9 : e.k = 9 := by
      by_cases h9 : e.k = 9
      · exact h9
      · exact absurd (Or.inl h9) q
    have h2 := this.2 h9
    simp only [List.mem_cons, List.not_mem_nil, or_false] at hg
    rcases hg with rfl | rfl <;> omega
def T64 (t : Tch) : Prop := I64 t.sp ∧ I64 t.ob ∧ I64 t.sl

set_option maxRecDepth 20000 in
set_option maxHeartbeats 4000000 in
theorem edgesInto_any {lo : Nat × Nat} {p gm b b1 b2 b3 b4 nb nm : Nat} {m : Scn} {st la : Nat → Nat} {G : Int → Int → Int → Nat} (e : Ev) (ao : Option Addr) (n c : Nat) (ts : List Tch) (w : World) (h : PastW lo w p gm b b1 b2 b3 b4 nb nm m st la G) (he : evOk e = true)
    (hn : ts.length = n) (hr : ReadsG layT w ao ts) (ht : ∀ t ∈ ts, T64 t) (hs : Shapes w) :
    Calls Tryz.prog 189 #[.pointer (some ⟨p, 0, none⟩), .agg #[.int .i64 e.k, .int .i64 e.g, .int .i64 e.o, .int .i64 e.w, .int .i64 e.l, .int .i64 e.s, .int .i64 e.f, .int .i64 e.t], .slice ao n c] w fun x w' => x = .returned (.agg #[.int .u64 (wd (thE G (goE st la (gorsL e)) ts) 0), .int .u64 (wd (thE G (goE st la (gorsL e)) ts) 1), .int .u64 (wd (thE G (goE st la (gorsL e)) ts) 2), .int .u64 (wd (thE G (goE st la (gorsL e)) ts) 3), .int .u64 (wd (thE G (goE st la (gorsL e)) ts) 4)]) ∧ Fr w w' := by
  subst hn
  have cG := fun u (f : Fr w u) => implGors_any e u (hs.fr f)
  have hgi : ∀ g ∈ gorsL e, 0 ≤ g ∧ g ≤ 15 := fun g hg => gors_in he hg
  have hgl := gors_len e
  obtain ⟨gs, hgs⟩ : ∃ gs, gs = gorsL e := ⟨_, rfl⟩
  simp only [← hgs] at cG hgi hgl ⊢
  clear hgs he hs
  obtain ⟨k, gr, o, wi, l, sz, f, t⟩ := e
  simp only at cG ⊢
  obtain ⟨W, hW⟩ : ∃ W, W = (((w.alloc (.cells #[.int .i64 k, .int .i64 gr, .int .i64 o, .int .i64 wi, .int .i64 l, .int .i64 sz, .int .i64 f, .int .i64 t] 31)).alloc (.cells #[.int .u64 0, .int .u64 0, .int .u64 0, .int .u64 0, .int .u64 0] 100)).alloc (.cells #[.int .u64 0, .int .u64 0, .int .u64 0, .int .u64 0, .int .u64 0] 100)) := ⟨_, rfl⟩
  have f0 : Fr w W := by rw [hW]; exact ((Fr.alloc w _).trans (Fr.alloc _ _)).trans (Fr.alloc _ _)
  have rA : W.heap[w.heap.size + 1]? = some (.cells #[.int .u64 0, .int .u64 0, .int .u64 0, .int .u64 0, .int .u64 0] 100 (0, 0)) := by
    have := heap_alloc_new (w.alloc (.cells #[.int .i64 k, .int .i64 gr, .int .i64 o, .int .i64 wi, .int .i64 l, .int .i64 sz, .int .i64 f, .int .i64 t] 31)) (.cells #[.int .u64 0, .int .u64 0, .int .u64 0, .int .u64 0, .int .u64 0] 100)
    rw [World.size_alloc] at this
    rw [hW]
    exact ((Fr.alloc _ _).block _ (Array.getElem?_eq_some_iff.1 this).1 (by simp)).trans this
  have rB : W.heap[w.heap.size + 1 + 1]? = some (.cells #[.int .u64 0, .int .u64 0, .int .u64 0, .int .u64 0, .int .u64 0] 100 (0, 0)) := by
    have := heap_alloc_new ((w.alloc (.cells #[.int .i64 k, .int .i64 gr, .int .i64 o, .int .i64 wi, .int .i64 l, .int .i64 sz, .int .i64 f, .int .i64 t] 31)).alloc (.cells #[.int .u64 0, .int .u64 0, .int .u64 0, .int .u64 0, .int .u64 0] 100)) (.cells #[.int .u64 0, .int .u64 0, .int .u64 0, .int .u64 0, .int .u64 0] 100)
    rw [World.size_alloc, World.size_alloc] at this
    rw [hW]
    exact this
  go_enter Tryz.func189, Tryz.ntmps189
  go_wp2_with fail
  rw [← hW]
  clear hW
  have p0 : PsC W (w.heap.size + 1 + 1) 0 0 := by
    intro k hk
    rw [cell_of_row _ _ _ _ _ _ rB, wd_zero]
    rcases k with _ | _ | _ | _ | _ | k <;> first | rfl | omega
  have rI : RowAt W (w.heap.size + 1 + 1) 100 := ⟨_, rB⟩
  clear rB
  obtain ⟨A, hA⟩ : ∃ A, A = w.heap.size + 1 := ⟨_, rfl⟩
  rw [← hA] at rA p0 rI ⊢
  have HA : Hid (A = w.heap.size + 1) := hA
  clear hA
  refine (cG _ f0).mono ?_
  rintro x u1 ⟨gb, rfl, og, fg⟩
  clear cG
  have h1 := h.fr (f0.trans fg)
  have rA := (fg.block A (Array.getElem?_eq_some_iff.1 rA).1 (by simp)).trans rA
  have p1 := p0.fr fg
  have r1 := rI.fr fg
  have hr1 := hr.fr (f0.trans fg)
  have F1 := f0.trans fg
  have gR := og.reads
  have glt : A + 1 < gb ∧ gb < u1.heap.size := by
    have := own_lt og
    have := HA.out
    have := rI.lt
    omega
  have HG : Hid (A + 1 < gb) := glt.1
  have HB : Hid (w.heap.size ≤ A + 1) := by have := HA.out; exact (by omega : w.heap.size ≤ A + 1)
  have HW : Hid (PastW lo w p gm b b1 b2 b3 b4 nb nm m st la G) := h
  clear glt h rI p0 fg f0 og h1 hr1
  go_wp2_with fail
  go_loopw [16] (fun i wr => ∃ k : Nat, k ≤ gs.length ∧ i = .int .i64 k ∧ PsC wr (A + 1) 0 (goE st la (gs.take k)) ∧ RowAt wr (A + 1) 100 ∧ u1.grownBy wr (some (A + 1)) ∧ Fr w wr) (fun i _ => gs.length - (intOf i).toNat)
  case atStart => exact ⟨0, Nat.zero_le _, rfl, by simpa [goE] using p1, r1, (Fr.refl u1).wide, F1⟩
  case round =>
    obtain ⟨q, hq, rfl, hP, hR, hg, hF⟩ := hrel
    by_cases hlt : q < gs.length
    · obtain ⟨bb, off, e0, hc⟩ := (gR.keep hg (.inr (by simp only [blk, Option.map_some, ne_eq, Option.some.injEq]; have := HG.out; omega))).at_ q hlt
      simp only [Option.some.injEq, Addr.mk.injEq, and_true] at e0
      obtain ⟨rfl, rfl⟩ := e0
      have hck := hc q hlt
      rw [getD_at hlt] at hck
      have hgb := hgi _ (List.getElem_mem hlt)
      have HT : Hid (goE st la (gs.take (q + 1)) = goE st la (gs.take q) ||| st gs[q].toNat ||| la gs[q].toNat) := by
        rw [List.take_succ_eq_append_getElem hlt, goE_one]
        exact rfl
      obtain ⟨d, hd⟩ : ∃ d : Nat, gs[q] = d := ⟨gs[q].toNat, by omega⟩
      rw [hd] at hck hgb HT
      simp only [Int.toNat_natCast] at HT
      have hd16 : d < 16 := by omega
      have h1 := HW.out.fr hF
      have a0 := (h1.st d hd16) 0 (by omega); have a1 := (h1.st d hd16) 1 (by omega); have a2 := (h1.st d hd16) 2 (by omega); have a3 := (h1.st d hd16) 3 (by omega); have a4 := (h1.st d hd16) 4 (by omega)
      simp only [Nat.add_zero, Nat.zero_add] at a0 hck
      have hqi : (q : Int) < gs.length := by omega
      have cA := fun u (x : PsC u (A + 1) 0 (goE st la (gs.take q))) y => addAll_any (A + 1) 0 (goE st la (gs.take q)) (st d) 100 u x y
      have cB := fun u x y => addAll_any (A + 1) 0 (goE st la (gs.take q) ||| st d) (la d) 100 u x y
      have HL : Hid (∀ u, Fr w u → PsC u p (81 + d * 5) (la d)) := fun u fu => (HW.out.fr fu).la d hd16
      clear hc h1 hd hgb
      obtain ⟨N, hN⟩ : ∃ N, N = goE st la (gs.take q) := ⟨_, rfl⟩
      simp only [← hN] at cA cB hP HT
      clear hN
      go_wp2_with fail
      refine (cA _ hP hR).mono ?_
      rintro x u2 ⟨rfl, hP2, W2⟩
      have hF2 := hF.then W2.by_ (fun j hj => by cases hj; exact HB.out)
      have hg2 := grown_trans hg W2.by_
      have hR2 := W2.row
      have m1 := HL.out _ hF2
      have y0 := m1 0 (by omega); have y1 := m1 1 (by omega); have y2 := m1 2 (by omega); have y3 := m1 3 (by omega); have y4 := m1 4 (by omega)
      simp only [Nat.add_zero] at y0
      clear a0 a1 a2 a3 a4 m1 W2 cA hck
      go_wp2_with fail
      refine (cB _ hP2 hR2).mono ?_
      rintro x u3 ⟨rfl, hP3, W3⟩
      have hF3 := hF2.then W3.by_ (fun j hj => by cases hj; exact HB.out)
      have hg3 := grown_trans hg2 W3.by_
      have hR3 := W3.row
      clear y0 y1 y2 y3 y4 W3 cB
      go_wp2_with fail
      go_roundw
      case rel => exact ⟨q + 1, by omega, by go_num, by rw [HT.out]; exact hP3, hR3, hg3, hF3⟩
      case measure => simp [intOf]; omega
    · have e : q = gs.length := by omega
      subst e
      rw [List.take_length] at hP
      obtain ⟨N, hN⟩ : ∃ N, N = goE st la gs := ⟨_, rfl⟩
      rw [← hN] at hP
      have HN : Hid (N = goE st la gs) := hN
      have rA2 := (hg.block A (Array.getElem?_eq_some_iff.1 rA).1 (by simp)).trans rA
      clear hN gR hgi hgl p1 r1 F1 rA HG
      go_wp2_with fail
      go_loopw [37] (fun i wq => ∃ k : Nat, k ≤ ts.length ∧ i = .int .i64 k ∧ PsC wq (A + 1) 0 (thE G N (ts.take k)) ∧ RowAt wq (A + 1) 100 ∧ wr.grownBy wq (some (A + 1)) ∧ Fr w wq) (fun i _ => ts.length - (intOf i).toNat)
      case atStart => exact ⟨0, Nat.zero_le _, rfl, by simpa [thE] using hP, hR, (Fr.refl wr).wide, hF⟩
      case round =>
        obtain ⟨q, hq, rfl, hP2, hR2, hg2, hF2⟩ := hrel
        by_cases hlt : q < ts.length
        · obtain ⟨bb, off, rfl, x0, x1, x2, x3, x4⟩ := tc_at (hr.fr hF2) q hlt
          have hti := ht _ (List.getElem_mem hlt)
          have HT : Hid (thE G N (ts.take (q + 1)) = if ts[q].tk = true then thE G N (ts.take q) ||| G ts[q].sp ts[q].ob ts[q].sl else thE G N (ts.take q)) := by
            rw [List.take_succ_eq_append_getElem hlt, thE_one]
            exact rfl
          obtain ⟨T, hT⟩ : ∃ T, T = ts[q] := ⟨_, rfl⟩
          rw [← hT] at x0 x1 x2 x3 x4 hti HT
          clear hT
          obtain ⟨sp, ob, sl, tk, gv⟩ := T
          obtain ⟨M, hM⟩ : ∃ M, M = thE G N (ts.take q) := ⟨_, rfl⟩
          simp only [← hM] at x0 x1 x2 x3 x4 hP2 HT
          clear hM
          have hqi : (q : Int) < ts.length := by omega
          have htl := hr.len
          have f5 := Fr.alloc wr (.cells #[.int .i64 sp, .int .i64 ob, .int .i64 sl, .bool tk, .bool gv] 225)
          have k5 := heap_alloc_new wr (.cells #[.int .i64 sp, .int .i64 ob, .int .i64 sl, .bool tk, .bool gv] 225)
          cases tk
          · have HT2 : Hid (thE G N (ts.take (q + 1)) = M) := by rw [HT.out]; exact if_neg (by simp)
            clear HT k5
            go_wp2_with fail
            go_roundw
            case rel => exact ⟨q + 1, by omega, by go_num, by rw [HT2.out]; exact hP2.fr f5, hR2.fr f5, grown_trans hg2 f5.wide, hF2.trans f5⟩
            case measure => simp [intOf]; omega
          · have HT2 : Hid (thE G N (ts.take (q + 1)) = M ||| G sp ob sl) := by rw [HT.out]; exact if_pos rfl
            have HM : Hid (∀ u, Fr w u → (Instr.lookup 217 (.map (some gm)) (.agg #[.int .i64 sp, .int .i64 ob, .int .i64 sl, .bool false, .bool false]) false).run Tryz.prog u = .ok (.agg #[.int .u64 (wd (G sp ob sl) 0), .int .u64 (wd (G sp ob sl) 1), .int .u64 (wd (G sp ob sl) 2), .int .u64 (wd (G sp ob sl) 3), .int .u64 (wd (G sp ob sl) 4)]) u ∧ u.cell? ⟨p, 161, none⟩ = some (.map (some gm))) := fun u fu => ⟨((HW.out.fr fu).mt).look hti.1 hti.2.1 hti.2.2, (HW.out.fr fu).mp⟩
            have cT := fun u => thing_any ⟨sp, ob, sl, true, gv⟩ u
            have cA := fun u x y => addAll_any (A + 1) 0 M (G sp ob sl) 100 u x y
            simp only at cT
            clear HT hti ht hr
            go_wp2_with fail
            obtain ⟨V, hV⟩ : ∃ V, V = wr.alloc (.cells #[.int .i64 sp, .int .i64 ob, .int .i64 sl, .bool true, .bool gv] 225) := ⟨_, rfl⟩
            rw [← hV] at f5 k5 ⊢
            obtain ⟨TB, hTB⟩ : ∃ TB, TB = wr.heap.size := ⟨_, rfl⟩
            rw [← hTB] at k5 ⊢
            have HTB : Hid (TB = wr.heap.size) := hTB
            clear hV hTB x0 x1 x2 x3 x4
            have FV := hF2.trans f5
            have KT : Hid (∀ u, Fr V u → u.cell? ⟨TB, 0, none⟩ = some (.int .i64 sp) ∧ u.cell? ⟨TB, 1, none⟩ = some (.int .i64 ob) ∧ u.cell? ⟨TB, 2, none⟩ = some (.int .i64 sl) ∧ u.cell? ⟨TB, 3, none⟩ = some (.bool true) ∧ u.cell? ⟨TB, 4, none⟩ = some (.bool gv)) := fun u fu => ⟨fu.cell (cell_of_row _ _ 0 _ _ _ k5), fu.cell (cell_of_row _ _ 1 _ _ _ k5), fu.cell (cell_of_row _ _ 2 _ _ _ k5), fu.cell (cell_of_row _ _ 3 _ _ _ k5), fu.cell (cell_of_row _ _ 4 _ _ _ k5)⟩
            have mp := (HM.out V FV).2
            obtain ⟨t0, t1, t2, t3, t4⟩ := KT.out V (Fr.refl V)
            have PV := hP2.fr f5
            have RV := hR2.fr f5
            have GV := grown_trans hg2 f5.wide
            have hnp : ¬ (some p = some (A + 1)) := by
              have := HW.out.row.lt
              have := HB.out
              simp only [Option.some.injEq]
              omega
            have hnt : ¬ (some TB = some (A + 1)) := by
              have := hR2.lt
              have := HTB.out
              simp only [Option.some.injEq]
              omega
            clear hP2 hR2 hg2 f5
            go_region_held3 (fun u => u.cell? ⟨p, 161, none⟩ = some (.map (some gm)) ∧ u.cell? ⟨TB, 0, none⟩ = some (.int .i64 sp) ∧ u.cell? ⟨TB, 1, none⟩ = some (.int .i64 ob) ∧ u.cell? ⟨TB, 2, none⟩ = some (.int .i64 sl) ∧ u.cell? ⟨TB, 3, none⟩ = some (.bool true) ∧ u.cell? ⟨TB, 4, none⟩ = some (.bool gv)) (go_keep)
              (first | (go_at_call 202; refine (cT _).mono ?_; rintro x u5 ⟨rfl, f6⟩; have g6 := (Fr.drew V).trans f6; obtain ⟨lk, z9⟩ := HM.out u5 (FV.trans g6); obtain ⟨z0, z1, z2, z3, z4⟩ := KT.out u5 g6) | (go_at_call 146; refine (cA _ (PV.fr g6) (RV.fr g6)).mono ?_; rintro x u6 ⟨rfl, P6, W6⟩; have y9 := W6.by_.cell z9 hnp; have y0 := W6.by_.cell z0 hnt; have y1 := W6.by_.cell z1 hnt; have y2 := W6.by_.cell z2 hnt; have y3 := W6.by_.cell z3 hnt; have y4 := W6.by_.cell z4 hnt))
            all_goals
              have F6 := (FV.trans g6).then W6.by_ (fun j hj => by cases hj; exact HB.out)
              have G6 := grown_trans (grown_trans GV g6.wide) W6.by_
              have R6 := W6.row
              clear mp t0 t1 t2 t3 t4 z0 z1 z2 z3 z4 z9 y0 y1 y2 y3 y4 y9 lk W6 cA cT KT HM
              go_wp2_with fail
              go_roundw
              case rel => exact ⟨q + 1, by omega, by go_num, by rw [HT2.out]; exact P6, R6, G6, F6⟩
              case measure => simp [intOf]; omega
        · have e : q = ts.length := by omega
          subst e
          rw [List.take_length] at hP2
          have rA3 := (hg2.block A (Array.getElem?_eq_some_iff.1 rA2).1 (by simp)).trans rA2
          have HV : Hid (psV (thE G (goE st la gs) ts) = psV (thE G N ts)) := by rw [HN.out]; exact rfl
          have x0 := hP2 0 (by omega); have x1 := hP2 1 (by omega); have x2 := hP2 2 (by omega); have x3 := hP2 3 (by omega); have x4 := hP2 4 (by omega)
          simp only [Nat.zero_add] at x0 x1 x2 x3 x4
          obtain ⟨Z, hZ⟩ : ∃ Z, Z = thE G N ts := ⟨_, rfl⟩
          simp only [← hZ] at x0 x1 x2 x3 x4 HV
          clear hZ
          have rr : RowAt wr A 100 := ⟨_, rA3⟩
          have c0 := cell_of_row _ _ 0 _ _ _ rA3
          have c1 := cell_of_row _ _ 1 _ _ _ rA3
          have c2 := cell_of_row _ _ 2 _ _ _ rA3
          have c3 := cell_of_row _ _ 3 _ _ _ rA3
          have c4 := cell_of_row _ _ 4 _ _ _ rA3
          have v0 := rr.free 0
          have v1 := rr.free 1
          have v2 := rr.free 2
          have v3 := rr.free 3
          have v4 := rr.free 4
          have R := row5 rA3 (.int .u64 (wd Z 0)) (.int .u64 (wd Z 1)) (.int .u64 (wd Z 2)) (.int .u64 (wd Z 3)) (.int .u64 (wd Z 4))
          have F4 := hF2.then (put5 wr A (.int .u64 (wd Z 0)) (.int .u64 (wd Z 1)) (.int .u64 (wd Z 2)) (.int .u64 (wd Z 3)) (.int .u64 (wd Z 4))) (fun j hj => by cases hj; have := HA.out; omega)
          have RH : Hid _ := R
          have FH : Hid _ := F4
          obtain ⟨z0, hz0⟩ : ∃ x, x = wd Z 0 := ⟨_, rfl⟩
          obtain ⟨z1, hz1⟩ : ∃ x, x = wd Z 1 := ⟨_, rfl⟩
          obtain ⟨z2, hz2⟩ : ∃ x, x = wd Z 2 := ⟨_, rfl⟩
          obtain ⟨z3, hz3⟩ : ∃ x, x = wd Z 3 := ⟨_, rfl⟩
          obtain ⟨z4, hz4⟩ : ∃ x, x = wd Z 4 := ⟨_, rfl⟩
          unfold psV at HV
          simp only [← hz0, ← hz1, ← hz2, ← hz3, ← hz4] at x0 x1 x2 x3 x4 RH FH HV
          clear hz0 hz1 hz2 hz3 hz4 R F4 rr rA3 rA2 hP2 hP HN
          go_wp2_with fail
          have R := RH.out
          have d0 := cell_of_row _ _ 0 _ _ _ R
          have d1 := cell_of_row _ _ 1 _ _ _ R
          have d2 := cell_of_row _ _ 2 _ _ _ R
          have d3 := cell_of_row _ _ 3 _ _ _ R
          have d4 := cell_of_row _ _ 4 _ _ _ R
          refine bodyPost_ret (v := .agg #[.int .u64 z0, .int .u64 z1, .int .u64 z2, .int .u64 z3, .int .u64 z4]) (by simp [results, Tryz.results189, go_sem, d0, d1, d2, d3, d4]) rfl ⟨congrArg Ending.returned HV.out.symm, FH.out⟩
end Go.Proofs.YtplnijpolkflcaaGreatDoor
