/-
  The program's touches, kind by kind (18, 19, 20, 21, 22).
-/
import Derived.Test.YtihdablgnmkjnaaGreatDoorPackAV
import Derived.Test.YtihdablgnmkjnaaGreatDoorPackAS
import Derived.Test.YtihdablgnmkjnaaGreatDoorPackAU
import Derived.Test.YtihdablgnmkjnaaGreatDoorPackAW
import Derived.Test.YtihdablgnmkjnaaGreatDoorPackAB
namespace Go.Proofs.YtihdablgnmkjnaaGreatDoor
open Go.RowKit

set_option maxRecDepth 20000 in
set_option maxHeartbeats 2000000 in
theorem tchI_18 (b b2 : Nat) (co cap sent got : Int) (cl : Bool) (gr o wi l sz f t : Int) (w : World) (hb : w.cell? ⟨b, 2, none⟩ = some (.map (some b2)))
    (hL : ∀ u, Fr w u → (Instr.lookup 133 (.map (some b2)) (.int .i64 o) false).run Tryz.prog u = .ok (.agg #[.int .i64 co, .int .i64 cap, .int .i64 sent, .int .i64 got, .bool cl]) u) :
    Calls Tryz.prog 64 #[.pointer (some ⟨b, 0, none⟩), .agg #[.int .i64 18, .int .i64 gr, .int .i64 o, .int .i64 wi, .int .i64 l, .int .i64 sz, .int .i64 f, .int .i64 t]] w fun x w' => ∃ v, x = .returned v ∧ OwnG layT w' w.heap.size v [⟨7, o, 0, false, true⟩] ∧ Fr w w' := by
  have fW := Fr.alloc w (.cells #[.int .i64 18, .int .i64 gr, .int .i64 o, .int .i64 wi, .int .i64 l, .int .i64 sz, .int .i64 f, .int .i64 t] 31)
  have kE := EvAt.new w ⟨18, gr, o, wi, l, sz, f, t⟩ 31
  have hb := fW.cell hb
  simp only at kE
  go_enter Tryz.func64, Tryz.ntmps64
  go_wp2_with fail
  obtain ⟨W, hW⟩ : ∃ W, W = w.alloc (.cells #[.int .i64 18, .int .i64 gr, .int .i64 o, .int .i64 wi, .int .i64 l, .int .i64 sz, .int .i64 f, .int .i64 t] 31) := ⟨_, rfl⟩
  rw [← hW] at fW kE hb ⊢
  clear hW
  obtain ⟨c0, c1, c2, c3, c4, c5, c6, c7⟩ := kE
  simp only at c0 c2
  clear c1 c3 c4 c5 c6 c7
  have HL : Hid (∀ u, Fr w u → (Instr.lookup 133 (.map (some b2)) (.int .i64 o) false).run Tryz.prog u = .ok (.agg #[.int .i64 co, .int .i64 cap, .int .i64 sent, .int .i64 got, .bool cl]) u) := hL
  clear hL
  have l1 := HL.out _ (fW.trans (Fr.drew W))
  have l2 := HL.out _ ((fW.trans (Fr.alloc W (.cells #[.int .i64 0, .int .i64 0, .int .i64 0, .int .i64 0, .bool false] 87))).trans (Fr.drew _))
  go_region_held3 (fun u => u.cell? ⟨b, 2, none⟩ = some (.map (some b2)) ∧ u.cell? ⟨w.heap.size, 2, none⟩ = some (.int .i64 o)) (go_keep) (fail)
  all_goals (
    clear l1 l2 HL
    obtain ⟨V, hV⟩ : ∃ V, V = (W.alloc (.cells #[.int .i64 co, .int .i64 cap, .int .i64 sent, .int .i64 got, .bool cl] 87)).drew := ⟨_, rfl⟩
    have fA : Fr W V := by rw [hV]; exact (Fr.alloc _ _).trans (Fr.drew _)
    have fV : Fr w V := fW.trans fA
    have x0 := fA.cell c0
    have x2 := fA.cell c2
    have y1 : V.cell? ⟨W.heap.size, 1, none⟩ = some (.int .i64 cap) := by rw [hV]; simp [go_sem]
    have y2 : V.cell? ⟨W.heap.size, 2, none⟩ = some (.int .i64 sent) := by rw [hV]; simp [go_sem]
    have y3 : V.cell? ⟨W.heap.size, 3, none⟩ = some (.int .i64 got) := by rw [hV]; simp [go_sem]
    rw [← hV]
    have hbV : w.heap.size ≤ V.heap.size := fV.size
    have z1 : w.heap.size < V.heap.size := World.block_lt_of_cell? V _ x0
    have z2 : W.heap.size < V.heap.size := World.block_lt_of_cell? V _ y1
    have n1 : ¬ w.heap.size = V.heap.size := by omega
    have n2 : ¬ w.heap.size = V.heap.size + 1 := by omega
    have n3 : ¬ W.heap.size = V.heap.size := by omega
    have n4 : ¬ W.heap.size = V.heap.size + 1 := by omega
    clear hV fA c0 c2 hb
    go_upto_block 0 with fail
    refine wp_block ?_
    refine wp_nestC [(1, _), (2, _), (3, _), (4, _), (5, _), (6, _), (7, _), (8, _), (9, _), (10, _), (11, _), (12, _), (13, _), (14, _), (15, _), (16, _)] _ ?_
    refine wp_opaque (fun Q0 hQ0 => ?_)
    have HQ0 : Hid _ := hQ0
    clear hQ0
    go_wp2_with fail
    refine HQ0.out _ _ _ (postC_at [(1, _), (2, _), (3, _), (4, _), (5, _), (6, _), (7, _), (8, _), (9, _), (10, _), (11, _), (12, _), (13, _)] (by rfl) ?_)
    clear HQ0
    refine wp_opaque (fun Q1 hQ1 => ?_)
    have HQ1 : Hid _ := hQ1
    clear hQ1
    go_wp2_with fail
    refine HQ1.out _ _ _ (postC_out _ (by rfl) (inBlock_same ?_))
    clear HQ1
    go_wp2_with (at_builtin; refine appGL layT _ rfl _ _ 49 _ 32 rfl Tryz.underlying49 Tryz.infoT rfl (by decide) w.heap.size (.slice (some ⟨V.heap.size + 1 + 1, 0, none⟩) 1 1) [⟨7, o, 0, false, true⟩] [] rfl (ownG_litK layT _ [⟨7, o, 0, false, true⟩] (by simp) _ rfl _ _ (by simp) (by omega)) ⟨V.heap.size + 1, 0, none⟩ 0 rfl (by simp) (by simp) (by simp; omega) ?_; intro v4 w4 hv4 hg4 hat4)
    go_ret
    refine ⟨v4, rfl, hv4, ?_⟩
    exact (((fV.trans (Fr.alloc _ _)).trans (Fr.alloc _ _)).trans (Fr.alloc _ _)).then hg4 (fun j hj => by simp only [Value.ownBlock, Option.some.injEq] at hj; omega))

set_option maxRecDepth 20000 in
set_option maxHeartbeats 2000000 in
theorem tchI_19 (b b2 : Nat) (co cap sent got : Int) (cl : Bool) (gr o wi l sz f t : Int) (w : World) (hb : w.cell? ⟨b, 2, none⟩ = some (.map (some b2)))
    (hL : ∀ u, Fr w u → (Instr.lookup 133 (.map (some b2)) (.int .i64 o) false).run Tryz.prog u = .ok (.agg #[.int .i64 co, .int .i64 cap, .int .i64 sent, .int .i64 got, .bool cl]) u) :
    Calls Tryz.prog 64 #[.pointer (some ⟨b, 0, none⟩), .agg #[.int .i64 19, .int .i64 gr, .int .i64 o, .int .i64 wi, .int .i64 l, .int .i64 sz, .int .i64 f, .int .i64 t]] w fun x w' => ∃ v, x = .returned v ∧ OwnG layT w' w.heap.size v [⟨7, o, 0, true, true⟩] ∧ Fr w w' := by
  have fW := Fr.alloc w (.cells #[.int .i64 19, .int .i64 gr, .int .i64 o, .int .i64 wi, .int .i64 l, .int .i64 sz, .int .i64 f, .int .i64 t] 31)
  have kE := EvAt.new w ⟨19, gr, o, wi, l, sz, f, t⟩ 31
  have hb := fW.cell hb
  simp only at kE
  go_enter Tryz.func64, Tryz.ntmps64
  go_wp2_with fail
  obtain ⟨W, hW⟩ : ∃ W, W = w.alloc (.cells #[.int .i64 19, .int .i64 gr, .int .i64 o, .int .i64 wi, .int .i64 l, .int .i64 sz, .int .i64 f, .int .i64 t] 31) := ⟨_, rfl⟩
  rw [← hW] at fW kE hb ⊢
  clear hW
  obtain ⟨c0, c1, c2, c3, c4, c5, c6, c7⟩ := kE
  simp only at c0 c2
  clear c1 c3 c4 c5 c6 c7
  have HL : Hid (∀ u, Fr w u → (Instr.lookup 133 (.map (some b2)) (.int .i64 o) false).run Tryz.prog u = .ok (.agg #[.int .i64 co, .int .i64 cap, .int .i64 sent, .int .i64 got, .bool cl]) u) := hL
  clear hL
  have l1 := HL.out _ (fW.trans (Fr.drew W))
  have l2 := HL.out _ ((fW.trans (Fr.alloc W (.cells #[.int .i64 0, .int .i64 0, .int .i64 0, .int .i64 0, .bool false] 87))).trans (Fr.drew _))
  go_region_held3 (fun u => u.cell? ⟨b, 2, none⟩ = some (.map (some b2)) ∧ u.cell? ⟨w.heap.size, 2, none⟩ = some (.int .i64 o)) (go_keep) (fail)
  all_goals (
    clear l1 l2 HL
    obtain ⟨V, hV⟩ : ∃ V, V = (W.alloc (.cells #[.int .i64 co, .int .i64 cap, .int .i64 sent, .int .i64 got, .bool cl] 87)).drew := ⟨_, rfl⟩
    have fA : Fr W V := by rw [hV]; exact (Fr.alloc _ _).trans (Fr.drew _)
    have fV : Fr w V := fW.trans fA
    have x0 := fA.cell c0
    have x2 := fA.cell c2
    have y1 : V.cell? ⟨W.heap.size, 1, none⟩ = some (.int .i64 cap) := by rw [hV]; simp [go_sem]
    have y2 : V.cell? ⟨W.heap.size, 2, none⟩ = some (.int .i64 sent) := by rw [hV]; simp [go_sem]
    have y3 : V.cell? ⟨W.heap.size, 3, none⟩ = some (.int .i64 got) := by rw [hV]; simp [go_sem]
    rw [← hV]
    have hbV : w.heap.size ≤ V.heap.size := fV.size
    have z1 : w.heap.size < V.heap.size := World.block_lt_of_cell? V _ x0
    have z2 : W.heap.size < V.heap.size := World.block_lt_of_cell? V _ y1
    have n1 : ¬ w.heap.size = V.heap.size := by omega
    have n2 : ¬ w.heap.size = V.heap.size + 1 := by omega
    have n3 : ¬ W.heap.size = V.heap.size := by omega
    have n4 : ¬ W.heap.size = V.heap.size + 1 := by omega
    clear hV fA c0 c2 hb
    go_upto_block 0 with fail
    refine wp_block ?_
    refine wp_nestC [(1, _), (2, _), (3, _), (4, _), (5, _), (6, _), (7, _), (8, _), (9, _), (10, _), (11, _), (12, _), (13, _), (14, _), (15, _), (16, _)] _ ?_
    refine wp_opaque (fun Q0 hQ0 => ?_)
    have HQ0 : Hid _ := hQ0
    clear hQ0
    go_wp2_with fail
    refine HQ0.out _ _ _ (postC_at [(1, _), (2, _), (3, _), (4, _), (5, _), (6, _), (7, _), (8, _), (9, _), (10, _), (11, _), (12, _)] (by rfl) ?_)
    clear HQ0
    refine wp_opaque (fun Q1 hQ1 => ?_)
    have HQ1 : Hid _ := hQ1
    clear hQ1
    go_wp2_with fail
    refine HQ1.out _ _ _ (postC_on ?_)
    clear HQ1
    refine wp_opaque (fun Q1 hQ1 => ?_)
    have HQ1 : Hid _ := hQ1
    clear hQ1
    go_wp2_with fail
    refine HQ1.out _ _ _ (postC_out _ (by rfl) (inBlock_same ?_))
    clear HQ1
    go_wp2_with (at_builtin; refine appGL layT _ rfl _ _ 49 _ 32 rfl Tryz.underlying49 Tryz.infoT rfl (by decide) w.heap.size (.slice (some ⟨V.heap.size + 1 + 1, 0, none⟩) 1 1) [⟨7, o, 0, true, true⟩] [] rfl (ownG_litK layT _ [⟨7, o, 0, true, true⟩] (by simp) _ rfl _ _ (by simp) (by omega)) ⟨V.heap.size + 1, 0, none⟩ 0 rfl (by simp) (by simp) (by simp; omega) ?_; intro v4 w4 hv4 hg4 hat4)
    go_ret
    refine ⟨v4, rfl, hv4, ?_⟩
    exact (((fV.trans (Fr.alloc _ _)).trans (Fr.alloc _ _)).trans (Fr.alloc _ _)).then hg4 (fun j hj => by simp only [Value.ownBlock, Option.some.injEq] at hj; omega))

set_option maxRecDepth 20000 in
set_option maxHeartbeats 2000000 in
theorem tchI_20 (b b2 : Nat) (co cap sent got : Int) (cl : Bool) (gr o wi l sz f t : Int) (w : World) (hb : w.cell? ⟨b, 2, none⟩ = some (.map (some b2)))
    (hL : ∀ u, Fr w u → (Instr.lookup 133 (.map (some b2)) (.int .i64 o) false).run Tryz.prog u = .ok (.agg #[.int .i64 co, .int .i64 cap, .int .i64 sent, .int .i64 got, .bool cl]) u) :
    Calls Tryz.prog 64 #[.pointer (some ⟨b, 0, none⟩), .agg #[.int .i64 20, .int .i64 gr, .int .i64 o, .int .i64 wi, .int .i64 l, .int .i64 sz, .int .i64 f, .int .i64 t]] w fun x w' => ∃ v, x = .returned v ∧ OwnG layT w' w.heap.size v [] ∧ Fr w w' := by
  have fW := Fr.alloc w (.cells #[.int .i64 20, .int .i64 gr, .int .i64 o, .int .i64 wi, .int .i64 l, .int .i64 sz, .int .i64 f, .int .i64 t] 31)
  have kE := EvAt.new w ⟨20, gr, o, wi, l, sz, f, t⟩ 31
  have hb := fW.cell hb
  simp only at kE
  go_enter Tryz.func64, Tryz.ntmps64
  go_wp2_with fail
  obtain ⟨W, hW⟩ : ∃ W, W = w.alloc (.cells #[.int .i64 20, .int .i64 gr, .int .i64 o, .int .i64 wi, .int .i64 l, .int .i64 sz, .int .i64 f, .int .i64 t] 31) := ⟨_, rfl⟩
  rw [← hW] at fW kE hb ⊢
  clear hW
  obtain ⟨c0, c1, c2, c3, c4, c5, c6, c7⟩ := kE
  simp only at c0 c2
  clear c1 c3 c4 c5 c6 c7
  have HL : Hid (∀ u, Fr w u → (Instr.lookup 133 (.map (some b2)) (.int .i64 o) false).run Tryz.prog u = .ok (.agg #[.int .i64 co, .int .i64 cap, .int .i64 sent, .int .i64 got, .bool cl]) u) := hL
  clear hL
  have l1 := HL.out _ (fW.trans (Fr.drew W))
  have l2 := HL.out _ ((fW.trans (Fr.alloc W (.cells #[.int .i64 0, .int .i64 0, .int .i64 0, .int .i64 0, .bool false] 87))).trans (Fr.drew _))
  go_region_held3 (fun u => u.cell? ⟨b, 2, none⟩ = some (.map (some b2)) ∧ u.cell? ⟨w.heap.size, 2, none⟩ = some (.int .i64 o)) (go_keep) (fail)
  all_goals (
    clear l1 l2 HL
    obtain ⟨V, hV⟩ : ∃ V, V = (W.alloc (.cells #[.int .i64 co, .int .i64 cap, .int .i64 sent, .int .i64 got, .bool cl] 87)).drew := ⟨_, rfl⟩
    have fA : Fr W V := by rw [hV]; exact (Fr.alloc _ _).trans (Fr.drew _)
    have fV : Fr w V := fW.trans fA
    have x0 := fA.cell c0
    have x2 := fA.cell c2
    have y1 : V.cell? ⟨W.heap.size, 1, none⟩ = some (.int .i64 cap) := by rw [hV]; simp [go_sem]
    have y2 : V.cell? ⟨W.heap.size, 2, none⟩ = some (.int .i64 sent) := by rw [hV]; simp [go_sem]
    have y3 : V.cell? ⟨W.heap.size, 3, none⟩ = some (.int .i64 got) := by rw [hV]; simp [go_sem]
    rw [← hV]
    have hbV : w.heap.size ≤ V.heap.size := fV.size
    have z1 : w.heap.size < V.heap.size := World.block_lt_of_cell? V _ x0
    have z2 : W.heap.size < V.heap.size := World.block_lt_of_cell? V _ y1
    have n1 : ¬ w.heap.size = V.heap.size := by omega
    have n2 : ¬ w.heap.size = V.heap.size + 1 := by omega
    have n3 : ¬ W.heap.size = V.heap.size := by omega
    have n4 : ¬ W.heap.size = V.heap.size + 1 := by omega
    clear hV fA c0 c2 hb
    go_upto_block 0 with fail
    refine wp_block ?_
    refine wp_nestC [(1, _), (2, _), (3, _), (4, _), (5, _), (6, _), (7, _), (8, _), (9, _), (10, _), (11, _), (12, _), (13, _), (14, _), (15, _), (16, _)] _ ?_
    refine wp_opaque (fun Q0 hQ0 => ?_)
    have HQ0 : Hid _ := hQ0
    clear hQ0
    go_wp2_with fail
    refine HQ0.out _ _ _ (postC_at [(1, _), (2, _), (3, _), (4, _), (5, _), (6, _), (7, _), (8, _), (9, _), (10, _), (11, _), (12, _), (13, _), (14, _), (15, _)] (by rfl) ?_)
    clear HQ0
    refine wp_opaque (fun Q1 hQ1 => ?_)
    have HQ1 : Hid _ := hQ1
    clear hQ1
    go_wp2_with fail
    refine HQ1.out _ _ _ (postC_ret _ ?_)
    clear HQ1
    repeat (first | refine inBlock_ret ?_ | refine then_ret ?_)
    go_ret
    refine ⟨.slice (some ⟨V.heap.size + 1 + 1, 0, none⟩) 0 0, rfl, ?_, ?_⟩
    · exact ownG_litK layT _ [] (by simp) _ rfl _ _ (by simp) (by omega)
    · exact ((fV.trans (Fr.alloc _ _)).trans (Fr.alloc _ _)).trans (Fr.alloc _ _))

set_option maxRecDepth 20000 in
set_option maxHeartbeats 2000000 in
theorem tchI_21 (b b2 : Nat) (co cap sent got : Int) (cl : Bool) (gr o wi l sz f t : Int) (w : World) (hb : w.cell? ⟨b, 2, none⟩ = some (.map (some b2)))
    (hL : ∀ u, Fr w u → (Instr.lookup 133 (.map (some b2)) (.int .i64 o) false).run Tryz.prog u = .ok (.agg #[.int .i64 co, .int .i64 cap, .int .i64 sent, .int .i64 got, .bool cl]) u) :
    Calls Tryz.prog 64 #[.pointer (some ⟨b, 0, none⟩), .agg #[.int .i64 21, .int .i64 gr, .int .i64 o, .int .i64 wi, .int .i64 l, .int .i64 sz, .int .i64 f, .int .i64 t]] w fun x w' => ∃ v, x = .returned v ∧ OwnG layT w' w.heap.size v [] ∧ Fr w w' := by
  have fW := Fr.alloc w (.cells #[.int .i64 21, .int .i64 gr, .int .i64 o, .int .i64 wi, .int .i64 l, .int .i64 sz, .int .i64 f, .int .i64 t] 31)
  have kE := EvAt.new w ⟨21, gr, o, wi, l, sz, f, t⟩ 31
  have hb := fW.cell hb
  simp only at kE
  go_enter Tryz.func64, Tryz.ntmps64
  go_wp2_with fail
  obtain ⟨W, hW⟩ : ∃ W, W = w.alloc (.cells #[.int .i64 21, .int .i64 gr, .int .i64 o, .int .i64 wi, .int .i64 l, .int .i64 sz, .int .i64 f, .int .i64 t] 31) := ⟨_, rfl⟩
  rw [← hW] at fW kE hb ⊢
  clear hW
  obtain ⟨c0, c1, c2, c3, c4, c5, c6, c7⟩ := kE
  simp only at c0 c2
  clear c1 c3 c4 c5 c6 c7
  have HL : Hid (∀ u, Fr w u → (Instr.lookup 133 (.map (some b2)) (.int .i64 o) false).run Tryz.prog u = .ok (.agg #[.int .i64 co, .int .i64 cap, .int .i64 sent, .int .i64 got, .bool cl]) u) := hL
  clear hL
  have l1 := HL.out _ (fW.trans (Fr.drew W))
  have l2 := HL.out _ ((fW.trans (Fr.alloc W (.cells #[.int .i64 0, .int .i64 0, .int .i64 0, .int .i64 0, .bool false] 87))).trans (Fr.drew _))
  go_region_held3 (fun u => u.cell? ⟨b, 2, none⟩ = some (.map (some b2)) ∧ u.cell? ⟨w.heap.size, 2, none⟩ = some (.int .i64 o)) (go_keep) (fail)
  all_goals (
    clear l1 l2 HL
    obtain ⟨V, hV⟩ : ∃ V, V = (W.alloc (.cells #[.int .i64 co, .int .i64 cap, .int .i64 sent, .int .i64 got, .bool cl] 87)).drew := ⟨_, rfl⟩
    have fA : Fr W V := by rw [hV]; exact (Fr.alloc _ _).trans (Fr.drew _)
    have fV : Fr w V := fW.trans fA
    have x0 := fA.cell c0
    have x2 := fA.cell c2
    have y1 : V.cell? ⟨W.heap.size, 1, none⟩ = some (.int .i64 cap) := by rw [hV]; simp [go_sem]
    have y2 : V.cell? ⟨W.heap.size, 2, none⟩ = some (.int .i64 sent) := by rw [hV]; simp [go_sem]
    have y3 : V.cell? ⟨W.heap.size, 3, none⟩ = some (.int .i64 got) := by rw [hV]; simp [go_sem]
    rw [← hV]
    have hbV : w.heap.size ≤ V.heap.size := fV.size
    have z1 : w.heap.size < V.heap.size := World.block_lt_of_cell? V _ x0
    have z2 : W.heap.size < V.heap.size := World.block_lt_of_cell? V _ y1
    have n1 : ¬ w.heap.size = V.heap.size := by omega
    have n2 : ¬ w.heap.size = V.heap.size + 1 := by omega
    have n3 : ¬ W.heap.size = V.heap.size := by omega
    have n4 : ¬ W.heap.size = V.heap.size + 1 := by omega
    clear hV fA c0 c2 hb
    go_upto_block 0 with fail
    refine wp_block ?_
    refine wp_nestC [(1, _), (2, _), (3, _), (4, _), (5, _), (6, _), (7, _), (8, _), (9, _), (10, _), (11, _), (12, _), (13, _), (14, _), (15, _), (16, _)] _ ?_
    refine wp_opaque (fun Q0 hQ0 => ?_)
    have HQ0 : Hid _ := hQ0
    clear hQ0
    go_wp2_with fail
    refine HQ0.out _ _ _ (postC_at [(1, _), (2, _), (3, _), (4, _), (5, _), (6, _), (7, _), (8, _), (9, _), (10, _), (11, _), (12, _), (13, _), (14, _), (15, _)] (by rfl) ?_)
    clear HQ0
    refine wp_opaque (fun Q1 hQ1 => ?_)
    have HQ1 : Hid _ := hQ1
    clear hQ1
    go_wp2_with fail
    refine HQ1.out _ _ _ (postC_ret _ ?_)
    clear HQ1
    repeat (first | refine inBlock_ret ?_ | refine then_ret ?_)
    go_ret
    refine ⟨.slice (some ⟨V.heap.size + 1 + 1, 0, none⟩) 0 0, rfl, ?_, ?_⟩
    · exact ownG_litK layT _ [] (by simp) _ rfl _ _ (by simp) (by omega)
    · exact ((fV.trans (Fr.alloc _ _)).trans (Fr.alloc _ _)).trans (Fr.alloc _ _))

set_option maxRecDepth 20000 in
set_option maxHeartbeats 2000000 in
theorem tchI_22 (b b2 : Nat) (co cap sent got : Int) (cl : Bool) (gr o wi l sz f t : Int) (w : World) (hb : w.cell? ⟨b, 2, none⟩ = some (.map (some b2)))
    (hL : ∀ u, Fr w u → (Instr.lookup 133 (.map (some b2)) (.int .i64 o) false).run Tryz.prog u = .ok (.agg #[.int .i64 co, .int .i64 cap, .int .i64 sent, .int .i64 got, .bool cl]) u) :
    Calls Tryz.prog 64 #[.pointer (some ⟨b, 0, none⟩), .agg #[.int .i64 22, .int .i64 gr, .int .i64 o, .int .i64 wi, .int .i64 l, .int .i64 sz, .int .i64 f, .int .i64 t]] w fun x w' => ∃ v, x = .returned v ∧ OwnG layT w' w.heap.size v [] ∧ Fr w w' := by
  have fW := Fr.alloc w (.cells #[.int .i64 22, .int .i64 gr, .int .i64 o, .int .i64 wi, .int .i64 l, .int .i64 sz, .int .i64 f, .int .i64 t] 31)
  have kE := EvAt.new w ⟨22, gr, o, wi, l, sz, f, t⟩ 31
  have hb := fW.cell hb
  simp only at kE
  go_enter Tryz.func64, Tryz.ntmps64
  go_wp2_with fail
  obtain ⟨W, hW⟩ : ∃ W, W = w.alloc (.cells #[.int .i64 22, .int .i64 gr, .int .i64 o, .int .i64 wi, .int .i64 l, .int .i64 sz, .int .i64 f, .int .i64 t] 31) := ⟨_, rfl⟩
  rw [← hW] at fW kE hb ⊢
  clear hW
  obtain ⟨c0, c1, c2, c3, c4, c5, c6, c7⟩ := kE
  simp only at c0 c2
  clear c1 c3 c4 c5 c6 c7
  have HL : Hid (∀ u, Fr w u → (Instr.lookup 133 (.map (some b2)) (.int .i64 o) false).run Tryz.prog u = .ok (.agg #[.int .i64 co, .int .i64 cap, .int .i64 sent, .int .i64 got, .bool cl]) u) := hL
  clear hL
  have l1 := HL.out _ (fW.trans (Fr.drew W))
  have l2 := HL.out _ ((fW.trans (Fr.alloc W (.cells #[.int .i64 0, .int .i64 0, .int .i64 0, .int .i64 0, .bool false] 87))).trans (Fr.drew _))
  go_region_held3 (fun u => u.cell? ⟨b, 2, none⟩ = some (.map (some b2)) ∧ u.cell? ⟨w.heap.size, 2, none⟩ = some (.int .i64 o)) (go_keep) (fail)
  all_goals (
    clear l1 l2 HL
    obtain ⟨V, hV⟩ : ∃ V, V = (W.alloc (.cells #[.int .i64 co, .int .i64 cap, .int .i64 sent, .int .i64 got, .bool cl] 87)).drew := ⟨_, rfl⟩
    have fA : Fr W V := by rw [hV]; exact (Fr.alloc _ _).trans (Fr.drew _)
    have fV : Fr w V := fW.trans fA
    have x0 := fA.cell c0
    have x2 := fA.cell c2
    have y1 : V.cell? ⟨W.heap.size, 1, none⟩ = some (.int .i64 cap) := by rw [hV]; simp [go_sem]
    have y2 : V.cell? ⟨W.heap.size, 2, none⟩ = some (.int .i64 sent) := by rw [hV]; simp [go_sem]
    have y3 : V.cell? ⟨W.heap.size, 3, none⟩ = some (.int .i64 got) := by rw [hV]; simp [go_sem]
    rw [← hV]
    have hbV : w.heap.size ≤ V.heap.size := fV.size
    have z1 : w.heap.size < V.heap.size := World.block_lt_of_cell? V _ x0
    have z2 : W.heap.size < V.heap.size := World.block_lt_of_cell? V _ y1
    have n1 : ¬ w.heap.size = V.heap.size := by omega
    have n2 : ¬ w.heap.size = V.heap.size + 1 := by omega
    have n3 : ¬ W.heap.size = V.heap.size := by omega
    have n4 : ¬ W.heap.size = V.heap.size + 1 := by omega
    clear hV fA c0 c2 hb
    go_upto_block 0 with fail
    refine wp_block ?_
    refine wp_nestC [(1, _), (2, _), (3, _), (4, _), (5, _), (6, _), (7, _), (8, _), (9, _), (10, _), (11, _), (12, _), (13, _), (14, _), (15, _), (16, _)] _ ?_
    refine wp_opaque (fun Q0 hQ0 => ?_)
    have HQ0 : Hid _ := hQ0
    clear hQ0
    go_wp2_with fail
    refine HQ0.out _ _ _ (postC_at [(1, _), (2, _), (3, _), (4, _), (5, _), (6, _), (7, _), (8, _), (9, _), (10, _), (11, _), (12, _), (13, _), (14, _), (15, _)] (by rfl) ?_)
    clear HQ0
    refine wp_opaque (fun Q1 hQ1 => ?_)
    have HQ1 : Hid _ := hQ1
    clear hQ1
    go_wp2_with fail
    refine HQ1.out _ _ _ (postC_ret _ ?_)
    clear HQ1
    repeat (first | refine inBlock_ret ?_ | refine then_ret ?_)
    go_ret
    refine ⟨.slice (some ⟨V.heap.size + 1 + 1, 0, none⟩) 0 0, rfl, ?_, ?_⟩
    · exact ownG_litK layT _ [] (by simp) _ rfl _ _ (by simp) (by omega)
    · exact ((fV.trans (Fr.alloc _ _)).trans (Fr.alloc _ _)).trans (Fr.alloc _ _))
end Go.Proofs.YtihdablgnmkjnaaGreatDoor
/-
  The program's touches, kind by kind (2).
-/
namespace Go.Proofs.YtihdablgnmkjnaaGreatDoor
open Go.RowKit

set_option maxRecDepth 20000 in
set_option maxHeartbeats 2000000 in
theorem tchI_2 (b b2 : Nat) (co cap sent got : Int) (cl : Bool) (gr o wi l sz f t : Int) (w : World) (hb : w.cell? ⟨b, 2, none⟩ = some (.map (some b2)))
    (hL : ∀ u, Fr w u → (Instr.lookup 133 (.map (some b2)) (.int .i64 o) false).run Tryz.prog u = .ok (.agg #[.int .i64 co, .int .i64 cap, .int .i64 sent, .int .i64 got, .bool cl]) u) :
    Calls Tryz.prog 64 #[.pointer (some ⟨b, 0, none⟩), .agg #[.int .i64 2, .int .i64 gr, .int .i64 o, .int .i64 wi, .int .i64 l, .int .i64 sz, .int .i64 f, .int .i64 t]] w fun x w' => ∃ v, x = .returned v ∧ OwnG layT w' w.heap.size v [⟨1, o, 0, true, false⟩, ⟨2, o, 0, true, false⟩] ∧ Fr w w' := by
  have fW := Fr.alloc w (.cells #[.int .i64 2, .int .i64 gr, .int .i64 o, .int .i64 wi, .int .i64 l, .int .i64 sz, .int .i64 f, .int .i64 t] 31)
  have kE := EvAt.new w ⟨2, gr, o, wi, l, sz, f, t⟩ 31
  have hb := fW.cell hb
  simp only at kE
  go_enter Tryz.func64, Tryz.ntmps64
  go_wp2_with fail
  obtain ⟨W, hW⟩ : ∃ W, W = w.alloc (.cells #[.int .i64 2, .int .i64 gr, .int .i64 o, .int .i64 wi, .int .i64 l, .int .i64 sz, .int .i64 f, .int .i64 t] 31) := ⟨_, rfl⟩
  rw [← hW] at fW kE hb ⊢
  clear hW
  obtain ⟨c0, c1, c2, c3, c4, c5, c6, c7⟩ := kE
  simp only at c0 c2
  clear c1 c3 c4 c5 c6 c7
  have HL : Hid (∀ u, Fr w u → (Instr.lookup 133 (.map (some b2)) (.int .i64 o) false).run Tryz.prog u = .ok (.agg #[.int .i64 co, .int .i64 cap, .int .i64 sent, .int .i64 got, .bool cl]) u) := hL
  clear hL
  have l1 := HL.out _ (fW.trans (Fr.drew W))
  have l2 := HL.out _ ((fW.trans (Fr.alloc W (.cells #[.int .i64 0, .int .i64 0, .int .i64 0, .int .i64 0, .bool false] 87))).trans (Fr.drew _))
  go_region_held3 (fun u => u.cell? ⟨b, 2, none⟩ = some (.map (some b2)) ∧ u.cell? ⟨w.heap.size, 2, none⟩ = some (.int .i64 o)) (go_keep) (fail)
  all_goals (
    clear l1 l2 HL
    obtain ⟨V, hV⟩ : ∃ V, V = (W.alloc (.cells #[.int .i64 co, .int .i64 cap, .int .i64 sent, .int .i64 got, .bool cl] 87)).drew := ⟨_, rfl⟩
    have fA : Fr W V := by rw [hV]; exact (Fr.alloc _ _).trans (Fr.drew _)
    have fV : Fr w V := fW.trans fA
    have x0 := fA.cell c0
    have x2 := fA.cell c2
    have y1 : V.cell? ⟨W.heap.size, 1, none⟩ = some (.int .i64 cap) := by rw [hV]; simp [go_sem]
    have y2 : V.cell? ⟨W.heap.size, 2, none⟩ = some (.int .i64 sent) := by rw [hV]; simp [go_sem]
    have y3 : V.cell? ⟨W.heap.size, 3, none⟩ = some (.int .i64 got) := by rw [hV]; simp [go_sem]
    rw [← hV]
    have hbV : w.heap.size ≤ V.heap.size := fV.size
    have z1 : w.heap.size < V.heap.size := World.block_lt_of_cell? V _ x0
    have z2 : W.heap.size < V.heap.size := World.block_lt_of_cell? V _ y1
    have n1 : ¬ w.heap.size = V.heap.size := by omega
    have n2 : ¬ w.heap.size = V.heap.size + 1 := by omega
    have n3 : ¬ W.heap.size = V.heap.size := by omega
    have n4 : ¬ W.heap.size = V.heap.size + 1 := by omega
    clear hV fA c0 c2 hb
    go_upto_block 0 with fail
    refine wp_block ?_
    refine wp_nestC [(1, _), (2, _), (3, _), (4, _), (5, _), (6, _), (7, _), (8, _), (9, _), (10, _), (11, _), (12, _), (13, _), (14, _), (15, _), (16, _)] _ ?_
    refine wp_opaque (fun Q0 hQ0 => ?_)
    have HQ0 : Hid _ := hQ0
    clear hQ0
    go_wp2_with fail
    refine HQ0.out _ _ _ (postC_at [] (by rfl) ?_)
    clear HQ0
    refine wp_opaque (fun Q1 hQ1 => ?_)
    have HQ1 : Hid _ := hQ1
    clear hQ1
    have HO : OwnG layT (((V.alloc (.cells #[.int .i64 0, .int .i64 o, .int .i64 0, .bool false, .bool false] 52)).alloc (.cells #[] 52)).alloc (.cells #[.int .i64 2, .int .i64 o, .int .i64 0, .bool true, .bool false] 52)) w.heap.size (.slice (some ⟨V.heap.size + 1, 0, none⟩) 0 0) [] := (ownG_litK layT _ [] (by simp) _ rfl _ _ (by simp) (by omega)).fr (Fr.alloc _ _)
    have HX := news_of_reads (litK_reads layT ((V.alloc (.cells #[.int .i64 0, .int .i64 o, .int .i64 0, .bool false, .bool false] 52)).alloc (.cells #[] 52)) [⟨2, o, 0, true, false⟩] (by simp) (.cells #[.int .i64 2, .int .i64 o, .int .i64 0, .bool true, .bool false] 52) rfl (V.heap.size + 1 + 1) (by simp))
    have HJ : TchJ (((V.alloc (.cells #[.int .i64 0, .int .i64 o, .int .i64 0, .bool false, .bool false] 52)).alloc (.cells #[] 52)).alloc (.cells #[.int .i64 2, .int .i64 o, .int .i64 0, .bool true, .bool false] 52)) V.heap.size ⟨0, o, 0, false, false⟩ := by
      have h1 := heap_alloc_new V (.cells #[.int .i64 0, .int .i64 o, .int .i64 0, .bool false, .bool false] 52)
      have h2 : TchJ (V.alloc (.cells #[.int .i64 0, .int .i64 o, .int .i64 0, .bool false, .bool false] 52)) V.heap.size ⟨0, o, 0, false, false⟩ := h1
      exact (h2.keep (Fr.alloc _ _) (by simp)).keep (Fr.alloc _ _) (by simp)
    have HO : Hid _ := HO
    have HX : Hid _ := HX
    have HJ : Hid _ := HJ
    go_wp2_with (at_builtin; refine appGL layT _ rfl _ _ 49 _ 32 rfl Tryz.underlying49 Tryz.infoT rfl (by decide) w.heap.size (.slice (some ⟨V.heap.size + 1, 0, none⟩) 0 0) [] [⟨2, o, 0, true, false⟩] rfl HO.out ⟨V.heap.size + 1 + 1, 0, none⟩ 1 rfl HX.out (by simp) (by simp; omega) ?_; intro v4 w4 hv4 hg4 hat4)
    refine HQ1.out _ _ _ (postC_on ?_)
    clear HQ1
    refine wp_opaque (fun Q1 hQ1 => ?_)
    have HQ1 : Hid _ := hQ1
    clear hQ1
    have HJ4 : TchJ w4 V.heap.size ⟨0, o, 0, false, false⟩ := TchJ.keep (c := ⟨0, o, 0, false, false⟩) HJ.out hg4 (by simp [Value.ownBlock])
    have hf4 : Fr w w4 := (((fV.trans (Fr.alloc _ _)).trans (Fr.alloc _ _)).trans (Fr.alloc _ _)).then hg4 (fun j hj => by simp only [Value.ownBlock, Option.some.injEq] at hj; omega)
    obtain ⟨g4, cap4, rfl, h4, l4⟩ := hv4
    have hgn : V.heap.size ≠ g4 := by
      simp only [Value.ownBlock, Option.some.injEq, World.size_alloc] at hat4
      omega
    have hs4 : w.heap.size ≤ w4.heap.size := hf4.size
    have HU : Hid (∀ a b, ReadsG layT ((w4.setCell ⟨V.heap.size, 0, none⟩ a).setCell ⟨V.heap.size, 3, none⟩ b) (some ⟨g4, 0, none⟩) [⟨2, o, 0, true, false⟩] ∧ Fr w ((w4.setCell ⟨V.heap.size, 0, none⟩ a).setCell ⟨V.heap.size, 3, none⟩ b)) := fun a b => ⟨((own_readsG h4 l4).keep (grown_set _ _ _ _) (.inr (fun q => hgn (by simpa [blk] using q.symm)))).keep (grown_set _ _ _ _) (.inr (fun q => hgn (by simpa [blk] using q.symm))), (hf4.then (grown_set _ _ _ _) (fun j hj => by simp only [Option.some.injEq] at hj; omega)).then (grown_set _ _ _ _) (fun j hj => by simp only [Option.some.injEq] at hj; omega)⟩
    obtain ⟨t0, t1, t2, t3, t4⟩ := TchJ.at HJ4
    simp only at t0 t1 t2 t3 t4
    have tf := fun i => TchJ.free HJ4 i
    clear HO HX HJ HJ4 hg4 hat4 h4 l4 x0 x2 y1 y2 y3
    go_wp2_with fail
    refine HQ1.out _ _ _ (postC_out _ (by rfl) (inBlock_same ?_))
    clear HQ1
    have HU := HU.out (.int .i64 1) (.bool true)
    have HU : Hid _ := HU
    go_wp2_with (at_builtin; refine appGL layT _ rfl _ _ 49 _ 32 rfl Tryz.underlying49 Tryz.infoT rfl (by decide) w.heap.size (.slice (some ⟨w4.heap.size, 0, none⟩) 1 1) [⟨1, o, 0, true, false⟩] [⟨2, o, 0, true, false⟩] rfl (ownG_litK layT _ [⟨1, o, 0, true, false⟩] (by simp) _ rfl _ _ (by simp) (by omega)) ⟨g4, 0, none⟩ cap4 rfl (news_of_reads (HU.out.1.fr (Fr.alloc _ _))) (by simp) (by simp; omega) ?_; intro v5 w5 hv5 hg5 hat5)
    go_ret
    refine ⟨v5, rfl, hv5, ?_⟩
    exact (HU.out.2.trans (Fr.alloc _ _)).then hg5 (fun j hj => by simp only [Value.ownBlock, Option.some.injEq] at hj; omega))
end Go.Proofs.YtihdablgnmkjnaaGreatDoor
/-
  What an event touches: the model; the slot by the channel's counts, and by the events ahead.
-/
namespace Go.Proofs.YtihdablgnmkjnaaGreatDoor
open Go.RowKit

/-- The channels of a scene hold what the events ahead made of them. -/
def ChAt (es : List Ev) (m : Scn) : Prop := ∀ o, (∀ c, m.cs.find? (fun c => c.o == o) = some c → c.cap = capK o es ∧ c.sent = cntK 7 o es ∧ c.got = cntK 8 o es) ∧ (m.cs.find? (fun c => c.o == o) = none → cntK 7 o es = 0 ∧ cntK 8 o es = 0)
theorem ChAt.nil : ChAt [] scn0 := fun o => ⟨fun c h => by simp [scn0] at h, fun _ => ⟨rfl, rfl⟩⟩
theorem chanOf_some {m : Scn} {o : Int} {c : Ch} (h : m.cs.find? (fun c => c.o == o) = some c) : chanOf m.cs o = c ∧ chanZ m o = c ∧ c.o = o := by
  refine ⟨by simp [chanOf, h], by simp [chanZ, h], ?_⟩
  have := List.find?_some h
  simpa using this
/-- A channel's event that can be done. -/
theorem code_chan {m : Scn} {e : Ev} (hc : codeIn m e = 0) (h6 : 6 ≤ e.k) (h11 : e.k ≤ 11) :
    (e.k = 6 → m.cs.find? (fun c => c.o == e.o) = none) ∧ (e.k ≠ 6 → ∃ c, m.cs.find? (fun c => c.o == e.o) = some c ∧ (e.k = 7 ∨ e.k = 8 → c.cap ≠ 0)) := by
  have hr : restCode m e = 0 := by
    unfold codeIn at hc
    split at hc
    · simp at hc
    · split at hc
      · simp at hc
      · exact hc
  unfold restCode at hr
  rw [if_neg (by omega), if_pos ⟨h6, h11⟩] at hr
  unfold chanCode at hr
  split at hr
  · simp at hr
  · rename_i h1
    split at hr
    · simp at hr
    · rename_i h2
      refine ⟨fun h => ?_, fun h => ?_⟩
      · simp only [h, decide_true, isChan] at h1
        cases hf : m.cs.find? (fun c => c.o == e.o) with
        | none => rfl
        | some c => simp [hf] at h1
      · simp only [h, decide_false, isChan] at h1
        cases hf : m.cs.find? (fun c => c.o == e.o) with
        | none => simp [hf] at h1
        | some c =>
          refine ⟨c, rfl, fun h78 h0 => h2 (.inl ⟨h78, ?_⟩)⟩
          rw [(chanOf_some hf).1]
          exact h0
theorem ChAt.step {es : List Ev} {m : Scn} {e : Ev} (h : ChAt es m) (hc : codeIn m e = 0) : ChAt (es ++ [e]) (doS m e) := by
  have hm := (code_parts hc).2.1
  have hr := (sc_rise hm).2.1
  intro o
  rw [capK_one, cntK_one, cntK_one]
  have h0 := h o
  by_cases hk : 6 ≤ e.k ∧ e.k ≤ 8 ∨ e.k = 10
  · have ed : (doS m e).cs = setL Ch.o (chanTo m e) false m.cs := by
      unfold doS
      rw [if_neg (by omega), if_neg (by omega), if_pos hk]
      rfl
    have ho : (chanTo m e).o = e.o := by
      have q : (chanOf m.cs e.o).o = e.o := by
        unfold chanOf
        cases hf : m.cs.find? (fun c => c.o == e.o) with
        | none => rfl
        | some c => exact (chanOf_some hf).2.2
      unfold chanTo
      split
      · exact q
      · split
        · exact q
        · split
          · exact q
          · exact q
    have hq := code_chan hc (by omega) (by omega)
    rw [ed, find_setL Ch.o (chanTo m e) false m.cs hr o, ho]
    by_cases hoo : o = e.o
    · subst hoo
      simp only [if_true]
      refine ⟨fun c hcc => ?_, fun q => by simp at q⟩
      simp only [Bool.false_eq_true, if_false, Option.some.injEq] at hcc
      subst hcc
      by_cases h6 : e.k = 6
      · have hn := h0.2 (hq.1 h6)
        have e1 : chanOf m.cs e.o = ⟨e.o, 0, 0, 0, false⟩ := by simp [chanOf, hq.1 h6]
        simp [chanTo, h6, e1, hn.1, hn.2]
      · obtain ⟨c, hf, -⟩ := hq.2 h6
        have hs := h0.1 c hf
        have e1 := (chanOf_some hf).1
        unfold chanTo
        rw [e1, if_neg h6]
        by_cases h7 : e.k = 7
        · simp [h7, hs.1, hs.2.1, hs.2.2]
        · by_cases h8 : e.k = 8
          · simp [h8, hs.1, hs.2.1, hs.2.2]
          · simp [h6, h7, h8, hs.1, hs.2.1, hs.2.2]
    · have hne : ¬ e.o = o := fun q => hoo q.symm
      simp only [hoo, hne, if_false, false_and, Nat.add_zero]
      exact h0
  · have ed : (doS m e).cs = m.cs := by
      unfold doS
      split
      · rfl
      · split
        · rfl
        · first | rw [if_neg hk] | skip
          split
          · rfl
          · split
            · rfl
            · split
              · rfl
              · rfl
    rw [ed, if_neg (by omega), if_neg (by omega), if_neg (by omega)]
    exact h0
theorem ChAt.leg : ∀ (es pre : List Ev) (m : Scn), ChAt pre m → (legS m es).2.2 = 0 → ChAt (pre ++ es) (legS m es).1
  | [], pre, m, h, _ => by simpa [legS] using h
  | e :: es, pre, m, h, hl => by
    by_cases q : codeIn m e = 0
    · rw [leg_go q] at hl ⊢
      have := ChAt.leg es (pre ++ [e]) (doS m e) (h.step q) hl
      simpa using this
    · rw [leg_no q] at hl
      exact absurd hl q

/-- The slot, by the channel. -/
def slotC (m : Scn) (e : Ev) : Int := (if e.k = 8 then (chanZ m e.o).got else (chanZ m e.o).sent).tmod (chanZ m e.o).cap
/-- What the event at j of a trace touches. -/
def touJ (es : List Ev) (j : Int) : List Tch :=
  if h : 0 ≤ j ∧ j < legLen es ∧ j.toNat < es.length then tchL es[j.toNat] (slotE (es.take j.toNat) es[j.toNat]) else []
theorem slot_same {es : List Ev} {m : Scn} {e : Ev} (h : ChAt es m) (hc : codeIn m e = 0) (hk : e.k = 7 ∨ e.k = 8) : slotC m e = slotE es e ∧ capK e.o es ≠ 0 := by
  obtain ⟨c, hf, h0⟩ := (code_chan hc (by omega) (by omega)).2 (by omega)
  have h1 := (h e.o).1 c hf
  have e1 := (chanOf_some hf).2.1
  refine ⟨?_, by rw [← h1.1]; exact h0 hk⟩
  unfold slotC slotE
  rw [e1, h1.1]
  rcases hk with hk | hk
  · rw [if_neg (by omega), h1.2.1, hk]
  · rw [if_pos hk, h1.2.2, hk]
theorem tch_same {es : List Ev} {m : Scn} {e : Ev} (h : ChAt es m) (hc : codeIn m e = 0) : tchL e (slotC m e) = tchL e (slotE es e) := by
  by_cases hk : e.k = 7 ∨ e.k = 8
  · rw [(slot_same h hc hk).1]
  · unfold tchL
    simp only [hk, if_false]
end Go.Proofs.YtihdablgnmkjnaaGreatDoor
/-
  What an event touches, of all kinds: the specification's and the program's.
-/
namespace Go.Proofs.YtihdablgnmkjnaaGreatDoor
open Go.RowKit

set_option maxHeartbeats 1000000 in
theorem l6Touches_any (ao : Option Addr) (n c : Nat) (es : List Ev) (w : World) (hn : es.length = n) (h : ReadsE w ao es) (j : Nat) (hj : j < es.length) (hk : 1 ≤ es[j].k ∧ es[j].k ≤ 22) (hr : es[j].k = 7 ∨ es[j].k = 8 → capK es[j].o (es.take j) ≠ 0) :
    Calls Tryz.prog 66 #[.slice ao n c, .int .i64 j] w fun x w' => ∃ v, x = .returned v ∧ OwnG layT w' w.heap.size v (tchL es[j] (slotE (es.take j) es[j])) ∧ Fr w w' := by
  obtain ⟨E, hE⟩ : ∃ E, E = es[j] := ⟨_, rfl⟩
  have hr2 : es[j].k = 7 ∨ es[j].k = 8 → capK es[j].o (es.take j) ≠ 0 := hr
  rw [← hE] at hk hr
  obtain ⟨k, fg, fo, fw, fl, fs, ff, ft⟩ := E
  simp only at hk hr
  have hr : k = 7 ∨ k = 8 → capK es[j].o (es.take j) ≠ 0 := fun q => hr2 (by rw [← hE]; exact q)
  clear hr2
  have hcs : k = 1 ∨ k = 2 ∨ k = 3 ∨ k = 4 ∨ k = 5 ∨ k = 6 ∨ k = 7 ∨ k = 8 ∨ k = 9 ∨ k = 10 ∨ k = 11 ∨ k = 12 ∨ k = 13 ∨ k = 14 ∨ k = 15 ∨ k = 16 ∨ k = 17 ∨ k = 18 ∨ k = 19 ∨ k = 20 ∨ k = 21 ∨ k = 22 := by omega
  have e0 : tchL es[j] (slotE (es.take j) es[j]) = tchL ⟨k, fg, fo, fw, fl, fs, ff, ft⟩ (slotE (es.take j) es[j]) := by rw [← hE]
  rw [e0]
  clear e0 hk
  rcases hcs with rfl | rfl | rfl | rfl | rfl | rfl | rfl | rfl | rfl | rfl | rfl | rfl | rfl | rfl | rfl | rfl | rfl | rfl | rfl | rfl | rfl | rfl
  · have e1 := l6T_1 fg fo fw fl fs ff ft ao n c es w hn h j hj hE.symm
    simpa [tchL] using e1
  · have e1 := l6T_2 fg fo fw fl fs ff ft ao n c es w hn h j hj hE.symm
    simpa [tchL] using e1
  · have e1 := l6T_3 fg fo fw fl fs ff ft ao n c es w hn h j hj hE.symm
    simpa [tchL] using e1
  · have e1 := l6T_4 fg fo fw fl fs ff ft ao n c es w hn h j hj hE.symm
    simpa [tchL] using e1
  · have e1 := l6T_5 fg fo fw fl fs ff ft ao n c es w hn h j hj hE.symm
    simpa [tchL] using e1
  · have e1 := l6T_6 fg fo fw fl fs ff ft ao n c es w hn h j hj hE.symm
    simpa [tchL] using e1
  · have e1 := l6T_7 fg fo fw fl fs ff ft ao n c es w hn h j hj hE.symm (hr (by simp))
    simpa [tchL] using e1
  · have e1 := l6T_8 fg fo fw fl fs ff ft ao n c es w hn h j hj hE.symm (hr (by simp))
    simpa [tchL] using e1
  · have e1 := l6T_9 fg fo fw fl fs ff ft ao n c es w hn h j hj hE.symm
    simpa [tchL] using e1
  · have e1 := l6T_10 fg fo fw fl fs ff ft ao n c es w hn h j hj hE.symm
    simpa [tchL] using e1
  · have e1 := l6T_11 fg fo fw fl fs ff ft ao n c es w hn h j hj hE.symm
    simpa [tchL] using e1
  · have e1 := l6T_12 fg fo fw fl fs ff ft ao n c es w hn h j hj hE.symm
    simpa [tchL] using e1
  · have e1 := l6T_13 fg fo fw fl fs ff ft ao n c es w hn h j hj hE.symm
    simpa [tchL] using e1
  · have e1 := l6T_14 fg fo fw fl fs ff ft ao n c es w hn h j hj hE.symm
    simpa [tchL] using e1
  · have e1 := l6T_15 fg fo fw fl fs ff ft ao n c es w hn h j hj hE.symm
    simpa [tchL] using e1
  · have e1 := l6T_16 fg fo fw fl fs ff ft ao n c es w hn h j hj hE.symm
    simpa [tchL] using e1
  · have e1 := l6T_17 fg fo fw fl fs ff ft ao n c es w hn h j hj hE.symm
    simpa [tchL] using e1
  · have e1 := l6T_18 fg fo fw fl fs ff ft ao n c es w hn h j hj hE.symm
    simpa [tchL] using e1
  · have e1 := l6T_19 fg fo fw fl fs ff ft ao n c es w hn h j hj hE.symm
    simpa [tchL] using e1
  · have e1 := l6T_20 fg fo fw fl fs ff ft ao n c es w hn h j hj hE.symm
    simpa [tchL] using e1
  · have e1 := l6T_21 fg fo fw fl fs ff ft ao n c es w hn h j hj hE.symm
    simpa [tchL] using e1
  · have e1 := l6T_22 fg fo fw fl fs ff ft ao n c es w hn h j hj hE.symm
    simpa [tchL] using e1

set_option maxHeartbeats 1000000 in
theorem touches_any {B : Nat → Prop} {b b1 b2 b3 b4 n : Nat} {m : Scn} (e : Ev) (w : World) (h : BoardM B w b b1 b2 b3 b4 n m) (hc : codeIn m e = 0) :
    Calls Tryz.prog 64 #[.pointer (some ⟨b, 0, none⟩), .agg #[.int .i64 e.k, .int .i64 e.g, .int .i64 e.o, .int .i64 e.w, .int .i64 e.l, .int .i64 e.s, .int .i64 e.f, .int .i64 e.t]] w fun x w' => ∃ v, x = .returned v ∧ OwnG layT w' w.heap.size v (tchL e (slotC m e)) ∧ Fr w w' := by
  have hp := code_parts hc
  have ho := evOk_o hp.1
  have hL := h.lookC (o := e.o) (i64_small (by omega))
  have hk : 1 ≤ e.k ∧ e.k ≤ 22 := by
    have h1 := hp.1
    simp only [evOk, Bool.and_eq_true] at h1
    simpa [inB] using h1.1.1.1.1.1.1.1
  have hs : e.k = 7 ∨ e.k = 8 → (chanZ m e.o).cap ≠ 0 ∧ (0 ≤ (chanZ m e.o).got ∧ 0 ≤ (chanZ m e.o).sent ∧ (chanZ m e.o).got ≤ 1000000 ∧ (chanZ m e.o).sent ≤ 1000000 ∧ 0 ≤ (chanZ m e.o).cap ∧ (chanZ m e.o).cap ≤ 8) := by
    intro q
    obtain ⟨c, hf, h0⟩ := (code_chan hc (by omega) (by omega)).2 (by omega)
    have q1 := chan_in hp.2.1 e.o
    rw [(chanOf_some hf).1] at q1
    rw [(chanOf_some hf).2.1]
    exact ⟨h0 q, by omega⟩
  clear hp ho hc
  obtain ⟨k, gr, o, wi, l, sz, f, t⟩ := e
  simp only at hL hk hs ⊢
  have hcs : k = 1 ∨ k = 2 ∨ k = 3 ∨ k = 4 ∨ k = 5 ∨ k = 6 ∨ k = 7 ∨ k = 8 ∨ k = 9 ∨ k = 10 ∨ k = 11 ∨ k = 12 ∨ k = 13 ∨ k = 14 ∨ k = 15 ∨ k = 16 ∨ k = 17 ∨ k = 18 ∨ k = 19 ∨ k = 20 ∨ k = 21 ∨ k = 22 := by omega
  clear hk
  rcases hcs with rfl | rfl | rfl | rfl | rfl | rfl | rfl | rfl | rfl | rfl | rfl | rfl | rfl | rfl | rfl | rfl | rfl | rfl | rfl | rfl | rfl | rfl
  · have e1 := tchI_1 b b2 (chanZ m o).o (chanZ m o).cap (chanZ m o).sent (chanZ m o).got (chanZ m o).cl gr o wi l sz f t w h.c2 hL
    simpa [tchL] using e1
  · have e1 := tchI_2 b b2 (chanZ m o).o (chanZ m o).cap (chanZ m o).sent (chanZ m o).got (chanZ m o).cl gr o wi l sz f t w h.c2 hL
    simpa [tchL] using e1
  · have e1 := tchI_3 b b2 (chanZ m o).o (chanZ m o).cap (chanZ m o).sent (chanZ m o).got (chanZ m o).cl gr o wi l sz f t w h.c2 hL
    simpa [tchL] using e1
  · have e1 := tchI_4 b b2 (chanZ m o).o (chanZ m o).cap (chanZ m o).sent (chanZ m o).got (chanZ m o).cl gr o wi l sz f t w h.c2 hL
    simpa [tchL] using e1
  · have e1 := tchI_5 b b2 (chanZ m o).o (chanZ m o).cap (chanZ m o).sent (chanZ m o).got (chanZ m o).cl gr o wi l sz f t w h.c2 hL
    simpa [tchL] using e1
  · have e1 := tchI_6 b b2 (chanZ m o).o (chanZ m o).cap (chanZ m o).sent (chanZ m o).got (chanZ m o).cl gr o wi l sz f t w h.c2 hL
    simpa [tchL] using e1
  · obtain ⟨s1, s2⟩ := hs (by simp)
    have e1 := tchI_7 b b2 (chanZ m o).o (chanZ m o).cap (chanZ m o).sent (chanZ m o).got (chanZ m o).cl gr o wi l sz f t w h.c2 s1 s2 hL
    have e2 : slotC m ⟨7, gr, o, wi, l, sz, f, t⟩ = (chanZ m o).sent % (chanZ m o).cap := by
      simp only [slotC]
      first | rw [if_neg (by decide)] | rw [if_pos trivial]
      exact Int.tmod_eq_emod_of_nonneg (by omega)
    rw [e2]
    simpa [tchL] using e1
  · obtain ⟨s1, s2⟩ := hs (by simp)
    have e1 := tchI_8 b b2 (chanZ m o).o (chanZ m o).cap (chanZ m o).sent (chanZ m o).got (chanZ m o).cl gr o wi l sz f t w h.c2 s1 s2 hL
    have e2 : slotC m ⟨8, gr, o, wi, l, sz, f, t⟩ = (chanZ m o).got % (chanZ m o).cap := by
      simp only [slotC]
      first | rw [if_neg (by decide)] | rw [if_pos trivial]
      exact Int.tmod_eq_emod_of_nonneg (by omega)
    rw [e2]
    simpa [tchL] using e1
  · have e1 := tchI_9 b b2 (chanZ m o).o (chanZ m o).cap (chanZ m o).sent (chanZ m o).got (chanZ m o).cl gr o wi l sz f t w h.c2 hL
    simpa [tchL] using e1
  · have e1 := tchI_10 b b2 (chanZ m o).o (chanZ m o).cap (chanZ m o).sent (chanZ m o).got (chanZ m o).cl gr o wi l sz f t w h.c2 hL
    simpa [tchL] using e1
  · have e1 := tchI_11 b b2 (chanZ m o).o (chanZ m o).cap (chanZ m o).sent (chanZ m o).got (chanZ m o).cl gr o wi l sz f t w h.c2 hL
    simpa [tchL] using e1
  · have e1 := tchI_12 b b2 (chanZ m o).o (chanZ m o).cap (chanZ m o).sent (chanZ m o).got (chanZ m o).cl gr o wi l sz f t w h.c2 hL
    simpa [tchL] using e1
  · have e1 := tchI_13 b b2 (chanZ m o).o (chanZ m o).cap (chanZ m o).sent (chanZ m o).got (chanZ m o).cl gr o wi l sz f t w h.c2 hL
    simpa [tchL] using e1
  · have e1 := tchI_14 b b2 (chanZ m o).o (chanZ m o).cap (chanZ m o).sent (chanZ m o).got (chanZ m o).cl gr o wi l sz f t w h.c2 hL
    simpa [tchL] using e1
  · have e1 := tchI_15 b b2 (chanZ m o).o (chanZ m o).cap (chanZ m o).sent (chanZ m o).got (chanZ m o).cl gr o wi l sz f t w h.c2 hL
    simpa [tchL] using e1
  · have e1 := tchI_16 b b2 (chanZ m o).o (chanZ m o).cap (chanZ m o).sent (chanZ m o).got (chanZ m o).cl gr o wi l sz f t w h.c2 hL
    simpa [tchL] using e1
  · have e1 := tchI_17 b b2 (chanZ m o).o (chanZ m o).cap (chanZ m o).sent (chanZ m o).got (chanZ m o).cl gr o wi l sz f t w h.c2 hL
    simpa [tchL] using e1
  · have e1 := tchI_18 b b2 (chanZ m o).o (chanZ m o).cap (chanZ m o).sent (chanZ m o).got (chanZ m o).cl gr o wi l sz f t w h.c2 hL
    simpa [tchL] using e1
  · have e1 := tchI_19 b b2 (chanZ m o).o (chanZ m o).cap (chanZ m o).sent (chanZ m o).got (chanZ m o).cl gr o wi l sz f t w h.c2 hL
    simpa [tchL] using e1
  · have e1 := tchI_20 b b2 (chanZ m o).o (chanZ m o).cap (chanZ m o).sent (chanZ m o).got (chanZ m o).cl gr o wi l sz f t w h.c2 hL
    simpa [tchL] using e1
  · have e1 := tchI_21 b b2 (chanZ m o).o (chanZ m o).cap (chanZ m o).sent (chanZ m o).got (chanZ m o).cl gr o wi l sz f t w h.c2 hL
    simpa [tchL] using e1
  · have e1 := tchI_22 b b2 (chanZ m o).o (chanZ m o).cap (chanZ m o).sent (chanZ m o).got (chanZ m o).cl gr o wi l sz f t w h.c2 hL
    simpa [tchL] using e1

/-- What is legal, and the next event that can be done, are of the legal part. -/
theorem leg_more : ∀ (es : List Ev) (m : Scn) (k : Nat) (h : k < es.length), (legS m (es.take k)).2.2 = 0 → codeIn (legS m (es.take k)).1 es[k] = 0 → k < (legS m es).2.1
  | [], _, _, h, _, _ => by simp at h
  | e :: es, m, 0, _, _, h2 => by
    simp only [List.take_zero, legS, List.getElem_cons_zero] at h2
    rw [leg_go h2]
    simp
  | e :: es, m, k + 1, h, h1, h2 => by
    rw [List.take_succ_cons] at h1 h2
    by_cases q : codeIn m e = 0
    · rw [leg_go q] at h1 h2 ⊢
      simp only [List.getElem_cons_succ] at h1 h2 ⊢
      have := leg_more es (doS m e) k (by simpa using h) h1 h2
      omega
    · rw [leg_no q] at h1
      exact absurd h1 q
end Go.Proofs.YtihdablgnmkjnaaGreatDoor
/-
  The drawing of events that may be wrong in one field.
-/
namespace Go.Proofs.YtihdablgnmkjnaaGreatDoor
open Go.RowKit

set_option maxHeartbeats 4000000 in
theorem l2DrawAny_any (g : Nat) (w : World) (hc : Cur w g) :
    Calls Tryz.prog 96 #[.pointer (some ⟨g, 0, none⟩)] w fun x w' => ∃ e : Ev, x = .returned (.agg #[.int .i64 e.k, .int .i64 e.g, .int .i64 e.o, .int .i64 e.w, .int .i64 e.l, .int .i64 e.s, .int .i64 e.f, .int .i64 e.t]) ∧ EvI e ∧ Cur w' g ∧ w.grownBy w' (some g) := by
  have hgl := hc.lt
  go_enter Tryz.func96, Tryz.ntmps96
  have hr0 := EvB.new w ⟨0, 0, 0, 0, 0, 0, 0, 0⟩
  go_wp2_with fail
  refine (l2Draw_any _ _ (hc.fr (Fr.alloc _ _))).mono ?_
  rintro e w1 ⟨⟨k, gr, o, wi, l, sz, f, t⟩, rfl, ⟨i0, i1, i2, i3, i4, i5, i6, i7⟩, c1, g1⟩
  simp only at i0 i1 i2 i3 i4 i5 i6 i7 ⊢
  have h : DS w g w.heap.size w1.heap.size ⟨k, gr, o, wi, l, sz, f, t⟩ (w1.alloc (.cells #[.int .i64 k, .int .i64 gr, .int .i64 o, .int .i64 wi, .int .i64 l, .int .i64 sz, .int .i64 f, .int .i64 t] 31)) := by
    have hlt := (hr0.keep g1 (by simp; omega)).lt
    exact ⟨c1.fr (Fr.alloc _ _), grown_then (grown_then (Fr.alloc w _).wide g1 (row_some (.inr rfl))) (Fr.alloc _ _) (by simp), EvB.new _ ⟨k, gr, o, wi, l, sz, f, t⟩, (hr0.keep g1 (by simp; omega)).keep (Fr.alloc _ _) (by simp), hgl, Nat.le_refl _, hlt⟩
  obtain ⟨r, hr⟩ : ∃ r, r = w.heap.size := ⟨_, rfl⟩
  simp only [← hr] at h ⊢
  clear hr hr0 c1 g1 hc hgl
  go_wp2_with fail
  refine (l1Once_any _ _ _ h.cur).mono ?_
  rintro e w3 ⟨once, rfl, c3, g3⟩
  have h0 := h.draw c3 g3
  clear h
  obtain ⟨b, hb⟩ : ∃ b, b = w1.heap.size := ⟨_, rfl⟩
  simp only [← hb] at h0 ⊢
  clear hb c3 g3 w1
  cases once
  · obtain ⟨e0, e1, e2, e3, e4, e5, e6, e7⟩ := h0.ev.at
    obtain ⟨u0, u1, u2, u3, u4, u5, u6, u7⟩ := h0.res.at
    have hbr := h0.bl
    have v0 := h0.res.free 0
    have v1 := h0.res.free 1
    have v2 := h0.res.free 2
    have v3 := h0.res.free 3
    have v4 := h0.res.free 4
    have v5 := h0.res.free 5
    have v6 := h0.res.free 6
    have v7 := h0.res.free 7
    simp only at e0 e1 e2 e3 e4 e5 e6 e7 u0 u1 u2 u3 u4 u5 u6 u7
    have hfin := fun v0 v1 v2 v3 v4 v5 v6 v7 => h0.fin (put8 _ r v0 v1 v2 v3 v4 v5 v6 v7)
    clear h0
    go_wp2_with fail
    refine bodyPost_ret (v := .agg #[.int .i64 k, .int .i64 gr, .int .i64 o, .int .i64 wi, .int .i64 l, .int .i64 sz, .int .i64 f, .int .i64 t]) (by simp [results, Tryz.results96, go_sem, u0, u1, u2, u3, u4, u5, u6, u7]) rfl ⟨⟨k, gr, o, wi, l, sz, f, t⟩, rfl, ?_, (hfin _ _ _ _ _ _ _ _).1, (hfin _ _ _ _ _ _ _ _).2⟩
    exact ⟨i0, i1, i2, i3, i4, i5, i6, i7⟩
  · go_wp2_with fail
    refine (l1Odd_any _ _ h0.cur).mono ?_
    rintro e w4 ⟨od, rfl, hod, c4, g4⟩
    have h1 := h0.draw c4 g4
    clear h0 c4 g4
    have h2 := h1.fr (Fr.alloc w4 (.cells #[.int .i64 (-1), .int .i64 0, .int .i64 1, .int .i64 8, .int .i64 9, .int .i64 15, .int .i64 16, .int .i64 64, .int .i64 65, .int .i64 65535, .int .i64 65536, .int .i64 999, .int .i64 1000, .int .i64 od] 2))
    have hgl := h1.cur.lt
    clear h1
    go_wp2_with fail
    refine (l1Below_any _ _ _ h2.cur).mono ?_
    rintro e w5 ⟨x, rfl, x0, x1, x2, c5, g5⟩
    have x3 : x < 14 := x1 (by omega)
    clear x1 x2
    obtain ⟨j, rfl⟩ := Int.eq_ofNat_of_zero_le x0
    obtain ⟨z, ix, hcell⟩ := lit_cell (w := w4) (t := 2) [-1, 0, 1, 8, 9, 15, 16, 64, 65, 65535, 65536, 999, 1000, od] (by intro z hz; simp at hz; rcases hz with rfl | rfl | rfl | rfl | rfl | rfl | rfl | rfl | rfl | rfl | rfl | rfl | rfl | rfl <;> first | exact hod | exact ⟨by decide, by decide⟩) j (by simp; omega)
    have hcell2 := g5.cell hcell (by simp; omega)
    have hj : j < 14 := by omega
    have h3 := h2.draw c5 g5
    clear hcell h2 c5 g5 hgl hod x0
    go_wp2_with fail
    refine (l1Below_any _ _ _ h3.cur).mono ?_
    rintro e w6 ⟨y, rfl, y0, y1, y2, c6, g6⟩
    have y3 : y < 8 := y1 (by omega)
    have h4 := h3.draw c6 g6
    clear h3 c6 g6 y1 y2 hcell2 hj x3
    have hy : y = 0 ∨ y = 1 ∨ y = 2 ∨ y = 3 ∨ y = 4 ∨ y = 5 ∨ y = 6 ∨ y = 7 := by omega
    clear y0 y3
    rcases hy with rfl | rfl | rfl | rfl | rfl | rfl | rfl | rfl
    · go_wp2_with fail
      refine (l1From_any _ _ _ _ h4.cur (by decide) (by decide) (by decide)).mono ?_
      rintro e w7 ⟨kk, rfl, k0, k1, c7, g7⟩
      have h5 := h4.draw c7 g7
      have ix : I64 kk := ⟨by omega, by omega⟩
      clear h4 c7 g7 k0 k1
      have cc : w7.cell? ⟨b, 0, none⟩ = some (.int .i64 k) := h5.ev.at.1
      have zz := h5.ev.free 0
      have h6 := h5.setK kk
      clear cc
      obtain ⟨e0, e1, e2, e3, e4, e5, e6, e7⟩ := h5.ev.at
      obtain ⟨u0, u1, u2, u3, u4, u5, u6, u7⟩ := h5.res.at
      have hbr := h5.bl
      have v0 := h5.res.free 0
      have v1 := h5.res.free 1
      have v2 := h5.res.free 2
      have v3 := h5.res.free 3
      have v4 := h5.res.free 4
      have v5 := h5.res.free 5
      have v6 := h5.res.free 6
      have v7 := h5.res.free 7
      simp only at e0 e1 e2 e3 e4 e5 e6 e7 u0 u1 u2 u3 u4 u5 u6 u7
      have hfin := fun v0 v1 v2 v3 v4 v5 v6 v7 => h6.fin (put8 _ r v0 v1 v2 v3 v4 v5 v6 v7)
      clear h6 h5
      go_wp2_with fail
      refine bodyPost_ret (v := .agg #[.int .i64 kk, .int .i64 gr, .int .i64 o, .int .i64 wi, .int .i64 l, .int .i64 sz, .int .i64 f, .int .i64 t]) (by simp [results, Tryz.results96, go_sem, u0, u1, u2, u3, u4, u5, u6, u7]) rfl ⟨⟨kk, gr, o, wi, l, sz, f, t⟩, rfl, ?_, (hfin _ _ _ _ _ _ _ _).1, (hfin _ _ _ _ _ _ _ _).2⟩
      exact ⟨ix, i1, i2, i3, i4, i5, i6, i7⟩
    · have cc : w6.cell? ⟨b, 1, none⟩ = some (.int .i64 gr) := h4.ev.at.2.1
      have zz := h4.ev.free 1
      have h6 := h4.setG z
      clear cc
      obtain ⟨e0, e1, e2, e3, e4, e5, e6, e7⟩ := h4.ev.at
      obtain ⟨u0, u1, u2, u3, u4, u5, u6, u7⟩ := h4.res.at
      have hbr := h4.bl
      have v0 := h4.res.free 0
      have v1 := h4.res.free 1
      have v2 := h4.res.free 2
      have v3 := h4.res.free 3
      have v4 := h4.res.free 4
      have v5 := h4.res.free 5
      have v6 := h4.res.free 6
      have v7 := h4.res.free 7
      simp only at e0 e1 e2 e3 e4 e5 e6 e7 u0 u1 u2 u3 u4 u5 u6 u7
      have hfin := fun v0 v1 v2 v3 v4 v5 v6 v7 => h6.fin (put8 _ r v0 v1 v2 v3 v4 v5 v6 v7)
      clear h6 h4
      go_wp2_with fail
      refine bodyPost_ret (v := .agg #[.int .i64 k, .int .i64 z, .int .i64 o, .int .i64 wi, .int .i64 l, .int .i64 sz, .int .i64 f, .int .i64 t]) (by simp [results, Tryz.results96, go_sem, u0, u1, u2, u3, u4, u5, u6, u7]) rfl ⟨⟨k, z, o, wi, l, sz, f, t⟩, rfl, ?_, (hfin _ _ _ _ _ _ _ _).1, (hfin _ _ _ _ _ _ _ _).2⟩
      exact ⟨i0, ix, i2, i3, i4, i5, i6, i7⟩
    · have cc : w6.cell? ⟨b, 2, none⟩ = some (.int .i64 o) := h4.ev.at.2.2.1
      have zz := h4.ev.free 2
      have h6 := h4.setO z
      clear cc
      obtain ⟨e0, e1, e2, e3, e4, e5, e6, e7⟩ := h4.ev.at
      obtain ⟨u0, u1, u2, u3, u4, u5, u6, u7⟩ := h4.res.at
      have hbr := h4.bl
      have v0 := h4.res.free 0
      have v1 := h4.res.free 1
      have v2 := h4.res.free 2
      have v3 := h4.res.free 3
      have v4 := h4.res.free 4
      have v5 := h4.res.free 5
      have v6 := h4.res.free 6
      have v7 := h4.res.free 7
      simp only at e0 e1 e2 e3 e4 e5 e6 e7 u0 u1 u2 u3 u4 u5 u6 u7
      have hfin := fun v0 v1 v2 v3 v4 v5 v6 v7 => h6.fin (put8 _ r v0 v1 v2 v3 v4 v5 v6 v7)
      clear h6 h4
      go_wp2_with fail
      refine bodyPost_ret (v := .agg #[.int .i64 k, .int .i64 gr, .int .i64 z, .int .i64 wi, .int .i64 l, .int .i64 sz, .int .i64 f, .int .i64 t]) (by simp [results, Tryz.results96, go_sem, u0, u1, u2, u3, u4, u5, u6, u7]) rfl ⟨⟨k, gr, z, wi, l, sz, f, t⟩, rfl, ?_, (hfin _ _ _ _ _ _ _ _).1, (hfin _ _ _ _ _ _ _ _).2⟩
      exact ⟨i0, i1, ix, i3, i4, i5, i6, i7⟩
    · have cc : w6.cell? ⟨b, 3, none⟩ = some (.int .i64 wi) := h4.ev.at.2.2.2.1
      have zz := h4.ev.free 3
      have h6 := h4.setW z
      clear cc
      obtain ⟨e0, e1, e2, e3, e4, e5, e6, e7⟩ := h4.ev.at
      obtain ⟨u0, u1, u2, u3, u4, u5, u6, u7⟩ := h4.res.at
      have hbr := h4.bl
      have v0 := h4.res.free 0
      have v1 := h4.res.free 1
      have v2 := h4.res.free 2
      have v3 := h4.res.free 3
      have v4 := h4.res.free 4
      have v5 := h4.res.free 5
      have v6 := h4.res.free 6
      have v7 := h4.res.free 7
      simp only at e0 e1 e2 e3 e4 e5 e6 e7 u0 u1 u2 u3 u4 u5 u6 u7
      have hfin := fun v0 v1 v2 v3 v4 v5 v6 v7 => h6.fin (put8 _ r v0 v1 v2 v3 v4 v5 v6 v7)
      clear h6 h4
      go_wp2_with fail
      refine bodyPost_ret (v := .agg #[.int .i64 k, .int .i64 gr, .int .i64 o, .int .i64 z, .int .i64 l, .int .i64 sz, .int .i64 f, .int .i64 t]) (by simp [results, Tryz.results96, go_sem, u0, u1, u2, u3, u4, u5, u6, u7]) rfl ⟨⟨k, gr, o, z, l, sz, f, t⟩, rfl, ?_, (hfin _ _ _ _ _ _ _ _).1, (hfin _ _ _ _ _ _ _ _).2⟩
      exact ⟨i0, i1, i2, ix, i4, i5, i6, i7⟩
    · have cc : w6.cell? ⟨b, 4, none⟩ = some (.int .i64 l) := h4.ev.at.2.2.2.2.1
      have zz := h4.ev.free 4
      have h6 := h4.setL z
      clear cc
      obtain ⟨e0, e1, e2, e3, e4, e5, e6, e7⟩ := h4.ev.at
      obtain ⟨u0, u1, u2, u3, u4, u5, u6, u7⟩ := h4.res.at
      have hbr := h4.bl
      have v0 := h4.res.free 0
      have v1 := h4.res.free 1
      have v2 := h4.res.free 2
      have v3 := h4.res.free 3
      have v4 := h4.res.free 4
      have v5 := h4.res.free 5
      have v6 := h4.res.free 6
      have v7 := h4.res.free 7
      simp only at e0 e1 e2 e3 e4 e5 e6 e7 u0 u1 u2 u3 u4 u5 u6 u7
      have hfin := fun v0 v1 v2 v3 v4 v5 v6 v7 => h6.fin (put8 _ r v0 v1 v2 v3 v4 v5 v6 v7)
      clear h6 h4
      go_wp2_with fail
      refine bodyPost_ret (v := .agg #[.int .i64 k, .int .i64 gr, .int .i64 o, .int .i64 wi, .int .i64 z, .int .i64 sz, .int .i64 f, .int .i64 t]) (by simp [results, Tryz.results96, go_sem, u0, u1, u2, u3, u4, u5, u6, u7]) rfl ⟨⟨k, gr, o, wi, z, sz, f, t⟩, rfl, ?_, (hfin _ _ _ _ _ _ _ _).1, (hfin _ _ _ _ _ _ _ _).2⟩
      exact ⟨i0, i1, i2, i3, ix, i5, i6, i7⟩
    · have cc : w6.cell? ⟨b, 5, none⟩ = some (.int .i64 sz) := h4.ev.at.2.2.2.2.2.1
      have zz := h4.ev.free 5
      have h6 := h4.setS z
      clear cc
      obtain ⟨e0, e1, e2, e3, e4, e5, e6, e7⟩ := h4.ev.at
      obtain ⟨u0, u1, u2, u3, u4, u5, u6, u7⟩ := h4.res.at
      have hbr := h4.bl
      have v0 := h4.res.free 0
      have v1 := h4.res.free 1
      have v2 := h4.res.free 2
      have v3 := h4.res.free 3
      have v4 := h4.res.free 4
      have v5 := h4.res.free 5
      have v6 := h4.res.free 6
      have v7 := h4.res.free 7
      simp only at e0 e1 e2 e3 e4 e5 e6 e7 u0 u1 u2 u3 u4 u5 u6 u7
      have hfin := fun v0 v1 v2 v3 v4 v5 v6 v7 => h6.fin (put8 _ r v0 v1 v2 v3 v4 v5 v6 v7)
      clear h6 h4
      go_wp2_with fail
      refine bodyPost_ret (v := .agg #[.int .i64 k, .int .i64 gr, .int .i64 o, .int .i64 wi, .int .i64 l, .int .i64 z, .int .i64 f, .int .i64 t]) (by simp [results, Tryz.results96, go_sem, u0, u1, u2, u3, u4, u5, u6, u7]) rfl ⟨⟨k, gr, o, wi, l, z, f, t⟩, rfl, ?_, (hfin _ _ _ _ _ _ _ _).1, (hfin _ _ _ _ _ _ _ _).2⟩
      exact ⟨i0, i1, i2, i3, i4, ix, i6, i7⟩
    · have cc : w6.cell? ⟨b, 6, none⟩ = some (.int .i64 f) := h4.ev.at.2.2.2.2.2.2.1
      have zz := h4.ev.free 6
      have h6 := h4.setF z
      clear cc
      obtain ⟨e0, e1, e2, e3, e4, e5, e6, e7⟩ := h4.ev.at
      obtain ⟨u0, u1, u2, u3, u4, u5, u6, u7⟩ := h4.res.at
      have hbr := h4.bl
      have v0 := h4.res.free 0
      have v1 := h4.res.free 1
      have v2 := h4.res.free 2
      have v3 := h4.res.free 3
      have v4 := h4.res.free 4
      have v5 := h4.res.free 5
      have v6 := h4.res.free 6
      have v7 := h4.res.free 7
      simp only at e0 e1 e2 e3 e4 e5 e6 e7 u0 u1 u2 u3 u4 u5 u6 u7
      have hfin := fun v0 v1 v2 v3 v4 v5 v6 v7 => h6.fin (put8 _ r v0 v1 v2 v3 v4 v5 v6 v7)
      clear h6 h4
      go_wp2_with fail
      refine bodyPost_ret (v := .agg #[.int .i64 k, .int .i64 gr, .int .i64 o, .int .i64 wi, .int .i64 l, .int .i64 sz, .int .i64 z, .int .i64 t]) (by simp [results, Tryz.results96, go_sem, u0, u1, u2, u3, u4, u5, u6, u7]) rfl ⟨⟨k, gr, o, wi, l, sz, z, t⟩, rfl, ?_, (hfin _ _ _ _ _ _ _ _).1, (hfin _ _ _ _ _ _ _ _).2⟩
      exact ⟨i0, i1, i2, i3, i4, i5, ix, i7⟩
    · have cc : w6.cell? ⟨b, 7, none⟩ = some (.int .i64 t) := h4.ev.at.2.2.2.2.2.2.2
      have zz := h4.ev.free 7
      have h6 := h4.setT z
      clear cc
      obtain ⟨e0, e1, e2, e3, e4, e5, e6, e7⟩ := h4.ev.at
      obtain ⟨u0, u1, u2, u3, u4, u5, u6, u7⟩ := h4.res.at
      have hbr := h4.bl
      have v0 := h4.res.free 0
      have v1 := h4.res.free 1
      have v2 := h4.res.free 2
      have v3 := h4.res.free 3
      have v4 := h4.res.free 4
      have v5 := h4.res.free 5
      have v6 := h4.res.free 6
      have v7 := h4.res.free 7
      simp only at e0 e1 e2 e3 e4 e5 e6 e7 u0 u1 u2 u3 u4 u5 u6 u7
      have hfin := fun v0 v1 v2 v3 v4 v5 v6 v7 => h6.fin (put8 _ r v0 v1 v2 v3 v4 v5 v6 v7)
      clear h6 h4
      go_wp2_with fail
      refine bodyPost_ret (v := .agg #[.int .i64 k, .int .i64 gr, .int .i64 o, .int .i64 wi, .int .i64 l, .int .i64 sz, .int .i64 f, .int .i64 z]) (by simp [results, Tryz.results96, go_sem, u0, u1, u2, u3, u4, u5, u6, u7]) rfl ⟨⟨k, gr, o, wi, l, sz, f, z⟩, rfl, ?_, (hfin _ _ _ _ _ _ _ _).1, (hfin _ _ _ _ _ _ _ _).2⟩
      exact ⟨i0, i1, i2, i3, i4, i5, i6, ix⟩
end Go.Proofs.YtihdablgnmkjnaaGreatDoor
