/-
  A switch that falls through: blocks in blocks, each with what is done behind it.
-/
import Derived.Test.YtihdablgnmkjnaaGreatDoorPackAA
import Derived.Test.YtihdablgnmkjnaaGreatDoorPackAC
import Derived.Test.YtihdablgnmkjnaaGreatDoorPackAD
import Derived.Test.YtihdablgnmkjnaaGreatDoorPackAE
import Derived.Deep.CutBlock
namespace Go.Proofs.YtihdablgnmkjnaaGreatDoor
open Go.RowKit

/-- The blocks, the innermost first, each with the code behind it. -/
def nestC : List (Nat × Code) → Code → Code
  | [], c => c
  | (n, t) :: r, c => nestC r ((Code.block n c).seq t)
def postC (P : Program) (Q : Exit → Act → World → Prop) : List (Nat × Code) → Exit → Act → World → Prop
  | [] => Q
  | (n, t) :: r => Exit.inBlock n (Exit.then (t.wp P (postC P Q r)) (postC P Q r))
theorem wp_nestC {P : Program} {Q : Exit → Act → World → Prop} {a : Act} {w : World} : ∀ (L : List (Nat × Code)) (c : Code), c.wp P (postC P Q L) a w → (nestC L c).wp P Q a w
  | [], _, h => h
  | (_, _) :: r, _, h => wp_nestC r _ (wp_seq (wp_block h))
/-- The code behind is not looked at. -/
theorem wp_opaque {P : Program} {c : Code} {Q : Exit → Act → World → Prop} {a : Act} {w : World} (h : ∀ Q0 : Exit → Act → World → Prop, (∀ e a w, Q e a w → Q0 e a w) → c.wp P Q0 a w) : c.wp P Q a w := h Q fun _ _ _ h => h
/-- Out to the block m, and on behind it. -/
theorem postC_at {P : Program} {Q : Exit → Act → World → Prop} {a : Act} {w : World} {m : Nat} {t : Code} {r : List (Nat × Code)} : ∀ (L : List (Nat × Code)), (L.all fun x => x.1 != m) = true → t.wp P (postC P Q r) a w → postC P Q (L ++ (m, t) :: r) (.exit m) a w
  | [], _, h => by
    show Exit.inBlock m (Exit.then (t.wp P (postC P Q r)) (postC P Q r)) (.exit m) a w
    simpa [Exit.inBlock, Exit.then] using h
  | (n, c) :: L, hL, h => by
    simp only [List.all_cons, Bool.and_eq_true, bne_iff_ne, ne_eq] at hL
    have ih := postC_at (P := P) (Q := Q) (a := a) (w := w) (m := m) (t := t) (r := r) L hL.2 h
    show Exit.inBlock n (Exit.then (c.wp P (postC P Q (L ++ (m, t) :: r))) (postC P Q (L ++ (m, t) :: r))) (.exit m) a w
    have hne : ¬ m = n := fun q => hL.1 q.symm
    simpa [Exit.inBlock, Exit.then, hne] using ih
/-- Out of them all. -/
theorem postC_out {P : Program} {Q : Exit → Act → World → Prop} {a : Act} {w : World} {m : Nat} : ∀ (L : List (Nat × Code)), (L.all fun x => x.1 != m) = true → Q (.exit m) a w → postC P Q L (.exit m) a w
  | [], _, h => h
  | (n, c) :: L, hL, h => by
    simp only [List.all_cons, Bool.and_eq_true, bne_iff_ne, ne_eq] at hL
    have ih := postC_out (P := P) (Q := Q) (a := a) (w := w) (m := m) L hL.2 h
    show Exit.inBlock n (Exit.then (c.wp P (postC P Q L)) (postC P Q L)) (.exit m) a w
    have hne : ¬ m = n := fun q => hL.1 q.symm
    simpa [Exit.inBlock, Exit.then, hne] using ih
theorem postC_ret {P : Program} {Q : Exit → Act → World → Prop} {a : Act} {w : World} : ∀ (L : List (Nat × Code)), Q .ret a w → postC P Q L .ret a w
  | [], h => h
  | (_, _) :: L, h => postC_ret (P := P) L h
/-- On into the next one. -/
theorem postC_on {P : Program} {Q : Exit → Act → World → Prop} {a : Act} {w : World} {n : Nat} {t : Code} {r : List (Nat × Code)} (h : t.wp P (postC P Q r) a w) : postC P Q ((n, t) :: r) .normal a w := h
theorem inBlock_same {Q : Exit → Act → World → Prop} {a : Act} {w : World} {n : Nat} (h : Q .normal a w) : Exit.inBlock n Q (.exit n) a w := by
  simpa [Exit.inBlock] using h
theorem inBlock_ret {Q : Exit → Act → World → Prop} {a : Act} {w : World} {n : Nat} (h : Q .ret a w) : Exit.inBlock n Q .ret a w := h
theorem then_ret {K : Act → World → Prop} {Q : Exit → Act → World → Prop} {a : Act} {w : World} (h : Q .ret a w) : Exit.then K Q .ret a w := h
end Go.Proofs.YtihdablgnmkjnaaGreatDoor
/-
  The program's touches: what the kinds have in common.
-/
namespace Go.Proofs.YtihdablgnmkjnaaGreatDoor
open Go.RowKit

theorem Tryz.infoT : (Tryz.prog.info? 52).map (fun i => (i.zero, i.size, i.bytes)) = some (some (.agg #[.int .i64 0, .int .i64 0, .int .i64 0, .bool false, .bool false]), 5, 32) := by kernel_rfl
/-- A touch in a block of its own. -/
def TchJ (w : World) (b : Nat) (c : Tch) : Prop := w.heap[b]? = some (.cells #[.int .i64 c.sp, .int .i64 c.ob, .int .i64 c.sl, .bool c.tk, .bool c.gv] 52 (0, 0))
theorem TchJ.lt {w : World} {b : Nat} {c : Tch} (h : TchJ w b c) : b < w.heap.size := (Array.getElem?_eq_some_iff.1 h).1
theorem TchJ.keep {w w' : World} {b : Nat} {c : Tch} {row : Option Nat} (h : TchJ w b c) (k : w.grownBy w' row) (hr : some b ≠ row) : TchJ w' b c := (k.block b h.lt hr).trans h
theorem TchJ.free {w : World} {b : Nat} {c : Tch} (h : TchJ w b c) (i : Nat) : w.frozen? ⟨b, i, none⟩ = false := frozen_of_row w b i _ _ h
theorem TchJ.at {w : World} {b : Nat} {c : Tch} (h : TchJ w b c) : w.cell? ⟨b, 0, none⟩ = some (.int .i64 c.sp) ∧ w.cell? ⟨b, 1, none⟩ = some (.int .i64 c.ob) ∧ w.cell? ⟨b, 2, none⟩ = some (.int .i64 c.sl) ∧ w.cell? ⟨b, 3, none⟩ = some (.bool c.tk) ∧ w.cell? ⟨b, 4, none⟩ = some (.bool c.gv) :=
  ⟨cell_of_row w b 0 _ _ _ h, cell_of_row w b 1 _ _ _ h, cell_of_row w b 2 _ _ _ h, cell_of_row w b 3 _ _ _ h, cell_of_row w b 4 _ _ _ h⟩
theorem litK_reads {α : Type} (L : Lay α) (w : World) (xs : List α) (hl : xs.length ≤ 1000) (o : Obj) (ho : o = .cells (xs.flatMap L.cs).toArray L.ty (0, 0)) (k : Nat) (hk : w.heap.size = k) : ReadsG L (w.alloc o) (some ⟨k, 0, none⟩) xs := by
  obtain ⟨g, c, e, h1, h2⟩ := ownG_litK L w xs hl o ho k 0 hk (Nat.zero_le _)
  simp only [Value.slice.injEq, Option.some.injEq, Addr.mk.injEq, and_true, true_and] at e
  obtain ⟨rfl, -⟩ := e
  exact own_readsG h1 h2
end Go.Proofs.YtihdablgnmkjnaaGreatDoor
/-
  The program's touches, kind by kind (1, 3, 4, 5, 6, 7).
-/
namespace Go.Proofs.YtihdablgnmkjnaaGreatDoor
open Go.RowKit

set_option maxRecDepth 20000 in
set_option maxHeartbeats 2000000 in
theorem tchI_1 (b b2 : Nat) (co cap sent got : Int) (cl : Bool) (gr o wi l sz f t : Int) (w : World) (hb : w.cell? ⟨b, 2, none⟩ = some (.map (some b2)))
    (hL : ∀ u, Fr w u → (Instr.lookup 133 (.map (some b2)) (.int .i64 o) false).run Tryz.prog u = .ok (.agg #[.int .i64 co, .int .i64 cap, .int .i64 sent, .int .i64 got, .bool cl]) u) :
    Calls Tryz.prog 64 #[.pointer (some ⟨b, 0, none⟩), .agg #[.int .i64 1, .int .i64 gr, .int .i64 o, .int .i64 wi, .int .i64 l, .int .i64 sz, .int .i64 f, .int .i64 t]] w fun x w' => ∃ v, x = .returned v ∧ OwnG layT w' w.heap.size v [] ∧ Fr w w' := by
  have fW := Fr.alloc w (.cells #[.int .i64 1, .int .i64 gr, .int .i64 o, .int .i64 wi, .int .i64 l, .int .i64 sz, .int .i64 f, .int .i64 t] 31)
  have kE := EvAt.new w ⟨1, gr, o, wi, l, sz, f, t⟩ 31
  have hb := fW.cell hb
  simp only at kE
  go_enter Tryz.func64, Tryz.ntmps64
  go_wp2_with fail
  obtain ⟨W, hW⟩ : ∃ W, W = w.alloc (.cells #[.int .i64 1, .int .i64 gr, .int .i64 o, .int .i64 wi, .int .i64 l, .int .i64 sz, .int .i64 f, .int .i64 t] 31) := ⟨_, rfl⟩
  rw [← hW] at fW kE hb ⊢
  clear hW
  obtain ⟨c0, c1, c2, c3, c4, c5, c6, c7⟩ := kE
  simp only at c0 c2
  clear c1 c3 c4 c5 c6 c7
  have HL : Hid (∀ u, Fr w u → (Instr.lookup 133 (.map (some b2)) (.int .i64 o) false).run Tryz.prog u = .ok (.agg #[.int .i64 co, .int .i64 cap, .int .i64 sent, .int .i64 got, .bool cl]) u) := hL
  clear hL
  have l1 := HL.out _ (fW.trans (Fr.drew W))
  have l2 := HL.out _ ((fW.trans (Fr.alloc W (.cells #[.int .i64 0, .int .i64 0, .int .i64 0, .int .i64 0, .bool false] 87))).trans (Fr.drew _))
  go_region_held3 (fun u => u.cell? ⟨b, 2, none⟩ = some (.map (some b2)) ∧ u.cell? ⟨w.heap.size, 2, none⟩ = some (.int .i64 o)) (go_keep) (fail)
  all_goals (
    clear l1 l2 HL
    obtain ⟨V, hV⟩ : ∃ V, V = (W.alloc (.cells #[.int .i64 co, .int .i64 cap, .int .i64 sent, .int .i64 got, .bool cl] 87)).drew := ⟨_, rfl⟩
    have fA : Fr W V := by rw [hV]; exact (Fr.alloc _ _).trans (Fr.drew _)
    have fV : Fr w V := fW.trans fA
    have x0 := fA.cell c0
    have x2 := fA.cell c2
    have y1 : V.cell? ⟨W.heap.size, 1, none⟩ = some (.int .i64 cap) := by rw [hV]; simp [go_sem]
    have y2 : V.cell? ⟨W.heap.size, 2, none⟩ = some (.int .i64 sent) := by rw [hV]; simp [go_sem]
    have y3 : V.cell? ⟨W.heap.size, 3, none⟩ = some (.int .i64 got) := by rw [hV]; simp [go_sem]
    rw [← hV]
    have hbV : w.heap.size ≤ V.heap.size := fV.size
    have z1 : w.heap.size < V.heap.size := World.block_lt_of_cell? V _ x0
    have z2 : W.heap.size < V.heap.size := World.block_lt_of_cell? V _ y1
    have n1 : ¬ w.heap.size = V.heap.size := by omega
    have n2 : ¬ w.heap.size = V.heap.size + 1 := by omega
    have n3 : ¬ W.heap.size = V.heap.size := by omega
    have n4 : ¬ W.heap.size = V.heap.size + 1 := by omega
    clear hV fA c0 c2 hb
    go_upto_block 0 with fail
    refine wp_block ?_
    refine wp_nestC [(1, _), (2, _), (3, _), (4, _), (5, _), (6, _), (7, _), (8, _), (9, _), (10, _), (11, _), (12, _), (13, _), (14, _), (15, _), (16, _)] _ ?_
    refine wp_opaque (fun Q0 hQ0 => ?_)
    have HQ0 : Hid _ := hQ0
    clear hQ0
    go_wp2_with fail
    refine HQ0.out _ _ _ (postC_at [(1, _), (2, _), (3, _), (4, _), (5, _), (6, _), (7, _), (8, _), (9, _), (10, _), (11, _), (12, _), (13, _), (14, _), (15, _)] (by rfl) ?_)
    clear HQ0
    refine wp_opaque (fun Q1 hQ1 => ?_)
    have HQ1 : Hid _ := hQ1
    clear hQ1
    go_wp2_with fail
    refine HQ1.out _ _ _ (postC_ret _ ?_)
    clear HQ1
    repeat (first | refine inBlock_ret ?_ | refine then_ret ?_)
    go_ret
    refine ⟨.slice (some ⟨V.heap.size + 1 + 1, 0, none⟩) 0 0, rfl, ?_, ?_⟩
    · exact ownG_litK layT _ [] (by simp) _ rfl _ _ (by simp) (by omega)
    · exact ((fV.trans (Fr.alloc _ _)).trans (Fr.alloc _ _)).trans (Fr.alloc _ _))

set_option maxRecDepth 20000 in
set_option maxHeartbeats 2000000 in
theorem tchI_3 (b b2 : Nat) (co cap sent got : Int) (cl : Bool) (gr o wi l sz f t : Int) (w : World) (hb : w.cell? ⟨b, 2, none⟩ = some (.map (some b2)))
    (hL : ∀ u, Fr w u → (Instr.lookup 133 (.map (some b2)) (.int .i64 o) false).run Tryz.prog u = .ok (.agg #[.int .i64 co, .int .i64 cap, .int .i64 sent, .int .i64 got, .bool cl]) u) :
    Calls Tryz.prog 64 #[.pointer (some ⟨b, 0, none⟩), .agg #[.int .i64 3, .int .i64 gr, .int .i64 o, .int .i64 wi, .int .i64 l, .int .i64 sz, .int .i64 f, .int .i64 t]] w fun x w' => ∃ v, x = .returned v ∧ OwnG layT w' w.heap.size v [⟨1, o, 0, false, true⟩] ∧ Fr w w' := by
  have fW := Fr.alloc w (.cells #[.int .i64 3, .int .i64 gr, .int .i64 o, .int .i64 wi, .int .i64 l, .int .i64 sz, .int .i64 f, .int .i64 t] 31)
  have kE := EvAt.new w ⟨3, gr, o, wi, l, sz, f, t⟩ 31
  have hb := fW.cell hb
  simp only at kE
  go_enter Tryz.func64, Tryz.ntmps64
  go_wp2_with fail
  obtain ⟨W, hW⟩ : ∃ W, W = w.alloc (.cells #[.int .i64 3, .int .i64 gr, .int .i64 o, .int .i64 wi, .int .i64 l, .int .i64 sz, .int .i64 f, .int .i64 t] 31) := ⟨_, rfl⟩
  rw [← hW] at fW kE hb ⊢
  clear hW
  obtain ⟨c0, c1, c2, c3, c4, c5, c6, c7⟩ := kE
  simp only at c0 c2
  clear c1 c3 c4 c5 c6 c7
  have HL : Hid (∀ u, Fr w u → (Instr.lookup 133 (.map (some b2)) (.int .i64 o) false).run Tryz.prog u = .ok (.agg #[.int .i64 co, .int .i64 cap, .int .i64 sent, .int .i64 got, .bool cl]) u) := hL
  clear hL
  have l1 := HL.out _ (fW.trans (Fr.drew W))
  have l2 := HL.out _ ((fW.trans (Fr.alloc W (.cells #[.int .i64 0, .int .i64 0, .int .i64 0, .int .i64 0, .bool false] 87))).trans (Fr.drew _))
  go_region_held3 (fun u => u.cell? ⟨b, 2, none⟩ = some (.map (some b2)) ∧ u.cell? ⟨w.heap.size, 2, none⟩ = some (.int .i64 o)) (go_keep) (fail)
  all_goals (
    clear l1 l2 HL
    obtain ⟨V, hV⟩ : ∃ V, V = (W.alloc (.cells #[.int .i64 co, .int .i64 cap, .int .i64 sent, .int .i64 got, .bool cl] 87)).drew := ⟨_, rfl⟩
    have fA : Fr W V := by rw [hV]; exact (Fr.alloc _ _).trans (Fr.drew _)
    have fV : Fr w V := fW.trans fA
    have x0 := fA.cell c0
    have x2 := fA.cell c2
    have y1 : V.cell? ⟨W.heap.size, 1, none⟩ = some (.int .i64 cap) := by rw [hV]; simp [go_sem]
    have y2 : V.cell? ⟨W.heap.size, 2, none⟩ = some (.int .i64 sent) := by rw [hV]; simp [go_sem]
    have y3 : V.cell? ⟨W.heap.size, 3, none⟩ = some (.int .i64 got) := by rw [hV]; simp [go_sem]
    rw [← hV]
    have hbV : w.heap.size ≤ V.heap.size := fV.size
    have z1 : w.heap.size < V.heap.size := World.block_lt_of_cell? V _ x0
    have z2 : W.heap.size < V.heap.size := World.block_lt_of_cell? V _ y1
    have n1 : ¬ w.heap.size = V.heap.size := by omega
    have n2 : ¬ w.heap.size = V.heap.size + 1 := by omega
    have n3 : ¬ W.heap.size = V.heap.size := by omega
    have n4 : ¬ W.heap.size = V.heap.size + 1 := by omega
    clear hV fA c0 c2 hb
    go_upto_block 0 with fail
    refine wp_block ?_
    refine wp_nestC [(1, _), (2, _), (3, _), (4, _), (5, _), (6, _), (7, _), (8, _), (9, _), (10, _), (11, _), (12, _), (13, _), (14, _), (15, _), (16, _)] _ ?_
    refine wp_opaque (fun Q0 hQ0 => ?_)
    have HQ0 : Hid _ := hQ0
    clear hQ0
    go_wp2_with fail
    refine HQ0.out _ _ _ (postC_at [(1, _), (2, _)] (by rfl) ?_)
    clear HQ0
    refine wp_opaque (fun Q1 hQ1 => ?_)
    have HQ1 : Hid _ := hQ1
    clear hQ1
    go_wp2_with fail
    refine HQ1.out _ _ _ (postC_out _ (by rfl) (inBlock_same ?_))
    clear HQ1
    go_wp2_with (at_builtin; refine appGL layT _ rfl _ _ 49 _ 32 rfl Tryz.underlying49 Tryz.infoT rfl (by decide) w.heap.size (.slice (some ⟨V.heap.size + 1 + 1, 0, none⟩) 1 1) [⟨1, o, 0, false, true⟩] [] rfl (ownG_litK layT _ [⟨1, o, 0, false, true⟩] (by simp) _ rfl _ _ (by simp) (by omega)) ⟨V.heap.size + 1, 0, none⟩ 0 rfl (by simp) (by simp) (by simp; omega) ?_; intro v4 w4 hv4 hg4 hat4)
    go_ret
    refine ⟨v4, rfl, hv4, ?_⟩
    exact (((fV.trans (Fr.alloc _ _)).trans (Fr.alloc _ _)).trans (Fr.alloc _ _)).then hg4 (fun j hj => by simp only [Value.ownBlock, Option.some.injEq] at hj; omega))

set_option maxRecDepth 20000 in
set_option maxHeartbeats 2000000 in
theorem tchI_4 (b b2 : Nat) (co cap sent got : Int) (cl : Bool) (gr o wi l sz f t : Int) (w : World) (hb : w.cell? ⟨b, 2, none⟩ = some (.map (some b2)))
    (hL : ∀ u, Fr w u → (Instr.lookup 133 (.map (some b2)) (.int .i64 o) false).run Tryz.prog u = .ok (.agg #[.int .i64 co, .int .i64 cap, .int .i64 sent, .int .i64 got, .bool cl]) u) :
    Calls Tryz.prog 64 #[.pointer (some ⟨b, 0, none⟩), .agg #[.int .i64 4, .int .i64 gr, .int .i64 o, .int .i64 wi, .int .i64 l, .int .i64 sz, .int .i64 f, .int .i64 t]] w fun x w' => ∃ v, x = .returned v ∧ OwnG layT w' w.heap.size v [⟨1, o, 0, true, false⟩] ∧ Fr w w' := by
  have fW := Fr.alloc w (.cells #[.int .i64 4, .int .i64 gr, .int .i64 o, .int .i64 wi, .int .i64 l, .int .i64 sz, .int .i64 f, .int .i64 t] 31)
  have kE := EvAt.new w ⟨4, gr, o, wi, l, sz, f, t⟩ 31
  have hb := fW.cell hb
  simp only at kE
  go_enter Tryz.func64, Tryz.ntmps64
  go_wp2_with fail
  obtain ⟨W, hW⟩ : ∃ W, W = w.alloc (.cells #[.int .i64 4, .int .i64 gr, .int .i64 o, .int .i64 wi, .int .i64 l, .int .i64 sz, .int .i64 f, .int .i64 t] 31) := ⟨_, rfl⟩
  rw [← hW] at fW kE hb ⊢
  clear hW
  obtain ⟨c0, c1, c2, c3, c4, c5, c6, c7⟩ := kE
  simp only at c0 c2
  clear c1 c3 c4 c5 c6 c7
  have HL : Hid (∀ u, Fr w u → (Instr.lookup 133 (.map (some b2)) (.int .i64 o) false).run Tryz.prog u = .ok (.agg #[.int .i64 co, .int .i64 cap, .int .i64 sent, .int .i64 got, .bool cl]) u) := hL
  clear hL
  have l1 := HL.out _ (fW.trans (Fr.drew W))
  have l2 := HL.out _ ((fW.trans (Fr.alloc W (.cells #[.int .i64 0, .int .i64 0, .int .i64 0, .int .i64 0, .bool false] 87))).trans (Fr.drew _))
  go_region_held3 (fun u => u.cell? ⟨b, 2, none⟩ = some (.map (some b2)) ∧ u.cell? ⟨w.heap.size, 2, none⟩ = some (.int .i64 o)) (go_keep) (fail)
  all_goals (
    clear l1 l2 HL
    obtain ⟨V, hV⟩ : ∃ V, V = (W.alloc (.cells #[.int .i64 co, .int .i64 cap, .int .i64 sent, .int .i64 got, .bool cl] 87)).drew := ⟨_, rfl⟩
    have fA : Fr W V := by rw [hV]; exact (Fr.alloc _ _).trans (Fr.drew _)
    have fV : Fr w V := fW.trans fA
    have x0 := fA.cell c0
    have x2 := fA.cell c2
    have y1 : V.cell? ⟨W.heap.size, 1, none⟩ = some (.int .i64 cap) := by rw [hV]; simp [go_sem]
    have y2 : V.cell? ⟨W.heap.size, 2, none⟩ = some (.int .i64 sent) := by rw [hV]; simp [go_sem]
    have y3 : V.cell? ⟨W.heap.size, 3, none⟩ = some (.int .i64 got) := by rw [hV]; simp [go_sem]
    rw [← hV]
    have hbV : w.heap.size ≤ V.heap.size := fV.size
    have z1 : w.heap.size < V.heap.size := World.block_lt_of_cell? V _ x0
    have z2 : W.heap.size < V.heap.size := World.block_lt_of_cell? V _ y1
    have n1 : ¬ w.heap.size = V.heap.size := by omega
    have n2 : ¬ w.heap.size = V.heap.size + 1 := by omega
    have n3 : ¬ W.heap.size = V.heap.size := by omega
    have n4 : ¬ W.heap.size = V.heap.size + 1 := by omega
    clear hV fA c0 c2 hb
    go_upto_block 0 with fail
    refine wp_block ?_
    refine wp_nestC [(1, _), (2, _), (3, _), (4, _), (5, _), (6, _), (7, _), (8, _), (9, _), (10, _), (11, _), (12, _), (13, _), (14, _), (15, _), (16, _)] _ ?_
    refine wp_opaque (fun Q0 hQ0 => ?_)
    have HQ0 : Hid _ := hQ0
    clear hQ0
    go_wp2_with fail
    refine HQ0.out _ _ _ (postC_at [(1, _)] (by rfl) ?_)
    clear HQ0
    refine wp_opaque (fun Q1 hQ1 => ?_)
    have HQ1 : Hid _ := hQ1
    clear hQ1
    go_wp2_with fail
    refine HQ1.out _ _ _ (postC_out _ (by rfl) (inBlock_same ?_))
    clear HQ1
    go_wp2_with (at_builtin; refine appGL layT _ rfl _ _ 49 _ 32 rfl Tryz.underlying49 Tryz.infoT rfl (by decide) w.heap.size (.slice (some ⟨V.heap.size + 1 + 1, 0, none⟩) 1 1) [⟨1, o, 0, true, false⟩] [] rfl (ownG_litK layT _ [⟨1, o, 0, true, false⟩] (by simp) _ rfl _ _ (by simp) (by omega)) ⟨V.heap.size + 1, 0, none⟩ 0 rfl (by simp) (by simp) (by simp; omega) ?_; intro v4 w4 hv4 hg4 hat4)
    go_ret
    refine ⟨v4, rfl, hv4, ?_⟩
    exact (((fV.trans (Fr.alloc _ _)).trans (Fr.alloc _ _)).trans (Fr.alloc _ _)).then hg4 (fun j hj => by simp only [Value.ownBlock, Option.some.injEq] at hj; omega))

set_option maxRecDepth 20000 in
set_option maxHeartbeats 2000000 in
theorem tchI_5 (b b2 : Nat) (co cap sent got : Int) (cl : Bool) (gr o wi l sz f t : Int) (w : World) (hb : w.cell? ⟨b, 2, none⟩ = some (.map (some b2)))
    (hL : ∀ u, Fr w u → (Instr.lookup 133 (.map (some b2)) (.int .i64 o) false).run Tryz.prog u = .ok (.agg #[.int .i64 co, .int .i64 cap, .int .i64 sent, .int .i64 got, .bool cl]) u) :
    Calls Tryz.prog 64 #[.pointer (some ⟨b, 0, none⟩), .agg #[.int .i64 5, .int .i64 gr, .int .i64 o, .int .i64 wi, .int .i64 l, .int .i64 sz, .int .i64 f, .int .i64 t]] w fun x w' => ∃ v, x = .returned v ∧ OwnG layT w' w.heap.size v [⟨2, o, 0, false, true⟩] ∧ Fr w w' := by
  have fW := Fr.alloc w (.cells #[.int .i64 5, .int .i64 gr, .int .i64 o, .int .i64 wi, .int .i64 l, .int .i64 sz, .int .i64 f, .int .i64 t] 31)
  have kE := EvAt.new w ⟨5, gr, o, wi, l, sz, f, t⟩ 31
  have hb := fW.cell hb
  simp only at kE
  go_enter Tryz.func64, Tryz.ntmps64
  go_wp2_with fail
  obtain ⟨W, hW⟩ : ∃ W, W = w.alloc (.cells #[.int .i64 5, .int .i64 gr, .int .i64 o, .int .i64 wi, .int .i64 l, .int .i64 sz, .int .i64 f, .int .i64 t] 31) := ⟨_, rfl⟩
  rw [← hW] at fW kE hb ⊢
  clear hW
  obtain ⟨c0, c1, c2, c3, c4, c5, c6, c7⟩ := kE
  simp only at c0 c2
  clear c1 c3 c4 c5 c6 c7
  have HL : Hid (∀ u, Fr w u → (Instr.lookup 133 (.map (some b2)) (.int .i64 o) false).run Tryz.prog u = .ok (.agg #[.int .i64 co, .int .i64 cap, .int .i64 sent, .int .i64 got, .bool cl]) u) := hL
  clear hL
  have l1 := HL.out _ (fW.trans (Fr.drew W))
  have l2 := HL.out _ ((fW.trans (Fr.alloc W (.cells #[.int .i64 0, .int .i64 0, .int .i64 0, .int .i64 0, .bool false] 87))).trans (Fr.drew _))
  go_region_held3 (fun u => u.cell? ⟨b, 2, none⟩ = some (.map (some b2)) ∧ u.cell? ⟨w.heap.size, 2, none⟩ = some (.int .i64 o)) (go_keep) (fail)
  all_goals (
    clear l1 l2 HL
    obtain ⟨V, hV⟩ : ∃ V, V = (W.alloc (.cells #[.int .i64 co, .int .i64 cap, .int .i64 sent, .int .i64 got, .bool cl] 87)).drew := ⟨_, rfl⟩
    have fA : Fr W V := by rw [hV]; exact (Fr.alloc _ _).trans (Fr.drew _)
    have fV : Fr w V := fW.trans fA
    have x0 := fA.cell c0
    have x2 := fA.cell c2
    have y1 : V.cell? ⟨W.heap.size, 1, none⟩ = some (.int .i64 cap) := by rw [hV]; simp [go_sem]
    have y2 : V.cell? ⟨W.heap.size, 2, none⟩ = some (.int .i64 sent) := by rw [hV]; simp [go_sem]
    have y3 : V.cell? ⟨W.heap.size, 3, none⟩ = some (.int .i64 got) := by rw [hV]; simp [go_sem]
    rw [← hV]
    have hbV : w.heap.size ≤ V.heap.size := fV.size
    have z1 : w.heap.size < V.heap.size := World.block_lt_of_cell? V _ x0
    have z2 : W.heap.size < V.heap.size := World.block_lt_of_cell? V _ y1
    have n1 : ¬ w.heap.size = V.heap.size := by omega
    have n2 : ¬ w.heap.size = V.heap.size + 1 := by omega
    have n3 : ¬ W.heap.size = V.heap.size := by omega
    have n4 : ¬ W.heap.size = V.heap.size + 1 := by omega
    clear hV fA c0 c2 hb
    go_upto_block 0 with fail
    refine wp_block ?_
    refine wp_nestC [(1, _), (2, _), (3, _), (4, _), (5, _), (6, _), (7, _), (8, _), (9, _), (10, _), (11, _), (12, _), (13, _), (14, _), (15, _), (16, _)] _ ?_
    refine wp_opaque (fun Q0 hQ0 => ?_)
    have HQ0 : Hid _ := hQ0
    clear hQ0
    go_wp2_with fail
    refine HQ0.out _ _ _ (postC_at [(1, _), (2, _), (3, _)] (by rfl) ?_)
    clear HQ0
    refine wp_opaque (fun Q1 hQ1 => ?_)
    have HQ1 : Hid _ := hQ1
    clear hQ1
    go_wp2_with fail
    refine HQ1.out _ _ _ (postC_out _ (by rfl) (inBlock_same ?_))
    clear HQ1
    go_wp2_with (at_builtin; refine appGL layT _ rfl _ _ 49 _ 32 rfl Tryz.underlying49 Tryz.infoT rfl (by decide) w.heap.size (.slice (some ⟨V.heap.size + 1 + 1, 0, none⟩) 1 1) [⟨2, o, 0, false, true⟩] [] rfl (ownG_litK layT _ [⟨2, o, 0, false, true⟩] (by simp) _ rfl _ _ (by simp) (by omega)) ⟨V.heap.size + 1, 0, none⟩ 0 rfl (by simp) (by simp) (by simp; omega) ?_; intro v4 w4 hv4 hg4 hat4)
    go_ret
    refine ⟨v4, rfl, hv4, ?_⟩
    exact (((fV.trans (Fr.alloc _ _)).trans (Fr.alloc _ _)).trans (Fr.alloc _ _)).then hg4 (fun j hj => by simp only [Value.ownBlock, Option.some.injEq] at hj; omega))

set_option maxRecDepth 20000 in
set_option maxHeartbeats 2000000 in
theorem tchI_6 (b b2 : Nat) (co cap sent got : Int) (cl : Bool) (gr o wi l sz f t : Int) (w : World) (hb : w.cell? ⟨b, 2, none⟩ = some (.map (some b2)))
    (hL : ∀ u, Fr w u → (Instr.lookup 133 (.map (some b2)) (.int .i64 o) false).run Tryz.prog u = .ok (.agg #[.int .i64 co, .int .i64 cap, .int .i64 sent, .int .i64 got, .bool cl]) u) :
    Calls Tryz.prog 64 #[.pointer (some ⟨b, 0, none⟩), .agg #[.int .i64 6, .int .i64 gr, .int .i64 o, .int .i64 wi, .int .i64 l, .int .i64 sz, .int .i64 f, .int .i64 t]] w fun x w' => ∃ v, x = .returned v ∧ OwnG layT w' w.heap.size v [] ∧ Fr w w' := by
  have fW := Fr.alloc w (.cells #[.int .i64 6, .int .i64 gr, .int .i64 o, .int .i64 wi, .int .i64 l, .int .i64 sz, .int .i64 f, .int .i64 t] 31)
  have kE := EvAt.new w ⟨6, gr, o, wi, l, sz, f, t⟩ 31
  have hb := fW.cell hb
  simp only at kE
  go_enter Tryz.func64, Tryz.ntmps64
  go_wp2_with fail
  obtain ⟨W, hW⟩ : ∃ W, W = w.alloc (.cells #[.int .i64 6, .int .i64 gr, .int .i64 o, .int .i64 wi, .int .i64 l, .int .i64 sz, .int .i64 f, .int .i64 t] 31) := ⟨_, rfl⟩
  rw [← hW] at fW kE hb ⊢
  clear hW
  obtain ⟨c0, c1, c2, c3, c4, c5, c6, c7⟩ := kE
  simp only at c0 c2
  clear c1 c3 c4 c5 c6 c7
  have HL : Hid (∀ u, Fr w u → (Instr.lookup 133 (.map (some b2)) (.int .i64 o) false).run Tryz.prog u = .ok (.agg #[.int .i64 co, .int .i64 cap, .int .i64 sent, .int .i64 got, .bool cl]) u) := hL
  clear hL
  have l1 := HL.out _ (fW.trans (Fr.drew W))
  have l2 := HL.out _ ((fW.trans (Fr.alloc W (.cells #[.int .i64 0, .int .i64 0, .int .i64 0, .int .i64 0, .bool false] 87))).trans (Fr.drew _))
  go_region_held3 (fun u => u.cell? ⟨b, 2, none⟩ = some (.map (some b2)) ∧ u.cell? ⟨w.heap.size, 2, none⟩ = some (.int .i64 o)) (go_keep) (fail)
  all_goals (
    clear l1 l2 HL
    obtain ⟨V, hV⟩ : ∃ V, V = (W.alloc (.cells #[.int .i64 co, .int .i64 cap, .int .i64 sent, .int .i64 got, .bool cl] 87)).drew := ⟨_, rfl⟩
    have fA : Fr W V := by rw [hV]; exact (Fr.alloc _ _).trans (Fr.drew _)
    have fV : Fr w V := fW.trans fA
    have x0 := fA.cell c0
    have x2 := fA.cell c2
    have y1 : V.cell? ⟨W.heap.size, 1, none⟩ = some (.int .i64 cap) := by rw [hV]; simp [go_sem]
    have y2 : V.cell? ⟨W.heap.size, 2, none⟩ = some (.int .i64 sent) := by rw [hV]; simp [go_sem]
    have y3 : V.cell? ⟨W.heap.size, 3, none⟩ = some (.int .i64 got) := by rw [hV]; simp [go_sem]
    rw [← hV]
    have hbV : w.heap.size ≤ V.heap.size := fV.size
    have z1 : w.heap.size < V.heap.size := World.block_lt_of_cell? V _ x0
    have z2 : W.heap.size < V.heap.size := World.block_lt_of_cell? V _ y1
    have n1 : ¬ w.heap.size = V.heap.size := by omega
    have n2 : ¬ w.heap.size = V.heap.size + 1 := by omega
    have n3 : ¬ W.heap.size = V.heap.size := by omega
    have n4 : ¬ W.heap.size = V.heap.size + 1 := by omega
    clear hV fA c0 c2 hb
    go_upto_block 0 with fail
    refine wp_block ?_
    refine wp_nestC [(1, _), (2, _), (3, _), (4, _), (5, _), (6, _), (7, _), (8, _), (9, _), (10, _), (11, _), (12, _), (13, _), (14, _), (15, _), (16, _)] _ ?_
    refine wp_opaque (fun Q0 hQ0 => ?_)
    have HQ0 : Hid _ := hQ0
    clear hQ0
    go_wp2_with fail
    refine HQ0.out _ _ _ (postC_at [(1, _), (2, _), (3, _), (4, _), (5, _), (6, _), (7, _), (8, _), (9, _), (10, _), (11, _), (12, _), (13, _), (14, _), (15, _)] (by rfl) ?_)
    clear HQ0
    refine wp_opaque (fun Q1 hQ1 => ?_)
    have HQ1 : Hid _ := hQ1
    clear hQ1
    go_wp2_with fail
    refine HQ1.out _ _ _ (postC_ret _ ?_)
    clear HQ1
    repeat (first | refine inBlock_ret ?_ | refine then_ret ?_)
    go_ret
    refine ⟨.slice (some ⟨V.heap.size + 1 + 1, 0, none⟩) 0 0, rfl, ?_, ?_⟩
    · exact ownG_litK layT _ [] (by simp) _ rfl _ _ (by simp) (by omega)
    · exact ((fV.trans (Fr.alloc _ _)).trans (Fr.alloc _ _)).trans (Fr.alloc _ _))

set_option maxRecDepth 20000 in
set_option maxHeartbeats 2000000 in
theorem tchI_7 (b b2 : Nat) (co cap sent got : Int) (cl : Bool) (gr o wi l sz f t : Int) (w : World) (hb : w.cell? ⟨b, 2, none⟩ = some (.map (some b2))) (hc : cap ≠ 0) (hs : 0 ≤ got ∧ 0 ≤ sent ∧ got ≤ 1000000 ∧ sent ≤ 1000000 ∧ 0 ≤ cap ∧ cap ≤ 8)
    (hL : ∀ u, Fr w u → (Instr.lookup 133 (.map (some b2)) (.int .i64 o) false).run Tryz.prog u = .ok (.agg #[.int .i64 co, .int .i64 cap, .int .i64 sent, .int .i64 got, .bool cl]) u) :
    Calls Tryz.prog 64 #[.pointer (some ⟨b, 0, none⟩), .agg #[.int .i64 7, .int .i64 gr, .int .i64 o, .int .i64 wi, .int .i64 l, .int .i64 sz, .int .i64 f, .int .i64 t]] w fun x w' => ∃ v, x = .returned v ∧ OwnG layT w' w.heap.size v [⟨3, o, sent % cap, true, true⟩] ∧ Fr w w' := by
  have fW := Fr.alloc w (.cells #[.int .i64 7, .int .i64 gr, .int .i64 o, .int .i64 wi, .int .i64 l, .int .i64 sz, .int .i64 f, .int .i64 t] 31)
  have kE := EvAt.new w ⟨7, gr, o, wi, l, sz, f, t⟩ 31
  have hb := fW.cell hb
  simp only at kE
  go_enter Tryz.func64, Tryz.ntmps64
  go_wp2_with fail
  obtain ⟨W, hW⟩ : ∃ W, W = w.alloc (.cells #[.int .i64 7, .int .i64 gr, .int .i64 o, .int .i64 wi, .int .i64 l, .int .i64 sz, .int .i64 f, .int .i64 t] 31) := ⟨_, rfl⟩
  rw [← hW] at fW kE hb ⊢
  clear hW
  obtain ⟨c0, c1, c2, c3, c4, c5, c6, c7⟩ := kE
  simp only at c0 c2
  clear c1 c3 c4 c5 c6 c7
  have HL : Hid (∀ u, Fr w u → (Instr.lookup 133 (.map (some b2)) (.int .i64 o) false).run Tryz.prog u = .ok (.agg #[.int .i64 co, .int .i64 cap, .int .i64 sent, .int .i64 got, .bool cl]) u) := hL
  clear hL
  have l1 := HL.out _ (fW.trans (Fr.drew W))
  have l2 := HL.out _ ((fW.trans (Fr.alloc W (.cells #[.int .i64 0, .int .i64 0, .int .i64 0, .int .i64 0, .bool false] 87))).trans (Fr.drew _))
  go_region_held3 (fun u => u.cell? ⟨b, 2, none⟩ = some (.map (some b2)) ∧ u.cell? ⟨w.heap.size, 2, none⟩ = some (.int .i64 o)) (go_keep) (fail)
  all_goals (
    clear l1 l2 HL
    obtain ⟨V, hV⟩ : ∃ V, V = (W.alloc (.cells #[.int .i64 co, .int .i64 cap, .int .i64 sent, .int .i64 got, .bool cl] 87)).drew := ⟨_, rfl⟩
    have fA : Fr W V := by rw [hV]; exact (Fr.alloc _ _).trans (Fr.drew _)
    have fV : Fr w V := fW.trans fA
    have x0 := fA.cell c0
    have x2 := fA.cell c2
    have y1 : V.cell? ⟨W.heap.size, 1, none⟩ = some (.int .i64 cap) := by rw [hV]; simp [go_sem]
    have y2 : V.cell? ⟨W.heap.size, 2, none⟩ = some (.int .i64 sent) := by rw [hV]; simp [go_sem]
    have y3 : V.cell? ⟨W.heap.size, 3, none⟩ = some (.int .i64 got) := by rw [hV]; simp [go_sem]
    rw [← hV]
    have hbV : w.heap.size ≤ V.heap.size := fV.size
    have z1 : w.heap.size < V.heap.size := World.block_lt_of_cell? V _ x0
    have z2 : W.heap.size < V.heap.size := World.block_lt_of_cell? V _ y1
    have n1 : ¬ w.heap.size = V.heap.size := by omega
    have n2 : ¬ w.heap.size = V.heap.size + 1 := by omega
    have n3 : ¬ W.heap.size = V.heap.size := by omega
    have n4 : ¬ W.heap.size = V.heap.size + 1 := by omega
    clear hV fA c0 c2 hb
    obtain ⟨s1, s2, s3, s4, s5, s6⟩ := hs
    have hc1 : ¬ cap = 0 := hc
    go_upto_block 0 with fail
    refine wp_block ?_
    refine wp_nestC [(1, _), (2, _), (3, _), (4, _), (5, _), (6, _), (7, _), (8, _), (9, _), (10, _), (11, _), (12, _), (13, _), (14, _), (15, _), (16, _)] _ ?_
    refine wp_opaque (fun Q0 hQ0 => ?_)
    have HQ0 : Hid _ := hQ0
    clear hQ0
    go_wp2_with fail
    refine HQ0.out _ _ _ (postC_at [(1, _), (2, _), (3, _), (4, _), (5, _)] (by rfl) ?_)
    clear HQ0
    refine wp_opaque (fun Q1 hQ1 => ?_)
    have HQ1 : Hid _ := hQ1
    clear hQ1
    go_wp2_with fail
    refine HQ1.out _ _ _ (postC_out _ (by rfl) (inBlock_same ?_))
    clear HQ1
    go_wp2_with (at_builtin; refine appGL layT _ rfl _ _ 49 _ 32 rfl Tryz.underlying49 Tryz.infoT rfl (by decide) w.heap.size (.slice (some ⟨V.heap.size + 1 + 1, 0, none⟩) 1 1) [⟨3, o, sent % cap, true, true⟩] [] rfl (ownG_litK layT _ [⟨3, o, sent % cap, true, true⟩] (by simp) _ rfl _ _ (by simp) (by omega)) ⟨V.heap.size + 1, 0, none⟩ 0 rfl (by simp) (by simp) (by simp; omega) ?_; intro v4 w4 hv4 hg4 hat4)
    go_ret
    refine ⟨v4, rfl, hv4, ?_⟩
    exact (((fV.trans (Fr.alloc _ _)).trans (Fr.alloc _ _)).trans (Fr.alloc _ _)).then hg4 (fun j hj => by simp only [Value.ownBlock, Option.some.injEq] at hj; omega))
end Go.Proofs.YtihdablgnmkjnaaGreatDoor
/-
  The program's touches, kind by kind (8, 9, 10, 11, 12).
-/
namespace Go.Proofs.YtihdablgnmkjnaaGreatDoor
open Go.RowKit

set_option maxRecDepth 20000 in
set_option maxHeartbeats 2000000 in
theorem tchI_8 (b b2 : Nat) (co cap sent got : Int) (cl : Bool) (gr o wi l sz f t : Int) (w : World) (hb : w.cell? ⟨b, 2, none⟩ = some (.map (some b2))) (hc : cap ≠ 0) (hs : 0 ≤ got ∧ 0 ≤ sent ∧ got ≤ 1000000 ∧ sent ≤ 1000000 ∧ 0 ≤ cap ∧ cap ≤ 8)
    (hL : ∀ u, Fr w u → (Instr.lookup 133 (.map (some b2)) (.int .i64 o) false).run Tryz.prog u = .ok (.agg #[.int .i64 co, .int .i64 cap, .int .i64 sent, .int .i64 got, .bool cl]) u) :
    Calls Tryz.prog 64 #[.pointer (some ⟨b, 0, none⟩), .agg #[.int .i64 8, .int .i64 gr, .int .i64 o, .int .i64 wi, .int .i64 l, .int .i64 sz, .int .i64 f, .int .i64 t]] w fun x w' => ∃ v, x = .returned v ∧ OwnG layT w' w.heap.size v [⟨3, o, got % cap, true, true⟩] ∧ Fr w w' := by
  have fW := Fr.alloc w (.cells #[.int .i64 8, .int .i64 gr, .int .i64 o, .int .i64 wi, .int .i64 l, .int .i64 sz, .int .i64 f, .int .i64 t] 31)
  have kE := EvAt.new w ⟨8, gr, o, wi, l, sz, f, t⟩ 31
  have hb := fW.cell hb
  simp only at kE
  go_enter Tryz.func64, Tryz.ntmps64
  go_wp2_with fail
  obtain ⟨W, hW⟩ : ∃ W, W = w.alloc (.cells #[.int .i64 8, .int .i64 gr, .int .i64 o, .int .i64 wi, .int .i64 l, .int .i64 sz, .int .i64 f, .int .i64 t] 31) := ⟨_, rfl⟩
  rw [← hW] at fW kE hb ⊢
  clear hW
  obtain ⟨c0, c1, c2, c3, c4, c5, c6, c7⟩ := kE
  simp only at c0 c2
  clear c1 c3 c4 c5 c6 c7
  have HL : Hid (∀ u, Fr w u → (Instr.lookup 133 (.map (some b2)) (.int .i64 o) false).run Tryz.prog u = .ok (.agg #[.int .i64 co, .int .i64 cap, .int .i64 sent, .int .i64 got, .bool cl]) u) := hL
  clear hL
  have l1 := HL.out _ (fW.trans (Fr.drew W))
  have l2 := HL.out _ ((fW.trans (Fr.alloc W (.cells #[.int .i64 0, .int .i64 0, .int .i64 0, .int .i64 0, .bool false] 87))).trans (Fr.drew _))
  go_region_held3 (fun u => u.cell? ⟨b, 2, none⟩ = some (.map (some b2)) ∧ u.cell? ⟨w.heap.size, 2, none⟩ = some (.int .i64 o)) (go_keep) (fail)
  all_goals (
    clear l1 l2 HL
    obtain ⟨V, hV⟩ : ∃ V, V = (W.alloc (.cells #[.int .i64 co, .int .i64 cap, .int .i64 sent, .int .i64 got, .bool cl] 87)).drew := ⟨_, rfl⟩
    have fA : Fr W V := by rw [hV]; exact (Fr.alloc _ _).trans (Fr.drew _)
    have fV : Fr w V := fW.trans fA
    have x0 := fA.cell c0
    have x2 := fA.cell c2
    have y1 : V.cell? ⟨W.heap.size, 1, none⟩ = some (.int .i64 cap) := by rw [hV]; simp [go_sem]
    have y2 : V.cell? ⟨W.heap.size, 2, none⟩ = some (.int .i64 sent) := by rw [hV]; simp [go_sem]
    have y3 : V.cell? ⟨W.heap.size, 3, none⟩ = some (.int .i64 got) := by rw [hV]; simp [go_sem]
    rw [← hV]
    have hbV : w.heap.size ≤ V.heap.size := fV.size
    have z1 : w.heap.size < V.heap.size := World.block_lt_of_cell? V _ x0
    have z2 : W.heap.size < V.heap.size := World.block_lt_of_cell? V _ y1
    have n1 : ¬ w.heap.size = V.heap.size := by omega
    have n2 : ¬ w.heap.size = V.heap.size + 1 := by omega
    have n3 : ¬ W.heap.size = V.heap.size := by omega
    have n4 : ¬ W.heap.size = V.heap.size + 1 := by omega
    clear hV fA c0 c2 hb
    obtain ⟨s1, s2, s3, s4, s5, s6⟩ := hs
    have hc1 : ¬ cap = 0 := hc
    go_upto_block 0 with fail
    refine wp_block ?_
    refine wp_nestC [(1, _), (2, _), (3, _), (4, _), (5, _), (6, _), (7, _), (8, _), (9, _), (10, _), (11, _), (12, _), (13, _), (14, _), (15, _), (16, _)] _ ?_
    refine wp_opaque (fun Q0 hQ0 => ?_)
    have HQ0 : Hid _ := hQ0
    clear hQ0
    go_wp2_with fail
    refine HQ0.out _ _ _ (postC_at [(1, _), (2, _), (3, _), (4, _)] (by rfl) ?_)
    clear HQ0
    refine wp_opaque (fun Q1 hQ1 => ?_)
    have HQ1 : Hid _ := hQ1
    clear hQ1
    go_wp2_with fail
    refine HQ1.out _ _ _ (postC_on ?_)
    clear HQ1
    refine wp_opaque (fun Q1 hQ1 => ?_)
    have HQ1 : Hid _ := hQ1
    clear hQ1
    go_wp2_with fail
    refine HQ1.out _ _ _ (postC_out _ (by rfl) (inBlock_same ?_))
    clear HQ1
    go_wp2_with (at_builtin; refine appGL layT _ rfl _ _ 49 _ 32 rfl Tryz.underlying49 Tryz.infoT rfl (by decide) w.heap.size (.slice (some ⟨V.heap.size + 1 + 1, 0, none⟩) 1 1) [⟨3, o, got % cap, true, true⟩] [] rfl (ownG_litK layT _ [⟨3, o, got % cap, true, true⟩] (by simp) _ rfl _ _ (by simp) (by omega)) ⟨V.heap.size + 1, 0, none⟩ 0 rfl (by simp) (by simp) (by simp; omega) ?_; intro v4 w4 hv4 hg4 hat4)
    go_ret
    refine ⟨v4, rfl, hv4, ?_⟩
    exact (((fV.trans (Fr.alloc _ _)).trans (Fr.alloc _ _)).trans (Fr.alloc _ _)).then hg4 (fun j hj => by simp only [Value.ownBlock, Option.some.injEq] at hj; omega))

set_option maxRecDepth 20000 in
set_option maxHeartbeats 2000000 in
theorem tchI_9 (b b2 : Nat) (co cap sent got : Int) (cl : Bool) (gr o wi l sz f t : Int) (w : World) (hb : w.cell? ⟨b, 2, none⟩ = some (.map (some b2)))
    (hL : ∀ u, Fr w u → (Instr.lookup 133 (.map (some b2)) (.int .i64 o) false).run Tryz.prog u = .ok (.agg #[.int .i64 co, .int .i64 cap, .int .i64 sent, .int .i64 got, .bool cl]) u) :
    Calls Tryz.prog 64 #[.pointer (some ⟨b, 0, none⟩), .agg #[.int .i64 9, .int .i64 gr, .int .i64 o, .int .i64 wi, .int .i64 l, .int .i64 sz, .int .i64 f, .int .i64 t]] w fun x w' => ∃ v, x = .returned v ∧ OwnG layT w' w.heap.size v [] ∧ Fr w w' := by
  have fW := Fr.alloc w (.cells #[.int .i64 9, .int .i64 gr, .int .i64 o, .int .i64 wi, .int .i64 l, .int .i64 sz, .int .i64 f, .int .i64 t] 31)
  have kE := EvAt.new w ⟨9, gr, o, wi, l, sz, f, t⟩ 31
  have hb := fW.cell hb
  simp only at kE
  go_enter Tryz.func64, Tryz.ntmps64
  go_wp2_with fail
  obtain ⟨W, hW⟩ : ∃ W, W = w.alloc (.cells #[.int .i64 9, .int .i64 gr, .int .i64 o, .int .i64 wi, .int .i64 l, .int .i64 sz, .int .i64 f, .int .i64 t] 31) := ⟨_, rfl⟩
  rw [← hW] at fW kE hb ⊢
  clear hW
  obtain ⟨c0, c1, c2, c3, c4, c5, c6, c7⟩ := kE
  simp only at c0 c2
  clear c1 c3 c4 c5 c6 c7
  have HL : Hid (∀ u, Fr w u → (Instr.lookup 133 (.map (some b2)) (.int .i64 o) false).run Tryz.prog u = .ok (.agg #[.int .i64 co, .int .i64 cap, .int .i64 sent, .int .i64 got, .bool cl]) u) := hL
  clear hL
  have l1 := HL.out _ (fW.trans (Fr.drew W))
  have l2 := HL.out _ ((fW.trans (Fr.alloc W (.cells #[.int .i64 0, .int .i64 0, .int .i64 0, .int .i64 0, .bool false] 87))).trans (Fr.drew _))
  go_region_held3 (fun u => u.cell? ⟨b, 2, none⟩ = some (.map (some b2)) ∧ u.cell? ⟨w.heap.size, 2, none⟩ = some (.int .i64 o)) (go_keep) (fail)
  all_goals (
    clear l1 l2 HL
    obtain ⟨V, hV⟩ : ∃ V, V = (W.alloc (.cells #[.int .i64 co, .int .i64 cap, .int .i64 sent, .int .i64 got, .bool cl] 87)).drew := ⟨_, rfl⟩
    have fA : Fr W V := by rw [hV]; exact (Fr.alloc _ _).trans (Fr.drew _)
    have fV : Fr w V := fW.trans fA
    have x0 := fA.cell c0
    have x2 := fA.cell c2
    have y1 : V.cell? ⟨W.heap.size, 1, none⟩ = some (.int .i64 cap) := by rw [hV]; simp [go_sem]
    have y2 : V.cell? ⟨W.heap.size, 2, none⟩ = some (.int .i64 sent) := by rw [hV]; simp [go_sem]
    have y3 : V.cell? ⟨W.heap.size, 3, none⟩ = some (.int .i64 got) := by rw [hV]; simp [go_sem]
    rw [← hV]
    have hbV : w.heap.size ≤ V.heap.size := fV.size
    have z1 : w.heap.size < V.heap.size := World.block_lt_of_cell? V _ x0
    have z2 : W.heap.size < V.heap.size := World.block_lt_of_cell? V _ y1
    have n1 : ¬ w.heap.size = V.heap.size := by omega
    have n2 : ¬ w.heap.size = V.heap.size + 1 := by omega
    have n3 : ¬ W.heap.size = V.heap.size := by omega
    have n4 : ¬ W.heap.size = V.heap.size + 1 := by omega
    clear hV fA c0 c2 hb
    go_upto_block 0 with fail
    refine wp_block ?_
    refine wp_nestC [(1, _), (2, _), (3, _), (4, _), (5, _), (6, _), (7, _), (8, _), (9, _), (10, _), (11, _), (12, _), (13, _), (14, _), (15, _), (16, _)] _ ?_
    refine wp_opaque (fun Q0 hQ0 => ?_)
    have HQ0 : Hid _ := hQ0
    clear hQ0
    go_wp2_with fail
    refine HQ0.out _ _ _ (postC_at [(1, _), (2, _), (3, _), (4, _), (5, _), (6, _), (7, _), (8, _), (9, _), (10, _), (11, _), (12, _), (13, _), (14, _), (15, _)] (by rfl) ?_)
    clear HQ0
    refine wp_opaque (fun Q1 hQ1 => ?_)
    have HQ1 : Hid _ := hQ1
    clear hQ1
    go_wp2_with fail
    refine HQ1.out _ _ _ (postC_ret _ ?_)
    clear HQ1
    repeat (first | refine inBlock_ret ?_ | refine then_ret ?_)
    go_ret
    refine ⟨.slice (some ⟨V.heap.size + 1 + 1, 0, none⟩) 0 0, rfl, ?_, ?_⟩
    · exact ownG_litK layT _ [] (by simp) _ rfl _ _ (by simp) (by omega)
    · exact ((fV.trans (Fr.alloc _ _)).trans (Fr.alloc _ _)).trans (Fr.alloc _ _))

set_option maxRecDepth 20000 in
set_option maxHeartbeats 2000000 in
theorem tchI_10 (b b2 : Nat) (co cap sent got : Int) (cl : Bool) (gr o wi l sz f t : Int) (w : World) (hb : w.cell? ⟨b, 2, none⟩ = some (.map (some b2)))
    (hL : ∀ u, Fr w u → (Instr.lookup 133 (.map (some b2)) (.int .i64 o) false).run Tryz.prog u = .ok (.agg #[.int .i64 co, .int .i64 cap, .int .i64 sent, .int .i64 got, .bool cl]) u) :
    Calls Tryz.prog 64 #[.pointer (some ⟨b, 0, none⟩), .agg #[.int .i64 10, .int .i64 gr, .int .i64 o, .int .i64 wi, .int .i64 l, .int .i64 sz, .int .i64 f, .int .i64 t]] w fun x w' => ∃ v, x = .returned v ∧ OwnG layT w' w.heap.size v [⟨4, o, 0, false, true⟩] ∧ Fr w w' := by
  have fW := Fr.alloc w (.cells #[.int .i64 10, .int .i64 gr, .int .i64 o, .int .i64 wi, .int .i64 l, .int .i64 sz, .int .i64 f, .int .i64 t] 31)
  have kE := EvAt.new w ⟨10, gr, o, wi, l, sz, f, t⟩ 31
  have hb := fW.cell hb
  simp only at kE
  go_enter Tryz.func64, Tryz.ntmps64
  go_wp2_with fail
  obtain ⟨W, hW⟩ : ∃ W, W = w.alloc (.cells #[.int .i64 10, .int .i64 gr, .int .i64 o, .int .i64 wi, .int .i64 l, .int .i64 sz, .int .i64 f, .int .i64 t] 31) := ⟨_, rfl⟩
  rw [← hW] at fW kE hb ⊢
  clear hW
  obtain ⟨c0, c1, c2, c3, c4, c5, c6, c7⟩ := kE
  simp only at c0 c2
  clear c1 c3 c4 c5 c6 c7
  have HL : Hid (∀ u, Fr w u → (Instr.lookup 133 (.map (some b2)) (.int .i64 o) false).run Tryz.prog u = .ok (.agg #[.int .i64 co, .int .i64 cap, .int .i64 sent, .int .i64 got, .bool cl]) u) := hL
  clear hL
  have l1 := HL.out _ (fW.trans (Fr.drew W))
  have l2 := HL.out _ ((fW.trans (Fr.alloc W (.cells #[.int .i64 0, .int .i64 0, .int .i64 0, .int .i64 0, .bool false] 87))).trans (Fr.drew _))
  go_region_held3 (fun u => u.cell? ⟨b, 2, none⟩ = some (.map (some b2)) ∧ u.cell? ⟨w.heap.size, 2, none⟩ = some (.int .i64 o)) (go_keep) (fail)
  all_goals (
    clear l1 l2 HL
    obtain ⟨V, hV⟩ : ∃ V, V = (W.alloc (.cells #[.int .i64 co, .int .i64 cap, .int .i64 sent, .int .i64 got, .bool cl] 87)).drew := ⟨_, rfl⟩
    have fA : Fr W V := by rw [hV]; exact (Fr.alloc _ _).trans (Fr.drew _)
    have fV : Fr w V := fW.trans fA
    have x0 := fA.cell c0
    have x2 := fA.cell c2
    have y1 : V.cell? ⟨W.heap.size, 1, none⟩ = some (.int .i64 cap) := by rw [hV]; simp [go_sem]
    have y2 : V.cell? ⟨W.heap.size, 2, none⟩ = some (.int .i64 sent) := by rw [hV]; simp [go_sem]
    have y3 : V.cell? ⟨W.heap.size, 3, none⟩ = some (.int .i64 got) := by rw [hV]; simp [go_sem]
    rw [← hV]
    have hbV : w.heap.size ≤ V.heap.size := fV.size
    have z1 : w.heap.size < V.heap.size := World.block_lt_of_cell? V _ x0
    have z2 : W.heap.size < V.heap.size := World.block_lt_of_cell? V _ y1
    have n1 : ¬ w.heap.size = V.heap.size := by omega
    have n2 : ¬ w.heap.size = V.heap.size + 1 := by omega
    have n3 : ¬ W.heap.size = V.heap.size := by omega
    have n4 : ¬ W.heap.size = V.heap.size + 1 := by omega
    clear hV fA c0 c2 hb
    go_upto_block 0 with fail
    refine wp_block ?_
    refine wp_nestC [(1, _), (2, _), (3, _), (4, _), (5, _), (6, _), (7, _), (8, _), (9, _), (10, _), (11, _), (12, _), (13, _), (14, _), (15, _), (16, _)] _ ?_
    refine wp_opaque (fun Q0 hQ0 => ?_)
    have HQ0 : Hid _ := hQ0
    clear hQ0
    go_wp2_with fail
    refine HQ0.out _ _ _ (postC_at [(1, _), (2, _), (3, _), (4, _), (5, _), (6, _)] (by rfl) ?_)
    clear HQ0
    refine wp_opaque (fun Q1 hQ1 => ?_)
    have HQ1 : Hid _ := hQ1
    clear hQ1
    go_wp2_with fail
    refine HQ1.out _ _ _ (postC_out _ (by rfl) (inBlock_same ?_))
    clear HQ1
    go_wp2_with (at_builtin; refine appGL layT _ rfl _ _ 49 _ 32 rfl Tryz.underlying49 Tryz.infoT rfl (by decide) w.heap.size (.slice (some ⟨V.heap.size + 1 + 1, 0, none⟩) 1 1) [⟨4, o, 0, false, true⟩] [] rfl (ownG_litK layT _ [⟨4, o, 0, false, true⟩] (by simp) _ rfl _ _ (by simp) (by omega)) ⟨V.heap.size + 1, 0, none⟩ 0 rfl (by simp) (by simp) (by simp; omega) ?_; intro v4 w4 hv4 hg4 hat4)
    go_ret
    refine ⟨v4, rfl, hv4, ?_⟩
    exact (((fV.trans (Fr.alloc _ _)).trans (Fr.alloc _ _)).trans (Fr.alloc _ _)).then hg4 (fun j hj => by simp only [Value.ownBlock, Option.some.injEq] at hj; omega))

set_option maxRecDepth 20000 in
set_option maxHeartbeats 2000000 in
theorem tchI_11 (b b2 : Nat) (co cap sent got : Int) (cl : Bool) (gr o wi l sz f t : Int) (w : World) (hb : w.cell? ⟨b, 2, none⟩ = some (.map (some b2)))
    (hL : ∀ u, Fr w u → (Instr.lookup 133 (.map (some b2)) (.int .i64 o) false).run Tryz.prog u = .ok (.agg #[.int .i64 co, .int .i64 cap, .int .i64 sent, .int .i64 got, .bool cl]) u) :
    Calls Tryz.prog 64 #[.pointer (some ⟨b, 0, none⟩), .agg #[.int .i64 11, .int .i64 gr, .int .i64 o, .int .i64 wi, .int .i64 l, .int .i64 sz, .int .i64 f, .int .i64 t]] w fun x w' => ∃ v, x = .returned v ∧ OwnG layT w' w.heap.size v [⟨4, o, 0, true, false⟩] ∧ Fr w w' := by
  have fW := Fr.alloc w (.cells #[.int .i64 11, .int .i64 gr, .int .i64 o, .int .i64 wi, .int .i64 l, .int .i64 sz, .int .i64 f, .int .i64 t] 31)
  have kE := EvAt.new w ⟨11, gr, o, wi, l, sz, f, t⟩ 31
  have hb := fW.cell hb
  simp only at kE
  go_enter Tryz.func64, Tryz.ntmps64
  go_wp2_with fail
  obtain ⟨W, hW⟩ : ∃ W, W = w.alloc (.cells #[.int .i64 11, .int .i64 gr, .int .i64 o, .int .i64 wi, .int .i64 l, .int .i64 sz, .int .i64 f, .int .i64 t] 31) := ⟨_, rfl⟩
  rw [← hW] at fW kE hb ⊢
  clear hW
  obtain ⟨c0, c1, c2, c3, c4, c5, c6, c7⟩ := kE
  simp only at c0 c2
  clear c1 c3 c4 c5 c6 c7
  have HL : Hid (∀ u, Fr w u → (Instr.lookup 133 (.map (some b2)) (.int .i64 o) false).run Tryz.prog u = .ok (.agg #[.int .i64 co, .int .i64 cap, .int .i64 sent, .int .i64 got, .bool cl]) u) := hL
  clear hL
  have l1 := HL.out _ (fW.trans (Fr.drew W))
  have l2 := HL.out _ ((fW.trans (Fr.alloc W (.cells #[.int .i64 0, .int .i64 0, .int .i64 0, .int .i64 0, .bool false] 87))).trans (Fr.drew _))
  go_region_held3 (fun u => u.cell? ⟨b, 2, none⟩ = some (.map (some b2)) ∧ u.cell? ⟨w.heap.size, 2, none⟩ = some (.int .i64 o)) (go_keep) (fail)
  all_goals (
    clear l1 l2 HL
    obtain ⟨V, hV⟩ : ∃ V, V = (W.alloc (.cells #[.int .i64 co, .int .i64 cap, .int .i64 sent, .int .i64 got, .bool cl] 87)).drew := ⟨_, rfl⟩
    have fA : Fr W V := by rw [hV]; exact (Fr.alloc _ _).trans (Fr.drew _)
    have fV : Fr w V := fW.trans fA
    have x0 := fA.cell c0
    have x2 := fA.cell c2
    have y1 : V.cell? ⟨W.heap.size, 1, none⟩ = some (.int .i64 cap) := by rw [hV]; simp [go_sem]
    have y2 : V.cell? ⟨W.heap.size, 2, none⟩ = some (.int .i64 sent) := by rw [hV]; simp [go_sem]
    have y3 : V.cell? ⟨W.heap.size, 3, none⟩ = some (.int .i64 got) := by rw [hV]; simp [go_sem]
    rw [← hV]
    have hbV : w.heap.size ≤ V.heap.size := fV.size
    have z1 : w.heap.size < V.heap.size := World.block_lt_of_cell? V _ x0
    have z2 : W.heap.size < V.heap.size := World.block_lt_of_cell? V _ y1
    have n1 : ¬ w.heap.size = V.heap.size := by omega
    have n2 : ¬ w.heap.size = V.heap.size + 1 := by omega
    have n3 : ¬ W.heap.size = V.heap.size := by omega
    have n4 : ¬ W.heap.size = V.heap.size + 1 := by omega
    clear hV fA c0 c2 hb
    go_upto_block 0 with fail
    refine wp_block ?_
    refine wp_nestC [(1, _), (2, _), (3, _), (4, _), (5, _), (6, _), (7, _), (8, _), (9, _), (10, _), (11, _), (12, _), (13, _), (14, _), (15, _), (16, _)] _ ?_
    refine wp_opaque (fun Q0 hQ0 => ?_)
    have HQ0 : Hid _ := hQ0
    clear hQ0
    go_wp2_with fail
    refine HQ0.out _ _ _ (postC_at [(1, _), (2, _), (3, _), (4, _), (5, _), (6, _), (7, _)] (by rfl) ?_)
    clear HQ0
    refine wp_opaque (fun Q1 hQ1 => ?_)
    have HQ1 : Hid _ := hQ1
    clear hQ1
    go_wp2_with fail
    refine HQ1.out _ _ _ (postC_out _ (by rfl) (inBlock_same ?_))
    clear HQ1
    go_wp2_with (at_builtin; refine appGL layT _ rfl _ _ 49 _ 32 rfl Tryz.underlying49 Tryz.infoT rfl (by decide) w.heap.size (.slice (some ⟨V.heap.size + 1 + 1, 0, none⟩) 1 1) [⟨4, o, 0, true, false⟩] [] rfl (ownG_litK layT _ [⟨4, o, 0, true, false⟩] (by simp) _ rfl _ _ (by simp) (by omega)) ⟨V.heap.size + 1, 0, none⟩ 0 rfl (by simp) (by simp) (by simp; omega) ?_; intro v4 w4 hv4 hg4 hat4)
    go_ret
    refine ⟨v4, rfl, hv4, ?_⟩
    exact (((fV.trans (Fr.alloc _ _)).trans (Fr.alloc _ _)).trans (Fr.alloc _ _)).then hg4 (fun j hj => by simp only [Value.ownBlock, Option.some.injEq] at hj; omega))

set_option maxRecDepth 20000 in
set_option maxHeartbeats 2000000 in
theorem tchI_12 (b b2 : Nat) (co cap sent got : Int) (cl : Bool) (gr o wi l sz f t : Int) (w : World) (hb : w.cell? ⟨b, 2, none⟩ = some (.map (some b2)))
    (hL : ∀ u, Fr w u → (Instr.lookup 133 (.map (some b2)) (.int .i64 o) false).run Tryz.prog u = .ok (.agg #[.int .i64 co, .int .i64 cap, .int .i64 sent, .int .i64 got, .bool cl]) u) :
    Calls Tryz.prog 64 #[.pointer (some ⟨b, 0, none⟩), .agg #[.int .i64 12, .int .i64 gr, .int .i64 o, .int .i64 wi, .int .i64 l, .int .i64 sz, .int .i64 f, .int .i64 t]] w fun x w' => ∃ v, x = .returned v ∧ OwnG layT w' w.heap.size v [] ∧ Fr w w' := by
  have fW := Fr.alloc w (.cells #[.int .i64 12, .int .i64 gr, .int .i64 o, .int .i64 wi, .int .i64 l, .int .i64 sz, .int .i64 f, .int .i64 t] 31)
  have kE := EvAt.new w ⟨12, gr, o, wi, l, sz, f, t⟩ 31
  have hb := fW.cell hb
  simp only at kE
  go_enter Tryz.func64, Tryz.ntmps64
  go_wp2_with fail
  obtain ⟨W, hW⟩ : ∃ W, W = w.alloc (.cells #[.int .i64 12, .int .i64 gr, .int .i64 o, .int .i64 wi, .int .i64 l, .int .i64 sz, .int .i64 f, .int .i64 t] 31) := ⟨_, rfl⟩
  rw [← hW] at fW kE hb ⊢
  clear hW
  obtain ⟨c0, c1, c2, c3, c4, c5, c6, c7⟩ := kE
  simp only at c0 c2
  clear c1 c3 c4 c5 c6 c7
  have HL : Hid (∀ u, Fr w u → (Instr.lookup 133 (.map (some b2)) (.int .i64 o) false).run Tryz.prog u = .ok (.agg #[.int .i64 co, .int .i64 cap, .int .i64 sent, .int .i64 got, .bool cl]) u) := hL
  clear hL
  have l1 := HL.out _ (fW.trans (Fr.drew W))
  have l2 := HL.out _ ((fW.trans (Fr.alloc W (.cells #[.int .i64 0, .int .i64 0, .int .i64 0, .int .i64 0, .bool false] 87))).trans (Fr.drew _))
  go_region_held3 (fun u => u.cell? ⟨b, 2, none⟩ = some (.map (some b2)) ∧ u.cell? ⟨w.heap.size, 2, none⟩ = some (.int .i64 o)) (go_keep) (fail)
  all_goals (
    clear l1 l2 HL
    obtain ⟨V, hV⟩ : ∃ V, V = (W.alloc (.cells #[.int .i64 co, .int .i64 cap, .int .i64 sent, .int .i64 got, .bool cl] 87)).drew := ⟨_, rfl⟩
    have fA : Fr W V := by rw [hV]; exact (Fr.alloc _ _).trans (Fr.drew _)
    have fV : Fr w V := fW.trans fA
    have x0 := fA.cell c0
    have x2 := fA.cell c2
    have y1 : V.cell? ⟨W.heap.size, 1, none⟩ = some (.int .i64 cap) := by rw [hV]; simp [go_sem]
    have y2 : V.cell? ⟨W.heap.size, 2, none⟩ = some (.int .i64 sent) := by rw [hV]; simp [go_sem]
    have y3 : V.cell? ⟨W.heap.size, 3, none⟩ = some (.int .i64 got) := by rw [hV]; simp [go_sem]
    rw [← hV]
    have hbV : w.heap.size ≤ V.heap.size := fV.size
    have z1 : w.heap.size < V.heap.size := World.block_lt_of_cell? V _ x0
    have z2 : W.heap.size < V.heap.size := World.block_lt_of_cell? V _ y1
    have n1 : ¬ w.heap.size = V.heap.size := by omega
    have n2 : ¬ w.heap.size = V.heap.size + 1 := by omega
    have n3 : ¬ W.heap.size = V.heap.size := by omega
    have n4 : ¬ W.heap.size = V.heap.size + 1 := by omega
    clear hV fA c0 c2 hb
    go_upto_block 0 with fail
    refine wp_block ?_
    refine wp_nestC [(1, _), (2, _), (3, _), (4, _), (5, _), (6, _), (7, _), (8, _), (9, _), (10, _), (11, _), (12, _), (13, _), (14, _), (15, _), (16, _)] _ ?_
    refine wp_opaque (fun Q0 hQ0 => ?_)
    have HQ0 : Hid _ := hQ0
    clear hQ0
    go_wp2_with fail
    refine HQ0.out _ _ _ (postC_at [(1, _), (2, _), (3, _), (4, _), (5, _), (6, _), (7, _), (8, _), (9, _), (10, _), (11, _), (12, _), (13, _), (14, _), (15, _)] (by rfl) ?_)
    clear HQ0
    refine wp_opaque (fun Q1 hQ1 => ?_)
    have HQ1 : Hid _ := hQ1
    clear hQ1
    go_wp2_with fail
    refine HQ1.out _ _ _ (postC_ret _ ?_)
    clear HQ1
    repeat (first | refine inBlock_ret ?_ | refine then_ret ?_)
    go_ret
    refine ⟨.slice (some ⟨V.heap.size + 1 + 1, 0, none⟩) 0 0, rfl, ?_, ?_⟩
    · exact ownG_litK layT _ [] (by simp) _ rfl _ _ (by simp) (by omega)
    · exact ((fV.trans (Fr.alloc _ _)).trans (Fr.alloc _ _)).trans (Fr.alloc _ _))
end Go.Proofs.YtihdablgnmkjnaaGreatDoor
