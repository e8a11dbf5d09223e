/-
  Pack AH: Switch, TchI, TchIe, ScAsk2, ScAsk3, ScAsk6.
-/
import Derived.Test.YtcofhmikdkkigaaGreatDoorPrAA
import Derived.Test.YtcofhmikdkkigaaGreatDoorPrAD
import Derived.Test.YtcofhmikdkkigaaGreatDoorPrAG
import Derived.Deep.CutBlock
import Derived.Test.YtcofhmikdkkigaaGreatDoorPrAE
namespace Go.Proofs.YtcofhmikdkkigaaGreatDoor
open Go.RowKit

def nestC : List (Nat × Code) → Code → Code
  | [], c => c
  | (n, t) :: r, c => nestC r ((Code.block n c).seq t)
def postC (P : Program) (Q : Exit → Act → World → Prop) : List (Nat × Code) → Exit → Act → World → Prop
  | [] => Q
  | (n, t) :: r => Exit.inBlock n (Exit.then (t.wp P (postC P Q r)) (postC P Q r))
theorem wp_nestC {P : Program} {Q : Exit → Act → World → Prop} {a : Act} {w : World} : ∀ (L : List (Nat × Code)) (c : Code), c.wp P (postC P Q L) a w → (nestC L c).wp P Q a w
  | [], _, h => h
  | (_, _) :: r, _, h => wp_nestC r _ (wp_seq (wp_block h))
theorem wp_opaque {P : Program} {c : Code} {Q : Exit → Act → World → Prop} {a : Act} {w : World} (h : ∀ Q0 : Exit → Act → World → Prop, (∀ e a w, Q e a w → Q0 e a w) → c.wp P Q0 a w) : c.wp P Q a w := h Q fun _ _ _ h => h
theorem postC_at {P : Program} {Q : Exit → Act → World → Prop} {a : Act} {w : World} {m : Nat} {t : Code} {r : List (Nat × Code)} : ∀ (L : List (Nat × Code)), (L.all fun x => x.1 != m) = true → t.wp P (postC P Q r) a w → postC P Q (L ++ (m, t) :: r) (.exit m) a w
  | [], _, h => by
    show Exit.inBlock m (Exit.then (t.wp P (postC P Q r)) (postC P Q r)) (.exit m) a w
    simpa [Exit.inBlock, Exit.then] using h
  | (n, c) :: L, hL, h => by
    simp only [List.all_cons, Bool.and_eq_true, bne_iff_ne, ne_eq] at hL
    have ih := postC_at (P := P) (Q := Q) (a := a) (w := w) (m := m) (t := t) (r := r) L hL.2 h
    show Exit.inBlock n (Exit.then (c.wp P (postC P Q (L ++ (m, t) :: r))) (postC P Q (L ++ (m, t) :: r))) (.exit m) a w
    have hne : ¬ m = n := fun q => hL.1 q.symm
    simpa [Exit.inBlock, Exit.then, hne] using ih
theorem postC_out {P : Program} {Q : Exit → Act → World → Prop} {a : Act} {w : World} {m : Nat} : ∀ (L : List (Nat × Code)), (L.all fun x => x.1 != m) = true → Q (.exit m) a w → postC P Q L (.exit m) a w
  | [], _, h => h
  | (n, c) :: L, hL, h => by
    simp only [List.all_cons, Bool.and_eq_true, bne_iff_ne, ne_eq] at hL
    have ih := postC_out (P := P) (Q := Q) (a := a) (w := w) (m := m) L hL.2 h
    show Exit.inBlock n (Exit.then (c.wp P (postC P Q L)) (postC P Q L)) (.exit m) a w
    have hne : ¬ m = n := fun q => hL.1 q.symm
    simpa [Exit.inBlock, Exit.then, hne] using ih
theorem postC_ret {P : Program} {Q : Exit → Act → World → Prop} {a : Act} {w : World} : ∀ (L : List (Nat × Code)), Q .ret a w → postC P Q L .ret a w
  | [], h => h
  | (_, _) :: L, h => postC_ret (P := P) L h
theorem postC_on {P : Program} {Q : Exit → Act → World → Prop} {a : Act} {w : World} {n : Nat} {t : Code} {r : List (Nat × Code)} (h : t.wp P (postC P Q r) a w) : postC P Q ((n, t) :: r) .normal a w := h
theorem inBlock_same {Q : Exit → Act → World → Prop} {a : Act} {w : World} {n : Nat} (h : Q .normal a w) : Exit.inBlock n Q (.exit n) a w := by
  simpa [Exit.inBlock] using h
theorem inBlock_ret {Q : Exit → Act → World → Prop} {a : Act} {w : World} {n : Nat} (h : Q .ret a w) : Exit.inBlock n Q .ret a w := h
theorem then_ret {K : Act → World → Prop} {Q : Exit → Act → World → Prop} {a : Act} {w : World} (h : Q .ret a w) : Exit.then K Q .ret a w := h
end Go.Proofs.YtcofhmikdkkigaaGreatDoor
namespace Go.Proofs.YtcofhmikdkkigaaGreatDoor
open Go.RowKit

theorem Tryz.infoT : (Tryz.prog.info? 226).map (fun i => (i.zero, i.size, i.bytes)) = some (some (.agg #[.int .i64 0, .int .i64 0, .int .i64 0, .bool false, .bool false]), 5, 32) := by kernel_rfl
def TchJ (w : World) (b : Nat) (c : Tch) : Prop := w.heap[b]? = some (.cells #[.int .i64 c.sp, .int .i64 c.ob, .int .i64 c.sl, .bool c.tk, .bool c.gv] 226 (0, 0))
theorem TchJ.lt {w : World} {b : Nat} {c : Tch} (h : TchJ w b c) : b < w.heap.size := (Array.getElem?_eq_some_iff.1 h).1
theorem TchJ.keep {w w' : World} {b : Nat} {c : Tch} {row : Option Nat} (h : TchJ w b c) (k : w.grownBy w' row) (hr : some b ≠ row) : TchJ w' b c := (k.block b h.lt hr).trans h
theorem TchJ.free {w : World} {b : Nat} {c : Tch} (h : TchJ w b c) (i : Nat) : w.frozen? ⟨b, i, none⟩ = false := frozen_of_row w b i _ _ h
theorem TchJ.at {w : World} {b : Nat} {c : Tch} (h : TchJ w b c) : w.cell? ⟨b, 0, none⟩ = some (.int .i64 c.sp) ∧ w.cell? ⟨b, 1, none⟩ = some (.int .i64 c.ob) ∧ w.cell? ⟨b, 2, none⟩ = some (.int .i64 c.sl) ∧ w.cell? ⟨b, 3, none⟩ = some (.bool c.tk) ∧ w.cell? ⟨b, 4, none⟩ = some (.bool c.gv) :=
  ⟨cell_of_row w b 0 _ _ _ h, cell_of_row w b 1 _ _ _ h, cell_of_row w b 2 _ _ _ h, cell_of_row w b 3 _ _ _ h, cell_of_row w b 4 _ _ _ h⟩
theorem litK_reads {α : Type} (L : Lay α) (w : World) (xs : List α) (hl : xs.length ≤ 1000) (o : Obj) (ho : o = .cells (xs.flatMap L.cs).toArray L.ty (0, 0)) (k : Nat) (hk : w.heap.size = k) : ReadsG L (w.alloc o) (some ⟨k, 0, none⟩) xs := by
  obtain ⟨g, c, e, h1, h2⟩ := ownG_litK L w xs hl o ho k 0 hk (Nat.zero_le _)
  simp only [Value.slice.injEq, Option.some.injEq, Addr.mk.injEq, and_true, true_and] at e
  obtain ⟨rfl, -⟩ := e
  exact own_readsG h1 h2
end Go.Proofs.YtcofhmikdkkigaaGreatDoor
namespace Go.Proofs.YtcofhmikdkkigaaGreatDoor
open Go.RowKit

set_option maxRecDepth 20000 in
set_option maxHeartbeats 2000000 in
theorem tchI_2 (b b2 : Nat) (co cap sent got : Int) (cl : Bool) (gr o wi l sz f t : Int) (w : World) (hb : w.cell? ⟨b, 2, none⟩ = some (.map (some b2)))
    (hL : ∀ u, Fr w u → (Instr.lookup 132 (.map (some b2)) (.int .i64 o) false).run Tryz.prog u = .ok (.agg #[.int .i64 co, .int .i64 cap, .int .i64 sent, .int .i64 got, .bool cl]) u) :
    Calls Tryz.prog 194 #[.pointer (some ⟨b, 0, none⟩), .agg #[.int .i64 2, .int .i64 gr, .int .i64 o, .int .i64 wi, .int .i64 l, .int .i64 sz, .int .i64 f, .int .i64 t]] w fun x w' => ∃ v, x = .returned v ∧ OwnG layT w' w.heap.size v [⟨1, o, 0, true, false⟩, ⟨2, o, 0, true, false⟩] ∧ Fr w w' := by
  have fW := Fr.alloc w (.cells #[.int .i64 2, .int .i64 gr, .int .i64 o, .int .i64 wi, .int .i64 l, .int .i64 sz, .int .i64 f, .int .i64 t] 31)
  have kE := EvAt.new w ⟨2, gr, o, wi, l, sz, f, t⟩ 31
  have hb := fW.cell hb
  simp only at kE
  go_enter Tryz.func194, Tryz.ntmps194
  go_wp2_with fail
  obtain ⟨W, hW⟩ : ∃ W, W = w.alloc (.cells #[.int .i64 2, .int .i64 gr, .int .i64 o, .int .i64 wi, .int .i64 l, .int .i64 sz, .int .i64 f, .int .i64 t] 31) := ⟨_, rfl⟩
  rw [← hW] at fW kE hb ⊢
  clear hW
  obtain ⟨c0, c1, c2, c3, c4, c5, c6, c7⟩ := kE
  simp only at c0 c2
  clear c1 c3 c4 c5 c6 c7
  have HL : Hid (∀ u, Fr w u → (Instr.lookup 132 (.map (some b2)) (.int .i64 o) false).run Tryz.prog u = .ok (.agg #[.int .i64 co, .int .i64 cap, .int .i64 sent, .int .i64 got, .bool cl]) u) := hL
  clear hL
  have l1 := HL.out _ (fW.trans (Fr.drew W))
  have l2 := HL.out _ ((fW.trans (Fr.alloc W (.cells #[.int .i64 0, .int .i64 0, .int .i64 0, .int .i64 0, .bool false] 89))).trans (Fr.drew _))
  go_region_held3 (fun u => u.cell? ⟨b, 2, none⟩ = some (.map (some b2)) ∧ u.cell? ⟨w.heap.size, 2, none⟩ = some (.int .i64 o)) (go_keep) (fail)
  all_goals (
    clear l1 l2 HL
    obtain ⟨V, hV⟩ : ∃ V, V = (W.alloc (.cells #[.int .i64 co, .int .i64 cap, .int .i64 sent, .int .i64 got, .bool cl] 89)).drew := ⟨_, rfl⟩
    have fA : Fr W V := by rw [hV]; exact (Fr.alloc _ _).trans (Fr.drew _)
    have fV : Fr w V := fW.trans fA
    have x0 := fA.cell c0
    have x2 := fA.cell c2
    have y1 : V.cell? ⟨W.heap.size, 1, none⟩ = some (.int .i64 cap) := by rw [hV]; simp [go_sem]
    have y2 : V.cell? ⟨W.heap.size, 2, none⟩ = some (.int .i64 sent) := by rw [hV]; simp [go_sem]
    have y3 : V.cell? ⟨W.heap.size, 3, none⟩ = some (.int .i64 got) := by rw [hV]; simp [go_sem]
    rw [← hV]
    have hbV : w.heap.size ≤ V.heap.size := fV.size
    have z1 : w.heap.size < V.heap.size := World.block_lt_of_cell? V _ x0
    have z2 : W.heap.size < V.heap.size := World.block_lt_of_cell? V _ y1
    have n1 : ¬ w.heap.size = V.heap.size := by omega
    have n2 : ¬ w.heap.size = V.heap.size + 1 := by omega
    have n3 : ¬ W.heap.size = V.heap.size := by omega
    have n4 : ¬ W.heap.size = V.heap.size + 1 := by omega
    clear hV fA c0 c2 hb
    go_upto_block 0 with fail
    refine wp_block ?_
    refine wp_nestC [(1, _), (2, _), (3, _), (4, _), (5, _), (6, _), (7, _), (8, _), (9, _), (10, _), (11, _), (12, _), (13, _), (14, _), (15, _), (16, _)] _ ?_
    refine wp_opaque (fun Q0 hQ0 => ?_)
    have HQ0 : Hid _ := hQ0
    clear hQ0
    go_wp2_with fail
    refine HQ0.out _ _ _ (postC_at [] (by rfl) ?_)
    clear HQ0
    refine wp_opaque (fun Q1 hQ1 => ?_)
    have HQ1 : Hid _ := hQ1
    clear hQ1
    have HO : OwnG layT (((V.alloc (.cells #[.int .i64 0, .int .i64 o, .int .i64 0, .bool false, .bool false] 226)).alloc (.cells #[] 226)).alloc (.cells #[.int .i64 2, .int .i64 o, .int .i64 0, .bool true, .bool false] 226)) w.heap.size (.slice (some ⟨V.heap.size + 1, 0, none⟩) 0 0) [] := (ownG_litK layT _ [] (by simp) _ rfl _ _ (by simp) (by omega)).fr (Fr.alloc _ _)
    have HX := news_of_reads (litK_reads layT ((V.alloc (.cells #[.int .i64 0, .int .i64 o, .int .i64 0, .bool false, .bool false] 226)).alloc (.cells #[] 226)) [⟨2, o, 0, true, false⟩] (by simp) (.cells #[.int .i64 2, .int .i64 o, .int .i64 0, .bool true, .bool false] 226) rfl (V.heap.size + 1 + 1) (by simp))
    have HJ : TchJ (((V.alloc (.cells #[.int .i64 0, .int .i64 o, .int .i64 0, .bool false, .bool false] 226)).alloc (.cells #[] 226)).alloc (.cells #[.int .i64 2, .int .i64 o, .int .i64 0, .bool true, .bool false] 226)) V.heap.size ⟨0, o, 0, false, false⟩ := by
      have h1 := heap_alloc_new V (.cells #[.int .i64 0, .int .i64 o, .int .i64 0, .bool false, .bool false] 226)
      have h2 : TchJ (V.alloc (.cells #[.int .i64 0, .int .i64 o, .int .i64 0, .bool false, .bool false] 226)) V.heap.size ⟨0, o, 0, false, false⟩ := h1
      exact (h2.keep (Fr.alloc _ _) (by simp)).keep (Fr.alloc _ _) (by simp)
    have HO : Hid _ := HO
    have HX : Hid _ := HX
    have HJ : Hid _ := HJ
    go_wp2_with (at_builtin; refine appGL layT _ rfl _ _ 207 _ 32 rfl Tryz.underlying207 Tryz.infoT rfl (by decide) w.heap.size (.slice (some ⟨V.heap.size + 1, 0, none⟩) 0 0) [] [⟨2, o, 0, true, false⟩] rfl HO.out ⟨V.heap.size + 1 + 1, 0, none⟩ 1 rfl HX.out (by simp) (by simp; omega) ?_; intro v4 w4 hv4 hg4 hat4)
    refine HQ1.out _ _ _ (postC_on ?_)
    clear HQ1
    refine wp_opaque (fun Q1 hQ1 => ?_)
    have HQ1 : Hid _ := hQ1
    clear hQ1
    have HJ4 : TchJ w4 V.heap.size ⟨0, o, 0, false, false⟩ := TchJ.keep (c := ⟨0, o, 0, false, false⟩) HJ.out hg4 (by simp [Value.ownBlock])
    have hf4 : Fr w w4 := (((fV.trans (Fr.alloc _ _)).trans (Fr.alloc _ _)).trans (Fr.alloc _ _)).then hg4 (fun j hj => by simp only [Value.ownBlock, Option.some.injEq] at hj; omega)
    obtain ⟨g4, cap4, rfl, h4, l4⟩ := hv4
    have hgn : V.heap.size ≠ g4 := by
      simp only [Value.ownBlock, Option.some.injEq, World.size_alloc] at hat4
      omega
    have hs4 : w.heap.size ≤ w4.heap.size := hf4.size
    have HU : Hid (∀ a b, ReadsG layT ((w4.setCell ⟨V.heap.size, 0, none⟩ a).setCell ⟨V.heap.size, 3, none⟩ b) (some ⟨g4, 0, none⟩) [⟨2, o, 0, true, false⟩] ∧ Fr w ((w4.setCell ⟨V.heap.size, 0, none⟩ a).setCell ⟨V.heap.size, 3, none⟩ b)) := fun a b => ⟨((own_readsG h4 l4).keep (grown_set _ _ _ _) (.inr (fun q => hgn (by simpa [blk] using q.symm)))).keep (grown_set _ _ _ _) (.inr (fun q => hgn (by simpa [blk] using q.symm))), (hf4.then (grown_set _ _ _ _) (fun j hj => by simp only [Option.some.injEq] at hj; omega)).then (grown_set _ _ _ _) (fun j hj => by simp only [Option.some.injEq] at hj; omega)⟩
    obtain ⟨t0, t1, t2, t3, t4⟩ := TchJ.at HJ4
    simp only at t0 t1 t2 t3 t4
    have tf := fun i => TchJ.free HJ4 i
    clear HO HX HJ HJ4 hg4 hat4 h4 l4 x0 x2 y1 y2 y3
    go_wp2_with fail
    refine HQ1.out _ _ _ (postC_out _ (by rfl) (inBlock_same ?_))
    clear HQ1
    have HU := HU.out (.int .i64 1) (.bool true)
    have HU : Hid _ := HU
    go_wp2_with (at_builtin; refine appGL layT _ rfl _ _ 207 _ 32 rfl Tryz.underlying207 Tryz.infoT rfl (by decide) w.heap.size (.slice (some ⟨w4.heap.size, 0, none⟩) 1 1) [⟨1, o, 0, true, false⟩] [⟨2, o, 0, true, false⟩] rfl (ownG_litK layT _ [⟨1, o, 0, true, false⟩] (by simp) _ rfl _ _ (by simp) (by omega)) ⟨g4, 0, none⟩ cap4 rfl (news_of_reads (HU.out.1.fr (Fr.alloc _ _))) (by simp) (by simp; omega) ?_; intro v5 w5 hv5 hg5 hat5)
    go_ret
    refine ⟨v5, rfl, hv5, ?_⟩
    exact (HU.out.2.trans (Fr.alloc _ _)).then hg5 (fun j hj => by simp only [Value.ownBlock, Option.some.injEq] at hj; omega))
end Go.Proofs.YtcofhmikdkkigaaGreatDoor
namespace Go.Proofs.YtcofhmikdkkigaaGreatDoor
open Go.RowKit

def closedB (c : Ch) (e : Ev) : Bool := if e.k = 7 ∨ e.k = 9 ∨ e.k = 10 then c.cl else if e.k = 11 then !c.cl else false

set_option maxRecDepth 20000 in
set_option maxHeartbeats 1000000 in
theorem isWronglyClosed_any (b b2 : Nat) (c : Ch) (e : Ev) (w : World) (hb : w.cell? ⟨b, 2, none⟩ = some (.map (some b2)))
    (hL : ∀ u, Fr w u → (Instr.lookup 132 (.map (some b2)) (.int .i64 e.o) false).run Tryz.prog u = .ok (.agg #[.int .i64 c.o, .int .i64 c.cap, .int .i64 c.sent, .int .i64 c.got, .bool c.cl]) u) :
    Calls Tryz.prog 119 #[.pointer (some ⟨b, 0, none⟩), .agg #[.int .i64 e.k, .int .i64 e.g, .int .i64 e.o, .int .i64 e.w, .int .i64 e.l, .int .i64 e.s, .int .i64 e.f, .int .i64 e.t]] w fun x w' => x = .returned (.bool (closedB c e)) ∧ Fr w w' := by
  have fW := Fr.alloc w (.cells #[.int .i64 e.k, .int .i64 e.g, .int .i64 e.o, .int .i64 e.w, .int .i64 e.l, .int .i64 e.s, .int .i64 e.f, .int .i64 e.t] 31)
  have kE := EvAt.new w e 31
  have hb := fW.cell hb
  obtain ⟨R, hR⟩ : ∃ R, R = closedB c e := ⟨_, rfl⟩
  rw [← hR]
  have HR : Hid (R = closedB c e) := hR
  clear hR
  obtain ⟨k, gr, o, wi, l, sz, f, t⟩ := e
  obtain ⟨co, cap, sent, got, cl⟩ := c
  simp only at fW kE hb hL ⊢
  go_enter Tryz.func119, Tryz.ntmps119
  go_wp2_with fail
  obtain ⟨W, hW⟩ : ∃ W, W = w.alloc (.cells #[.int .i64 k, .int .i64 gr, .int .i64 o, .int .i64 wi, .int .i64 l, .int .i64 sz, .int .i64 f, .int .i64 t] 31) := ⟨_, rfl⟩
  rw [← hW] at fW kE hb ⊢
  clear hW
  obtain ⟨c0, c1, c2, c3, c4, c5, c6, c7⟩ := kE
  simp only at c0 c2
  clear c1 c3 c4 c5 c6 c7
  have HL : Hid (∀ u, Fr w u → (Instr.lookup 132 (.map (some b2)) (.int .i64 o) false).run Tryz.prog u = .ok (.agg #[.int .i64 co, .int .i64 cap, .int .i64 sent, .int .i64 got, .bool cl]) u) := hL
  clear hL
  have l1 := HL.out _ (fW.trans (Fr.drew W))
  have l2 := HL.out _ ((fW.trans (Fr.alloc W (.cells #[.int .i64 0, .int .i64 0, .int .i64 0, .int .i64 0, .bool false] 89))).trans (Fr.drew _))
  go_region_held3 (fun u => u.cell? ⟨b, 2, none⟩ = some (.map (some b2)) ∧ u.cell? ⟨w.heap.size, 2, none⟩ = some (.int .i64 o)) (go_keep) (fail)
  all_goals (
    clear l1 l2 HL
    obtain ⟨V, hV⟩ : ∃ V, V = (W.alloc (.cells #[.int .i64 co, .int .i64 cap, .int .i64 sent, .int .i64 got, .bool cl] 89)).drew := ⟨_, rfl⟩
    have fA : Fr W V := by rw [hV]; exact (Fr.alloc _ _).trans (Fr.drew _)
    have fV : Fr w V := fW.trans fA
    have x0 := fA.cell c0
    have y1 : V.cell? ⟨W.heap.size, 1, none⟩ = some (.int .i64 cap) := by rw [hV]; simp [go_sem]
    have y2 : V.cell? ⟨W.heap.size, 2, none⟩ = some (.int .i64 sent) := by rw [hV]; simp [go_sem]
    have y3 : V.cell? ⟨W.heap.size, 3, none⟩ = some (.int .i64 got) := by rw [hV]; simp [go_sem]
    have y4 : V.cell? ⟨W.heap.size, 4, none⟩ = some (.bool cl) := by rw [hV]; simp [go_sem]
    rw [← hV]
    clear hV fA c0 c2 hb
    rcases (show k = 7 ∨ k = 9 ∨ k = 10 ∨ k = 11 ∨ (k ≠ 7 ∧ k ≠ 9 ∧ k ≠ 10 ∧ k ≠ 11) by omega) with rfl | rfl | rfl | rfl | hk
    · have HN : Hid (R = cl) := by show R = cl; rw [HR.out]; simp [closedB]
      go_wp2_with fail
      go_ret
      exact ⟨ret_bool HN.out.symm, fV⟩
    · have HN : Hid (R = cl) := by show R = cl; rw [HR.out]; simp [closedB]
      go_wp2_with fail
      go_ret
      exact ⟨ret_bool HN.out.symm, fV⟩
    · have HN : Hid (R = cl) := by show R = cl; rw [HR.out]; simp [closedB]
      go_wp2_with fail
      go_ret
      exact ⟨ret_bool HN.out.symm, fV⟩
    · have HN : Hid (R = !cl) := by show R = !cl; rw [HR.out]; simp [closedB]
      go_wp2_with fail
      go_ret
      exact ⟨ret_bool HN.out.symm, fV⟩
    · obtain ⟨h7, h9, h10, h11⟩ := hk
      have HN : Hid (R = false) := by show R = false; rw [HR.out]; simp [closedB, h7, h9, h10, h11]
      go_wp2_with fail
      go_ret
      exact ⟨ret_bool HN.out.symm, fV⟩)
end Go.Proofs.YtcofhmikdkkigaaGreatDoor
namespace Go.Proofs.YtcofhmikdkkigaaGreatDoor
open Go.RowKit

def fullB (c : Ch) (e : Ev) : Bool := decide (e.k = 7) && decide (c.sent - c.got = c.cap)
def emptyB (c : Ch) (e : Ev) : Bool := if e.k = 8 then decide (c.sent = c.got) else if e.k = 11 then decide (c.sent ≠ c.got) else false

set_option maxRecDepth 20000 in
set_option maxHeartbeats 1000000 in
theorem isFull_any (b b2 : Nat) (c : Ch) (e : Ev) (w : World) (hb : w.cell? ⟨b, 2, none⟩ = some (.map (some b2)))
    (hs : 0 ≤ c.got ∧ c.got ≤ c.sent ∧ c.sent ≤ 1000000) (hL : ∀ u, Fr w u → (Instr.lookup 132 (.map (some b2)) (.int .i64 e.o) false).run Tryz.prog u = .ok (.agg #[.int .i64 c.o, .int .i64 c.cap, .int .i64 c.sent, .int .i64 c.got, .bool c.cl]) u) :
    Calls Tryz.prog 120 #[.pointer (some ⟨b, 0, none⟩), .agg #[.int .i64 e.k, .int .i64 e.g, .int .i64 e.o, .int .i64 e.w, .int .i64 e.l, .int .i64 e.s, .int .i64 e.f, .int .i64 e.t]] w fun x w' => x = .returned (.bool (fullB c e)) ∧ Fr w w' := by
  have fW := Fr.alloc w (.cells #[.int .i64 e.k, .int .i64 e.g, .int .i64 e.o, .int .i64 e.w, .int .i64 e.l, .int .i64 e.s, .int .i64 e.f, .int .i64 e.t] 31)
  have kE := EvAt.new w e 31
  have hb := fW.cell hb
  obtain ⟨R, hR⟩ : ∃ R, R = fullB c e := ⟨_, rfl⟩
  rw [← hR]
  have HR : Hid (R = fullB c e) := hR
  clear hR
  obtain ⟨k, gr, o, wi, l, sz, f, t⟩ := e
  obtain ⟨co, cap, sent, got, cl⟩ := c
  simp only at fW kE hb hL hs ⊢
  go_enter Tryz.func120, Tryz.ntmps120
  go_wp2_with fail
  obtain ⟨W, hW⟩ : ∃ W, W = w.alloc (.cells #[.int .i64 k, .int .i64 gr, .int .i64 o, .int .i64 wi, .int .i64 l, .int .i64 sz, .int .i64 f, .int .i64 t] 31) := ⟨_, rfl⟩
  rw [← hW] at fW kE hb ⊢
  clear hW
  obtain ⟨c0, c1, c2, c3, c4, c5, c6, c7⟩ := kE
  simp only at c0 c2
  clear c1 c3 c4 c5 c6 c7
  have HL : Hid (∀ u, Fr w u → (Instr.lookup 132 (.map (some b2)) (.int .i64 o) false).run Tryz.prog u = .ok (.agg #[.int .i64 co, .int .i64 cap, .int .i64 sent, .int .i64 got, .bool cl]) u) := hL
  clear hL
  have l1 := HL.out _ (fW.trans (Fr.drew W))
  have l2 := HL.out _ ((fW.trans (Fr.alloc W (.cells #[.int .i64 0, .int .i64 0, .int .i64 0, .int .i64 0, .bool false] 89))).trans (Fr.drew _))
  go_region_held3 (fun u => u.cell? ⟨b, 2, none⟩ = some (.map (some b2)) ∧ u.cell? ⟨w.heap.size, 2, none⟩ = some (.int .i64 o)) (go_keep) (fail)
  all_goals (
    clear l1 l2 HL
    obtain ⟨V, hV⟩ : ∃ V, V = (W.alloc (.cells #[.int .i64 co, .int .i64 cap, .int .i64 sent, .int .i64 got, .bool cl] 89)).drew := ⟨_, rfl⟩
    have fA : Fr W V := by rw [hV]; exact (Fr.alloc _ _).trans (Fr.drew _)
    have fV : Fr w V := fW.trans fA
    have x0 := fA.cell c0
    have y1 : V.cell? ⟨W.heap.size, 1, none⟩ = some (.int .i64 cap) := by rw [hV]; simp [go_sem]
    have y2 : V.cell? ⟨W.heap.size, 2, none⟩ = some (.int .i64 sent) := by rw [hV]; simp [go_sem]
    have y3 : V.cell? ⟨W.heap.size, 3, none⟩ = some (.int .i64 got) := by rw [hV]; simp [go_sem]
    have y4 : V.cell? ⟨W.heap.size, 4, none⟩ = some (.bool cl) := by rw [hV]; simp [go_sem]
    rw [← hV]
    clear hV fA c0 c2 hb
    obtain ⟨s1, s2, s3⟩ := hs
    by_cases hk : k = 7
    · subst hk
      by_cases h2 : sent - got = cap
      · have HN : Hid (R = true) := by show R = true; rw [HR.out]; simp [fullB, h2]
        subst h2
        go_wp2_with fail
        go_ret
        exact ⟨ret_bool HN.out.symm, fV⟩
      · have HN : Hid (R = false) := by show R = false; rw [HR.out]; simp [fullB, h2]
        go_wp2_with fail
        go_ret
        first | exact ⟨ret_bool HN.out.symm, fV⟩ | exact ⟨ret_bool ((show (sent - got == cap) = false by simpa using h2).trans HN.out.symm), fV⟩
    · have HN : Hid (R = false) := by show R = false; rw [HR.out]; simp [fullB, hk]
      go_wp2_with fail
      go_ret
      exact ⟨ret_bool HN.out.symm, fV⟩)

set_option maxRecDepth 20000 in
set_option maxHeartbeats 1000000 in
theorem isWronglyEmpty_any (b b2 : Nat) (c : Ch) (e : Ev) (w : World) (hb : w.cell? ⟨b, 2, none⟩ = some (.map (some b2)))
    (hL : ∀ u, Fr w u → (Instr.lookup 132 (.map (some b2)) (.int .i64 e.o) false).run Tryz.prog u = .ok (.agg #[.int .i64 c.o, .int .i64 c.cap, .int .i64 c.sent, .int .i64 c.got, .bool c.cl]) u) :
    Calls Tryz.prog 121 #[.pointer (some ⟨b, 0, none⟩), .agg #[.int .i64 e.k, .int .i64 e.g, .int .i64 e.o, .int .i64 e.w, .int .i64 e.l, .int .i64 e.s, .int .i64 e.f, .int .i64 e.t]] w fun x w' => x = .returned (.bool (emptyB c e)) ∧ Fr w w' := by
  have fW := Fr.alloc w (.cells #[.int .i64 e.k, .int .i64 e.g, .int .i64 e.o, .int .i64 e.w, .int .i64 e.l, .int .i64 e.s, .int .i64 e.f, .int .i64 e.t] 31)
  have kE := EvAt.new w e 31
  have hb := fW.cell hb
  obtain ⟨R, hR⟩ : ∃ R, R = emptyB c e := ⟨_, rfl⟩
  rw [← hR]
  have HR : Hid (R = emptyB c e) := hR
  clear hR
  obtain ⟨k, gr, o, wi, l, sz, f, t⟩ := e
  obtain ⟨co, cap, sent, got, cl⟩ := c
  simp only at fW kE hb hL ⊢
  go_enter Tryz.func121, Tryz.ntmps121
  go_wp2_with fail
  obtain ⟨W, hW⟩ : ∃ W, W = w.alloc (.cells #[.int .i64 k, .int .i64 gr, .int .i64 o, .int .i64 wi, .int .i64 l, .int .i64 sz, .int .i64 f, .int .i64 t] 31) := ⟨_, rfl⟩
  rw [← hW] at fW kE hb ⊢
  clear hW
  obtain ⟨c0, c1, c2, c3, c4, c5, c6, c7⟩ := kE
  simp only at c0 c2
  clear c1 c3 c4 c5 c6 c7
  have HL : Hid (∀ u, Fr w u → (Instr.lookup 132 (.map (some b2)) (.int .i64 o) false).run Tryz.prog u = .ok (.agg #[.int .i64 co, .int .i64 cap, .int .i64 sent, .int .i64 got, .bool cl]) u) := hL
  clear hL
  have l1 := HL.out _ (fW.trans (Fr.drew W))
  have l2 := HL.out _ ((fW.trans (Fr.alloc W (.cells #[.int .i64 0, .int .i64 0, .int .i64 0, .int .i64 0, .bool false] 89))).trans (Fr.drew _))
  go_region_held3 (fun u => u.cell? ⟨b, 2, none⟩ = some (.map (some b2)) ∧ u.cell? ⟨w.heap.size, 2, none⟩ = some (.int .i64 o)) (go_keep) (fail)
  all_goals (
    clear l1 l2 HL
    obtain ⟨V, hV⟩ : ∃ V, V = (W.alloc (.cells #[.int .i64 co, .int .i64 cap, .int .i64 sent, .int .i64 got, .bool cl] 89)).drew := ⟨_, rfl⟩
    have fA : Fr W V := by rw [hV]; exact (Fr.alloc _ _).trans (Fr.drew _)
    have fV : Fr w V := fW.trans fA
    have x0 := fA.cell c0
    have y1 : V.cell? ⟨W.heap.size, 1, none⟩ = some (.int .i64 cap) := by rw [hV]; simp [go_sem]
    have y2 : V.cell? ⟨W.heap.size, 2, none⟩ = some (.int .i64 sent) := by rw [hV]; simp [go_sem]
    have y3 : V.cell? ⟨W.heap.size, 3, none⟩ = some (.int .i64 got) := by rw [hV]; simp [go_sem]
    have y4 : V.cell? ⟨W.heap.size, 4, none⟩ = some (.bool cl) := by rw [hV]; simp [go_sem]
    rw [← hV]
    clear hV fA c0 c2 hb
    rcases (show k = 8 ∨ k = 11 ∨ (k ≠ 8 ∧ k ≠ 11) by omega) with rfl | rfl | hk
    · by_cases h2 : sent = got
      · have HN : Hid (R = true) := by show R = true; rw [HR.out]; simp [emptyB, h2]
        subst h2
        go_wp2_with fail
        go_ret
        exact ⟨ret_bool HN.out.symm, fV⟩
      · have HN : Hid (R = false) := by show R = false; rw [HR.out]; simp [emptyB, h2]
        go_wp2_with fail
        go_ret
        first | exact ⟨ret_bool HN.out.symm, fV⟩ | exact ⟨ret_bool ((show (sent == got) = false by simpa using h2).trans HN.out.symm), fV⟩
    · by_cases h2 : sent = got
      · have HN : Hid (R = false) := by show R = false; rw [HR.out]; simp [emptyB, h2]
        subst h2
        go_wp2_with fail
        go_ret
        exact ⟨ret_bool HN.out.symm, fV⟩
      · have HN : Hid (R = true) := by show R = true; rw [HR.out]; simp [emptyB, h2]
        go_wp2_with fail
        go_ret
        first | exact ⟨ret_bool HN.out.symm, fV⟩ | exact ⟨ret_bool ((show (sent != got) = true by simpa using h2).trans HN.out.symm), fV⟩
    · obtain ⟨h8, h11⟩ := hk
      have HN : Hid (R = false) := by show R = false; rw [HR.out]; simp [emptyB, h8, h11]
      go_wp2_with fail
      go_ret
      exact ⟨ret_bool HN.out.symm, fV⟩)
end Go.Proofs.YtcofhmikdkkigaaGreatDoor
namespace Go.Proofs.YtcofhmikdkkigaaGreatDoor
open Go.RowKit

def heldB (had : Bool) (wr : Int) (rd : List Int) (e : Ev) : Bool := if e.k = 2 then had else if e.k = 4 then had && (decide (wr ≠ -1) || memB rd e.g) else false
def notHadB (had : Bool) (wr : Int) (rd : List Int) (e : Ev) : Bool := if e.k = 3 then !had || decide (wr ≠ e.g) else if e.k = 5 then !memB rd e.g else false

set_option maxRecDepth 20000 in
set_option maxHeartbeats 1000000 in
theorem isHeld_any (b b1 : Nat) (had : Bool) (lo wr : Int) (ro : Option Addr) (rn rc : Nat) (rd : List Int) (e : Ev) (w : World) (hb : w.cell? ⟨b, 1, none⟩ = some (.map (some b1))) (hn : rd.length = rn) (hl : rd.length ≤ 1048576) (hr : Reads w ro rd)
    (hL : ∀ u, Fr w u → (Instr.lookup 129 (.map (some b1)) (.int .i64 e.o) true).run Tryz.prog u = .ok (.tuple #[.agg #[.int .i64 lo, .int .i64 wr, .slice ro rn rc], .bool had]) u) :
    Calls Tryz.prog 116 #[.pointer (some ⟨b, 0, none⟩), .agg #[.int .i64 e.k, .int .i64 e.g, .int .i64 e.o, .int .i64 e.w, .int .i64 e.l, .int .i64 e.s, .int .i64 e.f, .int .i64 e.t]] w fun x w' => x = .returned (.bool (heldB had wr rd e)) ∧ Fr w w' := by
  have fW := Fr.alloc w (.cells #[.int .i64 e.k, .int .i64 e.g, .int .i64 e.o, .int .i64 e.w, .int .i64 e.l, .int .i64 e.s, .int .i64 e.f, .int .i64 e.t] 31)
  have kE := EvAt.new w e 31
  have hb := fW.cell hb
  obtain ⟨R, hR⟩ : ∃ R, R = heldB had wr rd e := ⟨_, rfl⟩
  rw [← hR]
  have HR : Hid (R = heldB had wr rd e) := hR
  clear hR
  obtain ⟨k, gr, o, wi, l, sz, f, t⟩ := e
  simp only at fW kE hb hL HR ⊢
  have cI := fun u (f : Fr w u) => contains_any ro rn rc rd gr u hn hl (hr.fr f)
  obtain ⟨Q, hQ⟩ : ∃ Q, Q = memB rd gr := ⟨_, rfl⟩
  simp only [← hQ] at cI
  have HQ : Hid (memB rd gr = Q) := hQ.symm
  clear hQ hn hl hr
  go_enter Tryz.func116, Tryz.ntmps116
  go_wp2_with fail
  obtain ⟨W, hW⟩ : ∃ W, W = w.alloc (.cells #[.int .i64 k, .int .i64 gr, .int .i64 o, .int .i64 wi, .int .i64 l, .int .i64 sz, .int .i64 f, .int .i64 t] 31) := ⟨_, rfl⟩
  rw [← hW] at fW kE hb ⊢
  clear hW
  obtain ⟨c0, c1, c2, c3, c4, c5, c6, c7⟩ := kE
  simp only at c0 c1 c2
  clear c3 c4 c5 c6 c7
  have l1 := hL _ (fW.trans (Fr.drew W))
  have l2 := hL _ ((fW.trans (Fr.alloc W (.cells #[.int .i64 0, .int .i64 0, .slice none 0 0] 86))).trans (Fr.drew _))
  clear hL
  go_region_held3 (fun u => u.cell? ⟨b, 1, none⟩ = some (.map (some b1)) ∧ u.cell? ⟨w.heap.size, 2, none⟩ = some (.int .i64 o)) (go_keep) (fail)
  all_goals (
    clear l1 l2
    obtain ⟨V, hV⟩ : ∃ V, V = (W.alloc (.cells #[.int .i64 lo, .int .i64 wr, .slice ro rn rc] 86)).drew := ⟨_, rfl⟩
    have fA : Fr W V := by rw [hV]; exact (Fr.alloc _ _).trans (Fr.drew _)
    have fV : Fr w V := fW.trans fA
    have x0 := fA.cell c0
    have x1 := fA.cell c1
    have y1 : V.cell? ⟨W.heap.size, 1, none⟩ = some (.int .i64 wr) := by rw [hV]; simp [go_sem]
    have y2 : V.cell? ⟨W.heap.size, 2, none⟩ = some (.slice ro rn rc) := by rw [hV]; simp [go_sem]
    rw [← hV]
    clear hV fA c0 c1 c2 hb
    rcases (show k = 2 ∨ k = 4 ∨ (k ≠ 2 ∧ k ≠ 4) by omega) with rfl | rfl | hk
    · have HN : Hid (R = had) := by show R = had; rw [HR.out]; simp [heldB]
      go_wp2_with fail
      go_ret
      exact ⟨ret_bool HN.out.symm, fV⟩
    · cases had
      · have HN : Hid (R = false) := by show R = false; rw [HR.out]; simp [heldB]
        go_wp2_with fail
        go_ret
        exact ⟨ret_bool HN.out.symm, fV⟩
      · by_cases h2 : wr = -1
        · have HN : Hid (R = Q) := by show R = Q; rw [HR.out]; simp only [heldB, HQ.out]; simp [h2]
          subst h2
          go_wp2_with fail
          refine (cI V fV).mono ?_
          rintro e u ⟨rfl, rfl⟩
          go_wp2_with fail
          go_ret
          exact ⟨ret_bool HN.out.symm, fV⟩
        · have HN : Hid (R = true) := by show R = true; rw [HR.out]; simp [heldB, h2]
          have hq : (wr != -1) = true := by simpa using h2
          go_wp2_with fail
          go_ret
          exact ⟨ret_bool HN.out.symm, fV⟩
    · obtain ⟨h1, h2⟩ := hk
      have HN : Hid (R = false) := by show R = false; rw [HR.out]; simp [heldB, h1, h2]
      go_wp2_with fail
      go_ret
      exact ⟨ret_bool HN.out.symm, fV⟩)

set_option maxRecDepth 20000 in
set_option maxHeartbeats 1000000 in
theorem isNotHad_any (b b1 : Nat) (had : Bool) (lo wr : Int) (ro : Option Addr) (rn rc : Nat) (rd : List Int) (e : Ev) (w : World) (hb : w.cell? ⟨b, 1, none⟩ = some (.map (some b1))) (hn : rd.length = rn) (hl : rd.length ≤ 1048576) (hr : Reads w ro rd)
    (hL : ∀ u, Fr w u → (Instr.lookup 129 (.map (some b1)) (.int .i64 e.o) true).run Tryz.prog u = .ok (.tuple #[.agg #[.int .i64 lo, .int .i64 wr, .slice ro rn rc], .bool had]) u) :
    Calls Tryz.prog 117 #[.pointer (some ⟨b, 0, none⟩), .agg #[.int .i64 e.k, .int .i64 e.g, .int .i64 e.o, .int .i64 e.w, .int .i64 e.l, .int .i64 e.s, .int .i64 e.f, .int .i64 e.t]] w fun x w' => x = .returned (.bool (notHadB had wr rd e)) ∧ Fr w w' := by
  have fW := Fr.alloc w (.cells #[.int .i64 e.k, .int .i64 e.g, .int .i64 e.o, .int .i64 e.w, .int .i64 e.l, .int .i64 e.s, .int .i64 e.f, .int .i64 e.t] 31)
  have kE := EvAt.new w e 31
  have hb := fW.cell hb
  obtain ⟨R, hR⟩ : ∃ R, R = notHadB had wr rd e := ⟨_, rfl⟩
  rw [← hR]
  have HR : Hid (R = notHadB had wr rd e) := hR
  clear hR
  obtain ⟨k, gr, o, wi, l, sz, f, t⟩ := e
  simp only at fW kE hb hL HR ⊢
  have cI := fun u (f : Fr w u) => contains_any ro rn rc rd gr u hn hl (hr.fr f)
  obtain ⟨Q, hQ⟩ : ∃ Q, Q = memB rd gr := ⟨_, rfl⟩
  simp only [← hQ] at cI
  have HQ : Hid (memB rd gr = Q) := hQ.symm
  clear hQ hn hl hr
  go_enter Tryz.func117, Tryz.ntmps117
  go_wp2_with fail
  obtain ⟨W, hW⟩ : ∃ W, W = w.alloc (.cells #[.int .i64 k, .int .i64 gr, .int .i64 o, .int .i64 wi, .int .i64 l, .int .i64 sz, .int .i64 f, .int .i64 t] 31) := ⟨_, rfl⟩
  rw [← hW] at fW kE hb ⊢
  clear hW
  obtain ⟨c0, c1, c2, c3, c4, c5, c6, c7⟩ := kE
  simp only at c0 c1 c2
  clear c3 c4 c5 c6 c7
  have l1 := hL _ (fW.trans (Fr.drew W))
  have l2 := hL _ ((fW.trans (Fr.alloc W (.cells #[.int .i64 0, .int .i64 0, .slice none 0 0] 86))).trans (Fr.drew _))
  clear hL
  go_region_held3 (fun u => u.cell? ⟨b, 1, none⟩ = some (.map (some b1)) ∧ u.cell? ⟨w.heap.size, 2, none⟩ = some (.int .i64 o)) (go_keep) (fail)
  all_goals (
    clear l1 l2
    obtain ⟨V, hV⟩ : ∃ V, V = (W.alloc (.cells #[.int .i64 lo, .int .i64 wr, .slice ro rn rc] 86)).drew := ⟨_, rfl⟩
    have fA : Fr W V := by rw [hV]; exact (Fr.alloc _ _).trans (Fr.drew _)
    have fV : Fr w V := fW.trans fA
    have x0 := fA.cell c0
    have x1 := fA.cell c1
    have y1 : V.cell? ⟨W.heap.size, 1, none⟩ = some (.int .i64 wr) := by rw [hV]; simp [go_sem]
    have y2 : V.cell? ⟨W.heap.size, 2, none⟩ = some (.slice ro rn rc) := by rw [hV]; simp [go_sem]
    rw [← hV]
    clear hV fA c0 c1 c2 hb
    rcases (show k = 3 ∨ k = 5 ∨ (k ≠ 3 ∧ k ≠ 5) by omega) with rfl | rfl | hk
    · cases had
      · have HN : Hid (R = true) := by show R = true; rw [HR.out]; simp [notHadB]
        go_wp2_with fail
        go_ret
        exact ⟨ret_bool HN.out.symm, fV⟩
      · by_cases h2 : wr = gr
        · have HN : Hid (R = false) := by show R = false; rw [HR.out]; simp [notHadB, h2]
          subst h2
          go_wp2_with fail
          go_ret
          exact ⟨ret_bool HN.out.symm, fV⟩
        · have HN : Hid (R = true) := by show R = true; rw [HR.out]; simp [notHadB, h2]
          go_wp2_with fail
          go_ret
          first | exact ⟨ret_bool HN.out.symm, fV⟩ | exact ⟨ret_bool ((show (wr != gr) = true by simpa using h2).trans HN.out.symm), fV⟩
    · have HN : Hid (R = !Q) := by show R = !Q; rw [HR.out]; simp [notHadB, HQ.out]
      go_wp2_with fail
      refine (cI V fV).mono ?_
      rintro e u ⟨rfl, rfl⟩
      go_wp2_with fail
      go_ret
      exact ⟨ret_bool HN.out.symm, fV⟩
    · obtain ⟨h1, h2⟩ := hk
      have HN : Hid (R = false) := by show R = false; rw [HR.out]; simp [notHadB, h1, h2]
      go_wp2_with fail
      go_ret
      exact ⟨ret_bool HN.out.symm, fV⟩)
end Go.Proofs.YtcofhmikdkkigaaGreatDoor
