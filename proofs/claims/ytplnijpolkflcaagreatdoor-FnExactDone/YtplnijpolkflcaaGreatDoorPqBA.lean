/-
  Pack BA: Tch, TchCnt, Switch, TchI, TchIe, MapT, Pset2, DoorT.
-/
import Derived.Test.YtplnijpolkflcaaGreatDoorPqAI
import Derived.Test.YtplnijpolkflcaaGreatDoorPqAE
import Derived.Test.YtplnijpolkflcaaGreatDoorPqAA
import Derived.Test.YtplnijpolkflcaaGreatDoorPqAB
import Derived.Test.YtplnijpolkflcaaGreatDoorPqAJ
import Derived.Deep.CutBlock
import Derived.Test.YtplnijpolkflcaaGreatDoorPqAG
import Derived.Test.YtplnijpolkflcaaGreatDoorPqAZ
import Derived.DeepKeys4
namespace Go.Proofs.YtplnijpolkflcaaGreatDoor
open Go.RowKit

structure Tch where
  sp : Int
  ob : Int
  sl : Int
  tk : Bool
  gv : Bool
def layT : Lay Tch where
  ty := 225
  sz := 5
  cs l := [.int .i64 l.sp, .int .i64 l.ob, .int .i64 l.sl, .bool l.tk, .bool l.gv]
  pos := by omega
  len _ := rfl
  one x u hu := by
    simp only [List.mem_cons, List.not_mem_nil, or_false] at hu
    rcases hu with rfl | rfl | rfl | rfl | rfl <;> rfl
theorem tc_at {w : World} {ao : Option Addr} {cs : List Tch} (h : ReadsG layT w ao cs) (k : Nat) (hk : k < cs.length) : ∃ b off, ao = some ⟨b, off, none⟩ ∧ w.cell? ⟨b, off + k * 5, none⟩ = some (.int .i64 cs[k].sp) ∧ w.cell? ⟨b, off + k * 5 + 1, none⟩ = some (.int .i64 cs[k].ob) ∧ w.cell? ⟨b, off + k * 5 + 2, none⟩ = some (.int .i64 cs[k].sl) ∧ w.cell? ⟨b, off + k * 5 + 3, none⟩ = some (.bool cs[k].tk) ∧ w.cell? ⟨b, off + k * 5 + 4, none⟩ = some (.bool cs[k].gv) := by
  obtain ⟨b, off, e, hc⟩ := h.at_ k hk
  exact ⟨b, off, e, hc k hk 0 (by decide), hc k hk 1 (by decide), hc k hk 2 (by decide), hc k hk 3 (by decide), hc k hk 4 (by decide)⟩
end Go.Proofs.YtplnijpolkflcaaGreatDoor
namespace Go.Proofs.YtplnijpolkflcaaGreatDoor
open Go.RowKit

def cntK (k o : Int) (es : List Ev) : Nat := es.countP fun e => e.o == o && e.k == k
def capK (o : Int) (es : List Ev) : Int := es.foldl (fun r e => if e.o = o ∧ e.k = 6 then e.s else r) 1
theorem cntK_one (k o : Int) (es : List Ev) (e : Ev) : cntK k o (es ++ [e]) = cntK k o es + (if e.o = o ∧ e.k = k then 1 else 0) := by
  unfold cntK
  rw [List.countP_append]
  by_cases h1 : e.o = o <;> by_cases h2 : e.k = k <;> simp [h1, h2]
theorem capK_one (o : Int) (es : List Ev) (e : Ev) : capK o (es ++ [e]) = if e.o = o ∧ e.k = 6 then e.s else capK o es := by
  unfold capK
  rw [List.foldl_append]
  rfl
def tchL (e : Ev) (z : Int) : List Tch :=
  if e.k = 2 then [⟨1, e.o, 0, true, false⟩, ⟨2, e.o, 0, true, false⟩]
  else if e.k = 3 then [⟨1, e.o, 0, false, true⟩]
  else if e.k = 4 then [⟨1, e.o, 0, true, false⟩]
  else if e.k = 5 then [⟨2, e.o, 0, false, true⟩]
  else if e.k = 7 ∨ e.k = 8 then [⟨3, e.o, z, true, true⟩]
  else if e.k = 10 then [⟨4, e.o, 0, false, true⟩]
  else if e.k = 11 then [⟨4, e.o, 0, true, false⟩]
  else if e.k = 13 then [⟨5, e.o, 0, false, true⟩]
  else if e.k = 14 then [⟨5, e.o, 0, true, false⟩]
  else if e.k = 15 then [⟨6, e.o, 0, false, true⟩]
  else if e.k = 16 then [⟨6, e.o, 0, true, false⟩]
  else if e.k = 17 then [⟨7, e.o, 0, true, false⟩]
  else if e.k = 18 then [⟨7, e.o, 0, false, true⟩]
  else if e.k = 19 then [⟨7, e.o, 0, true, true⟩]
  else []
def slotE (es : List Ev) (e : Ev) : Int := (cntK e.k e.o es : Int).tmod (capK e.o es)
end Go.Proofs.YtplnijpolkflcaaGreatDoor
namespace Go.Proofs.YtplnijpolkflcaaGreatDoor
open Go.RowKit

def nestC : List (Nat × Code) → Code → Code
  | [], c => c
  | (n, t) :: r, c => nestC r ((Code.block n c).seq t)
def postC (P : Program) (Q : Exit → Act → World → Prop) : List (Nat × Code) → Exit → Act → World → Prop
  | [] => Q
  | (n, t) :: r => Exit.inBlock n (Exit.then (t.wp P (postC P Q r)) (postC P Q r))
theorem wp_nestC {P : Program} {Q : Exit → Act → World → Prop} {a : Act} {w : World} : ∀ (L : List (Nat × Code)) (c : Code), c.wp P (postC P Q L) a w → (nestC L c).wp P Q a w
  | [], _, h => h
  | (_, _) :: r, _, h => wp_nestC r _ (wp_seq (wp_block h))
theorem wp_opaque {P : Program} {c : Code} {Q : Exit → Act → World → Prop} {a : Act} {w : World} (h : ∀ Q0 : Exit → Act → World → Prop, (∀ e a w, Q e a w → Q0 e a w) → c.wp P Q0 a w) : c.wp P Q a w := h Q fun _ _ _ h => h
theorem postC_at {P : Program} {Q : Exit → Act → World → Prop} {a : Act} {w : World} {m : Nat} {t : Code} {r : List (Nat × Code)} : ∀ (L : List (Nat × Code)), (L.all fun x => x.1 != m) = true → t.wp P (postC P Q r) a w → postC P Q (L ++ (m, t) :: r) (.exit m) a w
  | [], _, h => by
    show Exit.inBlock m (Exit.then (t.wp P (postC P Q r)) (postC P Q r)) (.exit m) a w
    simpa [Exit.inBlock, Exit.then] using h
  | (n, c) :: L, hL, h => by
    simp only [List.all_cons, Bool.and_eq_true, bne_iff_ne, ne_eq] at hL
    have ih := postC_at (P := P) (Q := Q) (a := a) (w := w) (m := m) (t := t) (r := r) L hL.2 h
    show Exit.inBlock n (Exit.then (c.wp P (postC P Q (L ++ (m, t) :: r))) (postC P Q (L ++ (m, t) :: r))) (.exit m) a w
    have hne : ¬ m = n := fun q => hL.1 q.symm
    simpa [Exit.inBlock, Exit.then, hne] using ih
theorem postC_out {P : Program} {Q : Exit → Act → World → Prop} {a : Act} {w : World} {m : Nat} : ∀ (L : List (Nat × Code)), (L.all fun x => x.1 != m) = true → Q (.exit m) a w → postC P Q L (.exit m) a w
  | [], _, h => h
  | (n, c) :: L, hL, h => by
    simp only [List.all_cons, Bool.and_eq_true, bne_iff_ne, ne_eq] at hL
    have ih := postC_out (P := P) (Q := Q) (a := a) (w := w) (m := m) L hL.2 h
    show Exit.inBlock n (Exit.then (c.wp P (postC P Q L)) (postC P Q L)) (.exit m) a w
    have hne : ¬ m = n := fun q => hL.1 q.symm
    simpa [Exit.inBlock, Exit.then, hne] using ih
theorem postC_ret {P : Program} {Q : Exit → Act → World → Prop} {a : Act} {w : World} : ∀ (L : List (Nat × Code)), Q .ret a w → postC P Q L .ret a w
  | [], h => h
  | (_, _) :: L, h => postC_ret (P := P) L h
theorem postC_on {P : Program} {Q : Exit → Act → World → Prop} {a : Act} {w : World} {n : Nat} {t : Code} {r : List (Nat × Code)} (h : t.wp P (postC P Q r) a w) : postC P Q ((n, t) :: r) .normal a w := h
theorem inBlock_same {Q : Exit → Act → World → Prop} {a : Act} {w : World} {n : Nat} (h : Q .normal a w) : Exit.inBlock n Q (.exit n) a w := by
  simpa [Exit.inBlock] using h
theorem inBlock_ret {Q : Exit → Act → World → Prop} {a : Act} {w : World} {n : Nat} (h : Q .ret a w) : Exit.inBlock n Q .ret a w := h
theorem then_ret {K : Act → World → Prop} {Q : Exit → Act → World → Prop} {a : Act} {w : World} (h : Q .ret a w) : Exit.then K Q .ret a w := h
end Go.Proofs.YtplnijpolkflcaaGreatDoor
namespace Go.Proofs.YtplnijpolkflcaaGreatDoor
open Go.RowKit

theorem Tryz.infoT : (Tryz.prog.info? 225).map (fun i => (i.zero, i.size, i.bytes)) = some (some (.agg #[.int .i64 0, .int .i64 0, .int .i64 0, .bool false, .bool false]), 5, 32) := by kernel_rfl
def TchJ (w : World) (b : Nat) (c : Tch) : Prop := w.heap[b]? = some (.cells #[.int .i64 c.sp, .int .i64 c.ob, .int .i64 c.sl, .bool c.tk, .bool c.gv] 225 (0, 0))
theorem TchJ.lt {w : World} {b : Nat} {c : Tch} (h : TchJ w b c) : b < w.heap.size := (Array.getElem?_eq_some_iff.1 h).1
theorem TchJ.keep {w w' : World} {b : Nat} {c : Tch} {row : Option Nat} (h : TchJ w b c) (k : w.grownBy w' row) (hr : some b ≠ row) : TchJ w' b c := (k.block b h.lt hr).trans h
theorem TchJ.free {w : World} {b : Nat} {c : Tch} (h : TchJ w b c) (i : Nat) : w.frozen? ⟨b, i, none⟩ = false := frozen_of_row w b i _ _ h
theorem TchJ.at {w : World} {b : Nat} {c : Tch} (h : TchJ w b c) : w.cell? ⟨b, 0, none⟩ = some (.int .i64 c.sp) ∧ w.cell? ⟨b, 1, none⟩ = some (.int .i64 c.ob) ∧ w.cell? ⟨b, 2, none⟩ = some (.int .i64 c.sl) ∧ w.cell? ⟨b, 3, none⟩ = some (.bool c.tk) ∧ w.cell? ⟨b, 4, none⟩ = some (.bool c.gv) :=
  ⟨cell_of_row w b 0 _ _ _ h, cell_of_row w b 1 _ _ _ h, cell_of_row w b 2 _ _ _ h, cell_of_row w b 3 _ _ _ h, cell_of_row w b 4 _ _ _ h⟩
theorem litK_reads {α : Type} (L : Lay α) (w : World) (xs : List α) (hl : xs.length ≤ 1000) (o : Obj) (ho : o = .cells (xs.flatMap L.cs).toArray L.ty (0, 0)) (k : Nat) (hk : w.heap.size = k) : ReadsG L (w.alloc o) (some ⟨k, 0, none⟩) xs := by
  obtain ⟨g, c, e, h1, h2⟩ := ownG_litK L w xs hl o ho k 0 hk (Nat.zero_le _)
  simp only [Value.slice.injEq, Option.some.injEq, Addr.mk.injEq, and_true, true_and] at e
  obtain ⟨rfl, -⟩ := e
  exact own_readsG h1 h2
end Go.Proofs.YtplnijpolkflcaaGreatDoor
namespace Go.Proofs.YtplnijpolkflcaaGreatDoor
open Go.RowKit

set_option maxRecDepth 20000 in
set_option maxHeartbeats 2000000 in
theorem tchI_2 (b b2 : Nat) (co cap sent got : Int) (cl : Bool) (gr o wi l sz f t : Int) (w : World) (hb : w.cell? ⟨b, 2, none⟩ = some (.map (some b2)))
    (hL : ∀ u, Fr w u → (Instr.lookup 144 (.map (some b2)) (.int .i64 o) false).run Tryz.prog u = .ok (.agg #[.int .i64 co, .int .i64 cap, .int .i64 sent, .int .i64 got, .bool cl]) u) :
    Calls Tryz.prog 188 #[.pointer (some ⟨b, 0, none⟩), .agg #[.int .i64 2, .int .i64 gr, .int .i64 o, .int .i64 wi, .int .i64 l, .int .i64 sz, .int .i64 f, .int .i64 t]] w fun x w' => ∃ v, x = .returned v ∧ OwnG layT w' w.heap.size v [⟨1, o, 0, true, false⟩, ⟨2, o, 0, true, false⟩] ∧ Fr w w' := by
  have fW := Fr.alloc w (.cells #[.int .i64 2, .int .i64 gr, .int .i64 o, .int .i64 wi, .int .i64 l, .int .i64 sz, .int .i64 f, .int .i64 t] 31)
  have kE := EvAt.new w ⟨2, gr, o, wi, l, sz, f, t⟩ 31
  have hb := fW.cell hb
  simp only at kE
  go_enter Tryz.func188, Tryz.ntmps188
  go_wp2_with fail
  obtain ⟨W, hW⟩ : ∃ W, W = w.alloc (.cells #[.int .i64 2, .int .i64 gr, .int .i64 o, .int .i64 wi, .int .i64 l, .int .i64 sz, .int .i64 f, .int .i64 t] 31) := ⟨_, rfl⟩
  rw [← hW] at fW kE hb ⊢
  clear hW
  obtain ⟨c0, c1, c2, c3, c4, c5, c6, c7⟩ := kE
  simp only at c0 c2
  clear c1 c3 c4 c5 c6 c7
  have HL : Hid (∀ u, Fr w u → (Instr.lookup 144 (.map (some b2)) (.int .i64 o) false).run Tryz.prog u = .ok (.agg #[.int .i64 co, .int .i64 cap, .int .i64 sent, .int .i64 got, .bool cl]) u) := hL
  clear hL
  have l1 := HL.out _ (fW.trans (Fr.drew W))
  have l2 := HL.out _ ((fW.trans (Fr.alloc W (.cells #[.int .i64 0, .int .i64 0, .int .i64 0, .int .i64 0, .bool false] 85))).trans (Fr.drew _))
  go_region_held3 (fun u => u.cell? ⟨b, 2, none⟩ = some (.map (some b2)) ∧ u.cell? ⟨w.heap.size, 2, none⟩ = some (.int .i64 o)) (go_keep) (fail)
  all_goals (
    clear l1 l2 HL
    obtain ⟨V, hV⟩ : ∃ V, V = (W.alloc (.cells #[.int .i64 co, .int .i64 cap, .int .i64 sent, .int .i64 got, .bool cl] 85)).drew := ⟨_, rfl⟩
    have fA : Fr W V := by rw [hV]; exact (Fr.alloc _ _).trans (Fr.drew _)
    have fV : Fr w V := fW.trans fA
    have x0 := fA.cell c0
    have x2 := fA.cell c2
    have y1 : V.cell? ⟨W.heap.size, 1, none⟩ = some (.int .i64 cap) := by rw [hV]; simp [go_sem]
    have y2 : V.cell? ⟨W.heap.size, 2, none⟩ = some (.int .i64 sent) := by rw [hV]; simp [go_sem]
    have y3 : V.cell? ⟨W.heap.size, 3, none⟩ = some (.int .i64 got) := by rw [hV]; simp [go_sem]
    rw [← hV]
    have hbV : w.heap.size ≤ V.heap.size := fV.size
    have z1 : w.heap.size < V.heap.size := World.block_lt_of_cell? V _ x0
    have z2 : W.heap.size < V.heap.size := World.block_lt_of_cell? V _ y1
    have n1 : ¬ w.heap.size = V.heap.size := by omega
    have n2 : ¬ w.heap.size = V.heap.size + 1 := by omega
    have n3 : ¬ W.heap.size = V.heap.size := by omega
    have n4 : ¬ W.heap.size = V.heap.size + 1 := by omega
    clear hV fA c0 c2 hb
    go_upto_block 0 with fail
    refine wp_block ?_
    refine wp_nestC [(1, _), (2, _), (3, _), (4, _), (5, _), (6, _), (7, _), (8, _), (9, _), (10, _), (11, _), (12, _), (13, _), (14, _), (15, _), (16, _)] _ ?_
    refine wp_opaque (fun Q0 hQ0 => ?_)
    have HQ0 : Hid _ := hQ0
    clear hQ0
    go_wp2_with fail
    refine HQ0.out _ _ _ (postC_at [] (by rfl) ?_)
    clear HQ0
    refine wp_opaque (fun Q1 hQ1 => ?_)
    have HQ1 : Hid _ := hQ1
    clear hQ1
    have HO : OwnG layT (((V.alloc (.cells #[.int .i64 0, .int .i64 o, .int .i64 0, .bool false, .bool false] 225)).alloc (.cells #[] 225)).alloc (.cells #[.int .i64 2, .int .i64 o, .int .i64 0, .bool true, .bool false] 225)) w.heap.size (.slice (some ⟨V.heap.size + 1, 0, none⟩) 0 0) [] := (ownG_litK layT _ [] (by simp) _ rfl _ _ (by simp) (by omega)).fr (Fr.alloc _ _)
    have HX := news_of_reads (litK_reads layT ((V.alloc (.cells #[.int .i64 0, .int .i64 o, .int .i64 0, .bool false, .bool false] 225)).alloc (.cells #[] 225)) [⟨2, o, 0, true, false⟩] (by simp) (.cells #[.int .i64 2, .int .i64 o, .int .i64 0, .bool true, .bool false] 225) rfl (V.heap.size + 1 + 1) (by simp))
    have HJ : TchJ (((V.alloc (.cells #[.int .i64 0, .int .i64 o, .int .i64 0, .bool false, .bool false] 225)).alloc (.cells #[] 225)).alloc (.cells #[.int .i64 2, .int .i64 o, .int .i64 0, .bool true, .bool false] 225)) V.heap.size ⟨0, o, 0, false, false⟩ := by
      have h1 := heap_alloc_new V (.cells #[.int .i64 0, .int .i64 o, .int .i64 0, .bool false, .bool false] 225)
      have h2 : TchJ (V.alloc (.cells #[.int .i64 0, .int .i64 o, .int .i64 0, .bool false, .bool false] 225)) V.heap.size ⟨0, o, 0, false, false⟩ := h1
      exact (h2.keep (Fr.alloc _ _) (by simp)).keep (Fr.alloc _ _) (by simp)
    have HO : Hid _ := HO
    have HX : Hid _ := HX
    have HJ : Hid _ := HJ
    go_wp2_with (at_builtin; refine appGL layT _ rfl _ _ 194 _ 32 rfl Tryz.underlying194 Tryz.infoT rfl (by decide) w.heap.size (.slice (some ⟨V.heap.size + 1, 0, none⟩) 0 0) [] [⟨2, o, 0, true, false⟩] rfl HO.out ⟨V.heap.size + 1 + 1, 0, none⟩ 1 rfl HX.out (by simp) (by simp; omega) ?_; intro v4 w4 hv4 hg4 hat4)
    refine HQ1.out _ _ _ (postC_on ?_)
    clear HQ1
    refine wp_opaque (fun Q1 hQ1 => ?_)
    have HQ1 : Hid _ := hQ1
    clear hQ1
    have HJ4 : TchJ w4 V.heap.size ⟨0, o, 0, false, false⟩ := TchJ.keep (c := ⟨0, o, 0, false, false⟩) HJ.out hg4 (by simp [Value.ownBlock])
    have hf4 : Fr w w4 := (((fV.trans (Fr.alloc _ _)).trans (Fr.alloc _ _)).trans (Fr.alloc _ _)).then hg4 (fun j hj => by simp only [Value.ownBlock, Option.some.injEq] at hj; omega)
    obtain ⟨g4, cap4, rfl, h4, l4⟩ := hv4
    have hgn : V.heap.size ≠ g4 := by
      simp only [Value.ownBlock, Option.some.injEq, World.size_alloc] at hat4
      omega
    have hs4 : w.heap.size ≤ w4.heap.size := hf4.size
    have HU : Hid (∀ a b, ReadsG layT ((w4.setCell ⟨V.heap.size, 0, none⟩ a).setCell ⟨V.heap.size, 3, none⟩ b) (some ⟨g4, 0, none⟩) [⟨2, o, 0, true, false⟩] ∧ Fr w ((w4.setCell ⟨V.heap.size, 0, none⟩ a).setCell ⟨V.heap.size, 3, none⟩ b)) := fun a b => ⟨((own_readsG h4 l4).keep (grown_set _ _ _ _) (.inr (fun q => hgn (by simpa [blk] using q.symm)))).keep (grown_set _ _ _ _) (.inr (fun q => hgn (by simpa [blk] using q.symm))), (hf4.then (grown_set _ _ _ _) (fun j hj => by simp only [Option.some.injEq] at hj; omega)).then (grown_set _ _ _ _) (fun j hj => by simp only [Option.some.injEq] at hj; omega)⟩
    obtain ⟨t0, t1, t2, t3, t4⟩ := TchJ.at HJ4
    simp only at t0 t1 t2 t3 t4
    have tf := fun i => TchJ.free HJ4 i
    clear HO HX HJ HJ4 hg4 hat4 h4 l4 x0 x2 y1 y2 y3
    go_wp2_with fail
    refine HQ1.out _ _ _ (postC_out _ (by rfl) (inBlock_same ?_))
    clear HQ1
    have HU := HU.out (.int .i64 1) (.bool true)
    have HU : Hid _ := HU
    go_wp2_with (at_builtin; refine appGL layT _ rfl _ _ 194 _ 32 rfl Tryz.underlying194 Tryz.infoT rfl (by decide) w.heap.size (.slice (some ⟨w4.heap.size, 0, none⟩) 1 1) [⟨1, o, 0, true, false⟩] [⟨2, o, 0, true, false⟩] rfl (ownG_litK layT _ [⟨1, o, 0, true, false⟩] (by simp) _ rfl _ _ (by simp) (by omega)) ⟨g4, 0, none⟩ cap4 rfl (news_of_reads (HU.out.1.fr (Fr.alloc _ _))) (by simp) (by simp; omega) ?_; intro v5 w5 hv5 hg5 hat5)
    go_ret
    refine ⟨v5, rfl, hv5, ?_⟩
    exact (HU.out.2.trans (Fr.alloc _ _)).then hg5 (fun j hj => by simp only [Value.ownBlock, Option.some.injEq] at hj; omega))
end Go.Proofs.YtplnijpolkflcaaGreatDoor
namespace Go.Proofs.YtplnijpolkflcaaGreatDoor
open Go.RowKit

theorem laidOutP : laidOutB Tryz.prog = true := by kernel_rfl
theorem rowT : (225 : TypeId) < Tryz.prog.types.size := of_decide_eq_true (by kernel_rfl)
set_option maxRecDepth 20000 in
theorem keyAtT : Tryz.prog.keyTypeAt 3 225 = true := by kernel_rfl
theorem keyedT : Maps.Keyed Tryz.prog 225 := Maps.Keyed.of_law (deep_law_laid laidOutP (m := 3) (by omega) rowT keyAtT (by kernel_rfl))
def thV (sp ob sl : Int) : Value := .agg #[.int .i64 sp, .int .i64 ob, .int .i64 sl, .bool false, .bool false]
def thL (sp ob sl : Int) : Lit := .string (keyBytes [.int .i64 sp, .int .i64 ob, .int .i64 sl, .bool false, .bool false])
set_option maxRecDepth 20000 in
theorem keyTypeT : Tryz.prog.keyType 225 = true := by kernel_rfl
theorem cellsT : Tryz.prog.cellsOf 225 = 5 := by kernel_rfl
theorem cells64 : Tryz.prog.cellsOf 2 = 1 := by kernel_rfl
theorem cellsB : Tryz.prog.cellsOf 4 = 1 := by kernel_rfl
theorem sizeP2 : ∃ n, Tryz.prog.types.size = n + 2 := ⟨Tryz.prog.types.size - 2, by have : 2 ≤ Tryz.prog.types.size := of_decide_eq_true (by kernel_rfl); omega⟩
theorem kl64 (d : Nat) {x : Int} (h : I64 x) : Tryz.prog.keyLits (d + 1) 2 [.int .i64 x] = some [.int .i64 x] := by
  unfold Program.keyLits
  simp only [Tryz.underlying2, lit64 h, and_self, if_true]
theorem klB (d : Nat) (b : Bool) : Tryz.prog.keyLits (d + 1) 4 [.bool b] = some [.bool b] := by
  unfold Program.keyLits
  simp only [Tryz.underlying4]
set_option maxHeartbeats 400000 in
theorem klT (d : Nat) {sp ob sl : Int} (h1 : I64 sp) (h2 : I64 ob) (h3 : I64 sl) : Tryz.prog.keyLits (d + 2) 225 [.int .i64 sp, .int .i64 ob, .int .i64 sl, .bool false, .bool false] = some [.int .i64 sp, .int .i64 ob, .int .i64 sl, .bool false, .bool false] := by
  have e1 := kl64 d h1
  have e2 := kl64 d h2
  have e3 := kl64 d h3
  have e4 := klB d false
  unfold Program.keyLits
  simp only [Tryz.underlying225]
  rw [if_pos ⟨by rw [cellsT]; rfl, by simp⟩]
  simp [e1, e2, e3, e4, cells64, cellsB]
theorem keyOfT {sp ob sl : Int} (h1 : I64 sp) (h2 : I64 ob) (h3 : I64 sl) : keyOf Tryz.prog 225 (thV sp ob sl) = some (thL sp ob sl) := by
  obtain ⟨n, hn⟩ := sizeP2
  have hf : (thV sp ob sl).formed Tryz.prog 225 = true := by
    simp only [thV, Value.formed, Tryz.underlying225, cellsT]
    rfl
  have hk := klT (n + 1) h1 h2 h3
  have hc : (thV sp ob sl).cells.toList = [.int .i64 sp, .int .i64 ob, .int .i64 sl, .bool false, .bool false] := rfl
  unfold keyOf
  simp only [Tryz.underlying225]
  rw [keyTypeT, hf, hn, hc, hk]
  rfl
theorem thL_ne {a b c a' b' c' : Int} (h1 : I64 a) (h2 : I64 b) (h3 : I64 c) (h1' : I64 a') (h2' : I64 b') (h3' : I64 c') (h : ¬ (a = a' ∧ b = b' ∧ c = c')) : thL a b c ≠ thL a' b' c' := by
  intro e
  have := keyedT.inj (keyOfT h1 h2 h3) (e ▸ keyOfT h1' h2' h3')
  apply h
  simpa [thV] using this
def MapT (w : World) (b n : Nat) (G : Int → Int → Int → Nat) : Prop :=
  ∃ D : DataW Value, w.ownsMap Tryz.prog 225 asIs b n D ∧ ∃ f : Int → Int → Int → Option Value, (∀ i j k z, I64 i → I64 j → I64 k → D.atKey (thL i j k) z = ((f i j k).map DataW.held).getD z) ∧ ∀ i j k, (f i j k).getD (psV 0) = psV (G i j k)
theorem MapT.made (w : World) : MapT (w.alloc (.map #[] 0)) w.heap.size 0 (fun _ _ _ => 0) :=
  ⟨.map [], World.ownsMap_made w _ _ _, fun _ _ _ => none, fun _ _ _ _ _ _ _ => rfl, fun _ _ _ => rfl⟩
theorem MapT.keep {w w' : World} {b n : Nat} {G : Int → Int → Int → Nat} {row : Option Nat} (h : MapT w b n G) (k : w.grownBy w' row) (hr : some b ≠ row) : MapT w' b n G := by
  obtain ⟨D, h1, h2⟩ := h
  exact ⟨D, h1.kept k hr, h2⟩
theorem MapT.fr {w w' : World} {b n : Nat} {G : Int → Int → Int → Nat} (h : MapT w b n G) (k : Fr w w') : MapT w' b n G := h.keep k (by simp)
theorem MapT.lt {w : World} {b n : Nat} {G : Int → Int → Int → Nat} (h : MapT w b n G) : b < w.heap.size := by
  obtain ⟨D, h1, _⟩ := h
  exact h1.lt
theorem zeroPs (w : World) : (zeroValue 100).run Tryz.prog w = .ok (psV 0) w := by kernel_rfl
theorem MapT.look {w : World} {b n : Nat} {G : Int → Int → Int → Nat} (h : MapT w b n G) {i j k : Int} (hi : I64 i) (hj : I64 j) (hk : I64 k) :
    (Instr.lookup 217 (.map (some b)) (thV i j k) false).run Tryz.prog w = .ok (psV (G i j k)) w := by
  obtain ⟨D, h1, f, h2, h3⟩ := h
  obtain ⟨v, ps, hrun, hv⟩ := h1.lookup keyedT Tryz.underlying217 (zeroPs w) (zd := .held (psV 0)) (zp := []) rfl (keyOfT hi hj hk)
  simp only [asIs, Option.some.injEq, Prod.mk.injEq] at hv
  have hv := hv.1
  rw [h2 _ _ _ _ hi hj hk] at hv
  have : v = psV (G i j k) := by
    rw [← h3]
    cases hf : f i j k with
    | none => rw [hf] at hv; simpa using hv
    | some u => rw [hf] at hv; simpa using hv
  rw [hrun, this]
theorem MapT.put {w : World} {b n : Nat} {G : Int → Int → Int → Nat} (h : MapT w b n G) (hn : n < maxLen) {i j k : Int} (hi : I64 i) (hj : I64 j) (hk : I64 k) (M : Nat) :
    ∃ w', (Instr.mapUpdate 217 (.map (some b)) (thV i j k) (psV M)).run Tryz.prog w = .ok () w' ∧ MapT w' b (n + 1) (fun a c d => if a = i ∧ c = j ∧ d = k then M else G a c d) ∧ w.grownBy w' (some b) := by
  obtain ⟨D, h1, f, h2, h3⟩ := h
  obtain ⟨w', hrun, h4, h5⟩ := h1.update keyedT Tryz.underlying217 hn (keyOfT hi hj hk) (val := psV M) (d := .held (psV M)) (ps := []) rfl
  refine ⟨w', hrun, ⟨_, h4, fun a c d => if a = i ∧ c = j ∧ d = k then some (psV M) else f a c d, fun a c d z ha hc hd => ?_, fun a c d => ?_⟩, h5⟩
  · show _ = (Option.map DataW.held (if a = i ∧ c = j ∧ d = k then some (psV M) else f a c d)).getD z
    by_cases e : a = i ∧ c = j ∧ d = k
    · obtain ⟨rfl, rfl, rfl⟩ := e
      rw [Maps.atKey_put_same h1.isMap (keyedT.key (keyOfT hi hj hk))]
      simp
    · rw [if_neg e, Maps.atKey_put_other (thL_ne ha hc hd hi hj hk e), h2 _ _ _ _ ha hc hd]
  · show (if a = i ∧ c = j ∧ d = k then some (psV M) else f a c d).getD (psV 0) = psV (if a = i ∧ c = j ∧ d = k then M else G a c d)
    by_cases e : a = i ∧ c = j ∧ d = k
    · rw [if_pos e, if_pos e]
      rfl
    · rw [if_neg e, if_neg e, h3]
end Go.Proofs.YtplnijpolkflcaaGreatDoor
namespace Go.Proofs.YtplnijpolkflcaaGreatDoor
open Go.RowKit

theorem ixk (f : Nat → Nat) (k : Nat) (hk : k < 5) (w : World) : (Instr.index 100 (.agg #[.int .u64 (f 0), .int .u64 (f 1), .int .u64 (f 2), .int .u64 (f 3), .int .u64 (f 4)]) (.int .i64 k)).run Tryz.prog w = .ok (.int .u64 (f k)) w := by
  rcases k with _ | _ | _ | _ | _ | k
  · exact ix0 f w
  · exact ix1 f w
  · exact ix2 f w
  · exact ix3 f w
  · exact ix4 f w
  · omega
theorem Tab.fr {w w' : World} (h : Tab w) (k : Fr w w') : Tab w' := fun j hj => k.cell (h j hj)
def upTo (f : Nat → Nat) : Nat → List Int
  | 0 => []
  | k + 1 => upTo f k ++ (bitsL 64 (f k)).map fun i : Nat => (k : Int) * 64 + i
theorem upTo_len (f : Nat → Nat) : ∀ k, (upTo f k).length ≤ 64 * k
  | 0 => by simp [upTo]
  | k + 1 => by
    have ih := upTo_len f k
    have : (bitsL 64 (f k)).length ≤ 64 := by
      unfold bitsL
      have := List.length_filter_le (fun i => (f k).testBit i) (List.range 64)
      simpa using this
    simp only [upTo, List.length_append, List.length_map]
    omega
def rsL (N : Nat) : List Int := (bitsL 320 N).map fun i : Nat => (i : Int)
theorem rsL_upTo (N : Nat) : upTo (wd N) 5 = rsL N := by
  unfold rsL
  rw [bitsL_sum]
  simp only [upTo, List.map_append, List.map_map, List.nil_append]
  congr 1
  congr 1
  congr 1
  congr 1
  apply List.map_congr_left
  intro a _
  simp

set_option maxRecDepth 20000 in
set_option maxHeartbeats 2000000 in
theorem rising_core (f : Nat → Nat) (hf : ∀ k, f k < 18446744073709551616) (w : World) (hT : Tab w) :
    Calls Tryz.prog 72 #[.agg #[.int .u64 (f 0), .int .u64 (f 1), .int .u64 (f 2), .int .u64 (f 3), .int .u64 (f 4)]] w fun e w' => ∃ v, e = .returned v ∧ OwnS w' w.heap.size v (upTo f 5) ∧ Fr w w' := by
  have f0 := Fr.alloc w (.cells #[.int .u64 (f 0), .int .u64 (f 1), .int .u64 (f 2), .int .u64 (f 3), .int .u64 (f 4)] 100)
  go_enter Tryz.func72, Tryz.ntmps72
  go_wp2_with fail
  obtain ⟨W, hW⟩ : ∃ W, W = w.alloc (.cells #[.int .u64 (f 0), .int .u64 (f 1), .int .u64 (f 2), .int .u64 (f 3), .int .u64 (f 4)] 100) := ⟨_, rfl⟩
  have sW := f0.size
  have hsz0 : w.heap.size + 1 = W.heap.size := by rw [hW]; simp
  have hsz : Hid (w.heap.size + 1 = W.heap.size) := hsz0
  clear hsz0
  rw [← hW] at f0 sW ⊢
  clear hW
  have hT := hT.fr f0
  go_loopw [3, 8] (fun v i wr => ∃ k : Nat, k ≤ 5 ∧ i = .int .i64 k ∧ OwnS wr W.heap.size v (upTo f k) ∧ Fr W wr) (fun _ i _ => 5 - (intOf i).toNat)
  case atStart => exact ⟨0, by omega, rfl, by rw [hsz.out]; exact own_empty W _ (Nat.le_refl _), Fr.alloc W _⟩
  case round =>
    obtain ⟨k, hk, rfl, ho, hF⟩ := hrel
    by_cases hlt : k < 5
    · have i0 := fun u => ixk f k hlt u
      have hkb : decide ((k : Int) < 5) = true := by simp; omega
      have hfk := hf k
      have HU : Hid (upTo f (k + 1) = upTo f k ++ (bitsL 64 (f k)).map fun i : Nat => (k : Int) * 64 + i) := rfl
      have hul := upTo_len f (k + 1)
      go_wp2_with fail
      go_loopw [3, 5] (fun v x wq => ∃ (n : Nat) (ys : List Int), x = .int .u64 n ∧ n < 18446744073709551616 ∧ OwnS wq W.heap.size v ys ∧ upTo f (k + 1) = ys ++ (bitsL 64 n).map (fun i : Nat => (k : Int) * 64 + i) ∧ Fr W wq) (fun _ x _ => (intOf x).toNat)
      case atStart => exact ⟨f k, upTo f k, rfl, hfk, ho, HU.out, hF⟩
      case round =>
        obtain ⟨n, ys, rfl, hn, ho2, hys, hF2⟩ := hrel
        by_cases h0 : n = 0
        · subst h0
          have hz : (((0 : Nat) : Int) != 0) = false := rfl
          have hys2 : upTo f (k + 1) = ys := by simpa [bitsL_zero] using hys
          clear hys i0
          go_wp2_with fail
          go_roundw
          case rel => exact ⟨k + 1, by omega, by go_num, by rw [hys2]; exact ho2, hF2⟩
          case measure => simp [intOf]; omega
        · obtain ⟨b1, b2, b3⟩ := bits_low n h0 hn
          have hz : ((n : Int) != 0) = true := by simp; omega
          have hA : bits .and .u64 (n : Int) ((n : Int) - 1) = ((n &&& (n - 1) : Nat) : Int) := by
            have q := and_nat n (n - 1) hn (by omega)
            rwa [show ((n - 1 : Nat) : Int) = (n : Int) - 1 by omega] at q
          have cZ := fun u (fu : Fr W u) => tz_any n hn h0 u (hT.fr fu)
          obtain ⟨t, ht⟩ : ∃ t, t = Lib.ctz 64 n := ⟨_, rfl⟩
          simp only [← ht] at cZ b1 b2
          obtain ⟨n2, hn2⟩ : ∃ t, t = n &&& (n - 1) := ⟨_, rfl⟩
          rw [← hn2] at b1 b3 hA
          have HN : Hid (upTo f (k + 1) = (ys ++ [(k : Int) * 64 + t]) ++ (bitsL 64 n2).map (fun i : Nat => (k : Int) * 64 + i)) := by
            rw [hys, b1]
            simp
            exact trivial
          have hyl : ys.length ≤ 320 := by
            have := congrArg List.length hys
            rw [List.length_append] at this
            omega
          have hm := fun u => reads_one u ((k : Int) * 64 + t) ⟨by omega, by omega⟩
          have h1n : (1 : Int) ≤ n := by omega
          have sF := hF2.size
          clear hys b1 ht hn2 i0 h0
          go_wp2_with fail
          refine (cZ _ hF2).mono ?_
          rintro e u1 ⟨rfl, rfl⟩
          clear cZ
          go_wp2_with (at_builtin; refine appI _ rfl _ _ rfl W.heap.size _ _ [(k : Int) * 64 + t] rfl (ho2.fr (Fr.alloc _ _)) _ _ _ rfl rfl (by simp) (hm _) (by simp; omega) (by simp; omega) ?_; intro v1 w4 hv1 hg1)
          go_roundw
          case rel => exact ⟨n2, _, rfl, by omega, hv1, HN.out, (hF2.trans (Fr.alloc _ _)).then hg1 ho2.blk⟩
          case measure => simp [intOf]; omega
    · have e : k = 5 := by omega
      subst e
      go_wp2_with fail
      go_ret
      exact ⟨_, rfl, ho.lower sW, f0.trans hF⟩
theorem rising_any (N : Nat) (w : World) (hT : Tab w) :
    Calls Tryz.prog 72 #[.agg #[.int .u64 (wd (N) 0), .int .u64 (wd (N) 1), .int .u64 (wd (N) 2), .int .u64 (wd (N) 3), .int .u64 (wd (N) 4)]] w fun e w' => ∃ v, e = .returned v ∧ OwnS w' w.heap.size v (rsL N) ∧ Fr w w' := by
  rw [← rsL_upTo]
  exact rising_core (wd N) (wd_lt N) w hT

theorem row5 {u : World} {b : Nat} {T : TypeId} {c0 c1 c2 c3 c4 : Value} (h : u.heap[b]? = some (.cells #[c0, c1, c2, c3, c4] T (0, 0))) (v0 v1 v2 v3 v4 : Value) :
    (((((u.setCell ⟨b, 0, none⟩ v0).setCell ⟨b, 1, none⟩ v1).setCell ⟨b, 2, none⟩ v2).setCell ⟨b, 3, none⟩ v3).setCell ⟨b, 4, none⟩ v4).heap[b]? = some (.cells #[v0, v1, v2, v3, v4] T (0, 0)) := by
  have e0 := heap_setCell_same u b 0 _ _ v0 h
  have e1 := heap_setCell_same _ b 1 _ _ v1 e0
  have e2 := heap_setCell_same _ b 2 _ _ v2 e1
  have e3 := heap_setCell_same _ b 3 _ _ v3 e2
  exact heap_setCell_same _ b 4 _ _ v4 e3
set_option maxHeartbeats 1000000 in
theorem only_any (i : Nat) (hi : i < 320) (w : World) :
    Calls Tryz.prog 203 #[.int .i64 i] w fun e w' => e = .returned (.agg #[.int .u64 (wd (2 ^ i) 0), .int .u64 (wd (2 ^ i) 1), .int .u64 (wd (2 ^ i) 2), .int .u64 (wd (2 ^ i) 3), .int .u64 (wd (2 ^ i) 4)]) ∧ Fr w w' := by
  have f1 := Fr.alloc w (.cells #[.int .u64 0, .int .u64 0, .int .u64 0, .int .u64 0, .int .u64 0] 100)
  have f2 := Fr.alloc (w.alloc (.cells #[.int .u64 0, .int .u64 0, .int .u64 0, .int .u64 0, .int .u64 0] 100)) (.cells #[.int .u64 0, .int .u64 0, .int .u64 0, .int .u64 0, .int .u64 0] 100)
  have r2 : RowAt ((w.alloc (.cells #[.int .u64 0, .int .u64 0, .int .u64 0, .int .u64 0, .int .u64 0] 100)).alloc (.cells #[.int .u64 0, .int .u64 0, .int .u64 0, .int .u64 0, .int .u64 0] 100)) (w.heap.size + 1) 100 := by
    have := heap_alloc_new (w.alloc (.cells #[.int .u64 0, .int .u64 0, .int .u64 0, .int .u64 0, .int .u64 0] 100)) (.cells #[.int .u64 0, .int .u64 0, .int .u64 0, .int .u64 0, .int .u64 0] 100)
    rw [World.size_alloc] at this
    exact ⟨_, this⟩
  have p2 : PsC ((w.alloc (.cells #[.int .u64 0, .int .u64 0, .int .u64 0, .int .u64 0, .int .u64 0] 100)).alloc (.cells #[.int .u64 0, .int .u64 0, .int .u64 0, .int .u64 0, .int .u64 0] 100)) (w.heap.size + 1) 0 0 := by
    have := heap_alloc_new (w.alloc (.cells #[.int .u64 0, .int .u64 0, .int .u64 0, .int .u64 0, .int .u64 0] 100)) (.cells #[.int .u64 0, .int .u64 0, .int .u64 0, .int .u64 0, .int .u64 0] 100)
    rw [World.size_alloc] at this
    intro k hk
    rw [cell_of_row _ _ _ _ _ _ this, wd_zero]
    rcases k with _ | _ | _ | _ | _ | k <;> first | rfl | omega
  have r1 : RowAt ((w.alloc (.cells #[.int .u64 0, .int .u64 0, .int .u64 0, .int .u64 0, .int .u64 0] 100)).alloc (.cells #[.int .u64 0, .int .u64 0, .int .u64 0, .int .u64 0, .int .u64 0] 100)) w.heap.size 100 := RowAt.fr ⟨_, heap_alloc_new w _⟩ f2
  have c1 : ∀ k, k < 5 → ((w.alloc (.cells #[.int .u64 0, .int .u64 0, .int .u64 0, .int .u64 0, .int .u64 0] 100)).alloc (.cells #[.int .u64 0, .int .u64 0, .int .u64 0, .int .u64 0, .int .u64 0] 100)).cell? ⟨w.heap.size, k, none⟩ = some (.int .u64 0) := by
    intro k hk
    refine f2.cell ?_
    rw [cell_of_row _ _ _ _ _ _ (heap_alloc_new w _)]
    rcases k with _ | _ | _ | _ | _ | k <;> first | rfl | omega
  have cA := add_any (w.heap.size + 1) 0 0 i 100 _ hi p2 r2
  go_enter Tryz.func203, Tryz.ntmps203
  go_wp2_with fail
  refine cA.mono ?_
  rintro x u1 ⟨rfl, p3, w3⟩
  rw [Nat.zero_or] at p3
  have F3 : Fr w u1 := (f1.trans f2).then w3.by_ (fun j hj => by cases hj; omega)
  have z1 := fun k hk => w3.by_.cell (c1 k hk) (by simp)
  obtain ⟨q0, q1, q2, q3, q4⟩ := And.intro (p3 0 (by omega)) (And.intro (p3 1 (by omega)) (And.intro (p3 2 (by omega)) (And.intro (p3 3 (by omega)) (p3 4 (by omega)))))
  obtain ⟨y0, y1, y2, y3, y4⟩ := And.intro (z1 0 (by omega)) (And.intro (z1 1 (by omega)) (And.intro (z1 2 (by omega)) (And.intro (z1 3 (by omega)) (z1 4 (by omega)))))
  simp only [Nat.zero_add] at q0 q1 q2 q3 q4
  have r5 : u1.heap[w.heap.size]? = some (.cells #[.int .u64 0, .int .u64 0, .int .u64 0, .int .u64 0, .int .u64 0] 100 (0, 0)) := by
    have hc := heap_alloc_new w (.cells #[.int .u64 0, .int .u64 0, .int .u64 0, .int .u64 0, .int .u64 0] 100)
    have hl := (Array.getElem?_eq_some_iff.1 hc).1
    have hc2 := (f2.block _ hl (by simp)).trans hc
    exact (w3.by_.block _ (Array.getElem?_eq_some_iff.1 hc2).1 (by simp)).trans hc2
  have rr : RowAt u1 w.heap.size 100 := ⟨_, r5⟩
  have v0 := rr.free 0
  have v1 := rr.free 1
  have v2 := rr.free 2
  have v3 := rr.free 3
  have v4 := rr.free 4
  obtain ⟨x0, hx0⟩ : ∃ x, x = wd (2 ^ i) 0 := ⟨_, rfl⟩
  obtain ⟨x1, hx1⟩ : ∃ x, x = wd (2 ^ i) 1 := ⟨_, rfl⟩
  obtain ⟨x2, hx2⟩ : ∃ x, x = wd (2 ^ i) 2 := ⟨_, rfl⟩
  obtain ⟨x3, hx3⟩ : ∃ x, x = wd (2 ^ i) 3 := ⟨_, rfl⟩
  obtain ⟨x4, hx4⟩ : ∃ x, x = wd (2 ^ i) 4 := ⟨_, rfl⟩
  simp only [← hx0, ← hx1, ← hx2, ← hx3, ← hx4] at q0 q1 q2 q3 q4 ⊢
  have R := row5 r5 (.int .u64 x0) (.int .u64 x1) (.int .u64 x2) (.int .u64 x3) (.int .u64 x4)
  have F4 := F3.then (put5 u1 w.heap.size (.int .u64 x0) (.int .u64 x1) (.int .u64 x2) (.int .u64 x3) (.int .u64 x4)) (fun j hj => by cases hj; omega)
  have HV : Hid (psV (2 ^ i) = .agg #[.int .u64 x0, .int .u64 x1, .int .u64 x2, .int .u64 x3, .int .u64 x4]) := by rw [hx0, hx1, hx2, hx3, hx4]; exact rfl
  have RH : Hid _ := R
  have FH : Hid _ := F4
  clear p3 w3 z1 rr r1 c1 cA p2 r2 f1 f2 r5 R F4 hx0 hx1 hx2 hx3 hx4
  go_wp2_with fail
  have R := RH.out
  have d0 := cell_of_row _ _ 0 _ _ _ R
  have d1 := cell_of_row _ _ 1 _ _ _ R
  have d2 := cell_of_row _ _ 2 _ _ _ R
  have d3 := cell_of_row _ _ 3 _ _ _ R
  have d4 := cell_of_row _ _ 4 _ _ _ R
  refine bodyPost_ret (v := .agg #[.int .u64 x0, .int .u64 x1, .int .u64 x2, .int .u64 x3, .int .u64 x4]) (by simp [results, Tryz.results203, go_sem, d0, d1, d2, d3, d4]) rfl ⟨congrArg Ending.returned HV.out.symm, FH.out⟩
end Go.Proofs.YtplnijpolkflcaaGreatDoor
namespace Go.Proofs.YtplnijpolkflcaaGreatDoor
open Go.ChangeShapes Go.WideShapes Go.ChangeAt Go.RowKit

end Go.Proofs.YtplnijpolkflcaaGreatDoor
