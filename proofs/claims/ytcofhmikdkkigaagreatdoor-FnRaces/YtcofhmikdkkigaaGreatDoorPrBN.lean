/-
  Pack BN: ScCopy3, ScDoneM, ScDoneS, ScTrace.
-/
import Derived.Test.YtcofhmikdkkigaaGreatDoorPrBL
import Derived.Test.YtcofhmikdkkigaaGreatDoorPrAW
import Derived.Test.YtcofhmikdkkigaaGreatDoorPrBM
import Derived.Test.YtcofhmikdkkigaaGreatDoorPrAU
namespace Go.Proofs.YtcofhmikdkkigaaGreatDoor
open Go.RowKit

def dstC (i : Nat) : Nat := [6, 7, 8, 9, 10, 11, 12, 13, 14, 15, 16, 17, 18, 19, 3].getD i 0
def RC (A sb : Nat) (s : Sv) (m : Scn) : Nat → Value → World → Prop
  | 0, v, _ => v = .pointer (some ⟨sb, 0, none⟩)
  | 1, v, _ => v = .int .i64 s.g
  | 2, v, u => ∃ k, v = .slice (some ⟨k, 0, none⟩) 0 0 ∧ A ≤ k ∧ u.heap[k]? = some (.cells #[] layC.ty (0, 0))
  | 3, v, _ => v = .pointer (some ⟨sb, 2, none⟩)
  | 4, v, _ => v = .slice s.co s.cl s.cc
  | 5, v, u => OwnG layC u A v m.cs
  | 6, v, u => ∃ k, v = .slice (some ⟨k, 0, none⟩) 0 0 ∧ A ≤ k ∧ u.heap[k]? = some (.cells #[] layN.ty (0, 0))
  | 7, v, _ => v = .pointer (some ⟨sb, 3, none⟩)
  | 8, v, _ => v = .slice s.no s.nl s.nc
  | 9, v, u => OwnG layN u A v m.gs
  | 10, v, _ => v = .pointer (some ⟨sb, 4, none⟩)
  | 11, v, _ => v = .slice s.oo s.ol s.oc
  | 12, v, u => OwnS u A v m.os
  | 13, v, u => ∃ v1 v2 v3, v = .agg #[.int .i64 s.g, .slice none 0 0, v1, v2, v3] ∧ OwnG layC u A v1 m.cs ∧ OwnG layN u A v2 m.gs ∧ OwnS u A v3 m.os
  | 14, v, u => ∃ k, v = .pointer (some ⟨k, 0, none⟩) ∧ A ≤ k ∧ ScK u k ⟨0, none, 0, 0, none, 0, 0, none, 0, 0, none, 0, 0⟩
  | _, _, _ => True
theorem row_frC {u u' : World} {k : Nat} {o : Obj} (h : u.heap[k]? = some o) (f : Fr u u') : u'.heap[k]? = some o := (f.block k (Array.getElem?_eq_some_iff.1 h).1 (by simp)).trans h
theorem RC.fr {A sb : Nat} {s : Sv} {m : Scn} (i : Nat) (v : Value) (u u' : World) (h : RC A sb s m i v u) (f : Fr u u') : RC A sb s m i v u' := by
  rcases i with _ | _ | _ | _ | _ | _ | _ | _ | _ | _ | _ | _ | _ | _ | _ | i
  · exact h
  · exact h
  · obtain ⟨k, a, b, c⟩ := h; exact ⟨k, a, b, row_frC c f⟩
  · exact h
  · exact h
  · exact OwnG.fr h f
  · obtain ⟨k, a, b, c⟩ := h; exact ⟨k, a, b, row_frC c f⟩
  · exact h
  · exact h
  · exact OwnG.fr h f
  · exact h
  · exact h
  · exact OwnS.fr h f
  · obtain ⟨v1, v2, v3, a, b, c, d⟩ := h; exact ⟨v1, v2, v3, a, b.fr f, c.fr f, d.fr f⟩
  · obtain ⟨k, a, b, c⟩ := h; exact ⟨k, a, b, row_frC c f⟩
  · trivial

set_option maxRecDepth 20000 in
set_option maxHeartbeats 2000000 in
theorem l4Copy_any {B : Nat → Prop} (s : Sv) (m : Scn) (w : World) (h : ScR B w s m) :
    Calls Tryz.prog 128 #[.agg #[.int .i64 s.g, .slice s.lo s.ll s.lc, .slice s.co s.cl s.cc, .slice s.no s.nl s.nc, .slice s.oo s.ol s.oc]] w fun x w' => ∃ s' : Sv, x = .returned (.agg #[.int .i64 s'.g, .slice s'.lo s'.ll s'.lc, .slice s'.co s'.cl s'.cc, .slice s'.no s'.nl s'.nc, .slice s'.oo s'.ol s'.oc]) ∧ ScR (fun b => w.heap.size ≤ b ∧ b < w'.heap.size) w' s' m ∧ Fr w w' := by
  have f0 := (Fr.alloc w (.cells #[.int .i64 s.g, .slice s.lo s.ll s.lc, .slice s.co s.cl s.cc, .slice s.no s.nl s.nc, .slice s.oo s.ol s.oc] 29)).trans (Fr.alloc _ (.cells #[.int .i64 0, .slice none 0 0, .slice none 0 0, .slice none 0 0, .slice none 0 0] 29))
  have k1 := ScK.new w s
  have k2 := ScK.new (w.alloc (.cells #[.int .i64 s.g, .slice s.lo s.ll s.lc, .slice s.co s.cl s.cc, .slice s.no s.nl s.nc, .slice s.oo s.ol s.oc] 29)) ⟨0, none, 0, 0, none, 0, 0, none, 0, 0, none, 0, 0⟩
  simp only [World.size_alloc] at k2
  have k1 := k1.fr (Fr.alloc (w.alloc (.cells #[.int .i64 s.g, .slice s.lo s.ll s.lc, .slice s.co s.cl s.cc, .slice s.no s.nl s.nc, .slice s.oo s.ol s.oc] 29)) (.cells #[.int .i64 0, .slice none 0 0, .slice none 0 0, .slice none 0 0, .slice none 0 0] 29))
  have h1 := h.fr f0
  obtain ⟨sg, lo, ll, lc, co, cl, cc, no, nl, nc, oo, ol, oc⟩ := s
  simp only at f0 k1 k2 h1 ⊢
  go_enter Tryz.func128, Tryz.ntmps128
  go_wp2_with fail
  obtain ⟨W, hW⟩ : ∃ W, W = (w.alloc (.cells #[.int .i64 sg, .slice lo ll lc, .slice co cl cc, .slice no nl nc, .slice oo ol oc] 29)).alloc (.cells #[.int .i64 0, .slice none 0 0, .slice none 0 0, .slice none 0 0, .slice none 0 0] 29) := ⟨_, rfl⟩
  rw [← hW] at f0 k1 k2 h1 ⊢
  clear hW
  obtain ⟨A, hA⟩ : ∃ A, A = w.heap.size := ⟨_, rfl⟩
  rw [← hA] at k1 k2 ⊢
  have hAW : A ≤ W.heap.size := by have := f0.size; omega
  have HA : Hid (A = w.heap.size) := hA
  clear hA
  refine wp_region_stab 15 dstC (fun X => { tmps := #[.agg #[.int .i64 sg, .slice lo ll lc, .slice co cl cc, .slice no nl nc, .slice oo ol oc], .pointer (some ⟨A, 0, none⟩), .pointer (some ⟨A + 1, 0, none⟩), X 3, undef, undef, X 6, X 7, X 8, X 9, X 10, X 11, X 12, X 13, X 14, X 15, X 16, X 17, X 18, X 19, undef, undef, undef, undef, undef, undef, undef, undef, undef, undef, undef, undef, undef, undef, undef, undef, undef, undef, undef, undef, undef, undef, undef], defers := [] }) (RC W.heap.size A ⟨sg, lo, ll, lc, co, cl, cc, no, nl, nc, oo, ol, oc⟩ m) (fun _ => undef) (by kernel_rfl) rfl ?_ RC.fr ?_ ?_ ?_ ?_
  · exact dst_of (by kernel_rfl)
  · exact lex_of (by kernel_rfl)
  · exact allR_of (by kernel_rfl)
  · intro i o X u hi ho hF hE
    have hAu : W.heap.size ≤ u.heap.size := hF.size
    have hFW : Fr W u := (Fr.drew W).trans hF
    obtain ⟨p0, p1, p2, p3, p4⟩ := (k1.fr hFW).at
    simp only at p0 p1 p2 p3 p4
    rcases i with _ | _ | _ | _ | _ | _ | _ | _ | _ | _ | _ | _ | _ | _ | _ | i
    · simp only [List.getElem?_toArray, List.getElem?_cons_zero, Option.some.injEq] at ho
      subst ho
      refine ⟨by simp [Region.wanted], ?_⟩
      go_simp
      exact ⟨_, (by simp [upd, dstC]), Fr.refl _, rfl⟩
    · simp only [List.getElem?_toArray, List.getElem?_cons_succ, List.getElem?_cons_zero, Option.some.injEq] at ho
      subst ho
      refine ⟨by simp [Region.wanted], ?_⟩
      have e0 : X 6 = .pointer (some ⟨A, 0, none⟩) := hE ⟨0, .data⟩ (by simp) rfl
      go_simp
      exact ⟨_, (by simp [upd, dstC, e0]), Fr.refl _, rfl⟩
    · simp only [List.getElem?_toArray, List.getElem?_cons_succ, List.getElem?_cons_zero, Option.some.injEq] at ho
      subst ho
      refine ⟨by simp [Region.wanted], ?_⟩
      go_simp
      exact ⟨_, (by simp [upd, dstC]), Fr.alloc _ _, ⟨u.heap.size, rfl, hAu, heap_alloc_new u _⟩⟩
    · simp only [List.getElem?_toArray, List.getElem?_cons_succ, List.getElem?_cons_zero, Option.some.injEq] at ho
      subst ho
      refine ⟨by simp [Region.wanted], ?_⟩
      go_simp
      exact ⟨_, (by simp [upd, dstC]), Fr.refl _, rfl⟩
    · simp only [List.getElem?_toArray, List.getElem?_cons_succ, List.getElem?_cons_zero, Option.some.injEq] at ho
      subst ho
      refine ⟨by simp [Region.wanted], ?_⟩
      have e3 : X 9 = .pointer (some ⟨A, 2, none⟩) := hE ⟨3, .data⟩ (by simp) rfl
      go_simp
      exact ⟨_, (by simp [upd, dstC, e3]), Fr.refl _, rfl⟩
    · simp only [List.getElem?_toArray, List.getElem?_cons_succ, List.getElem?_cons_zero, Option.some.injEq] at ho
      subst ho
      refine ⟨by simp [Region.wanted], ?_⟩
      obtain ⟨k, e2, hk, hrow⟩ : ∃ k, X 8 = .slice (some ⟨k, 0, none⟩) 0 0 ∧ W.heap.size ≤ k ∧ u.heap[k]? = some (.cells #[] layC.ty (0, 0)) := hE ⟨2, .data⟩ (by simp) rfl
      have e4 : X 10 = .slice co cl cc := hE ⟨4, .data⟩ (by simp) rfl
      refine op_append_new layC (.tmp 8) (.tmp 10) 25 _ 40 rfl Tryz.underlying25 Tryz.infoC rfl (by decide) W.heap.size k hk hrow e2 co cl cc m.cs h1.cl e4 (h1.chs.fr hFW) hAu ?_
      intro v' w' ho' hf'
      exact ⟨v', rfl, hf', ho'⟩
    · simp only [List.getElem?_toArray, List.getElem?_cons_succ, List.getElem?_cons_zero, Option.some.injEq] at ho
      subst ho
      refine ⟨by simp [Region.wanted], ?_⟩
      go_simp
      exact ⟨_, (by simp [upd, dstC]), Fr.alloc _ _, ⟨u.heap.size, rfl, hAu, heap_alloc_new u _⟩⟩
    · simp only [List.getElem?_toArray, List.getElem?_cons_succ, List.getElem?_cons_zero, Option.some.injEq] at ho
      subst ho
      refine ⟨by simp [Region.wanted], ?_⟩
      go_simp
      exact ⟨_, (by simp [upd, dstC]), Fr.refl _, rfl⟩
    · simp only [List.getElem?_toArray, List.getElem?_cons_succ, List.getElem?_cons_zero, Option.some.injEq] at ho
      subst ho
      refine ⟨by simp [Region.wanted], ?_⟩
      have e7 : X 13 = .pointer (some ⟨A, 3, none⟩) := hE ⟨7, .data⟩ (by simp) rfl
      go_simp
      exact ⟨_, (by simp [upd, dstC, e7]), Fr.refl _, rfl⟩
    · simp only [List.getElem?_toArray, List.getElem?_cons_succ, List.getElem?_cons_zero, Option.some.injEq] at ho
      subst ho
      refine ⟨by simp [Region.wanted], ?_⟩
      obtain ⟨k, e2, hk, hrow⟩ : ∃ k, X 12 = .slice (some ⟨k, 0, none⟩) 0 0 ∧ W.heap.size ≤ k ∧ u.heap[k]? = some (.cells #[] layN.ty (0, 0)) := hE ⟨6, .data⟩ (by simp) rfl
      have e4 : X 14 = .slice no nl nc := hE ⟨8, .data⟩ (by simp) rfl
      refine op_append_new layN (.tmp 12) (.tmp 14) 26 _ 16 rfl Tryz.underlying26 Tryz.infoN rfl (by decide) W.heap.size k hk hrow e2 no nl nc m.gs h1.nl e4 (h1.cts.fr hFW) hAu ?_
      intro v' w' ho' hf'
      exact ⟨v', rfl, hf', ho'⟩
    · simp only [List.getElem?_toArray, List.getElem?_cons_succ, List.getElem?_cons_zero, Option.some.injEq] at ho
      subst ho
      refine ⟨by simp [Region.wanted], ?_⟩
      go_simp
      exact ⟨_, (by simp [upd, dstC]), Fr.refl _, rfl⟩
    · simp only [List.getElem?_toArray, List.getElem?_cons_succ, List.getElem?_cons_zero, Option.some.injEq] at ho
      subst ho
      refine ⟨by simp [Region.wanted], ?_⟩
      have e10 : X 16 = .pointer (some ⟨A, 4, none⟩) := hE ⟨10, .data⟩ (by simp) rfl
      go_simp
      exact ⟨_, (by simp [upd, dstC, e10]), Fr.refl _, rfl⟩
    · simp only [List.getElem?_toArray, List.getElem?_cons_succ, List.getElem?_cons_zero, Option.some.injEq] at ho
      subst ho
      refine ⟨by simp [Region.wanted], ?_⟩
      have e4 : X 17 = .slice oo ol oc := hE ⟨11, .data⟩ (by simp) rfl
      have cY := l1Copy_any oo ol oc m.os u h1.ol.symm h1.zo (h1.ons.fr hFW)
      go_simp
      refine cY.mono ?_
      rintro x w'' ⟨v, rfl, ho', hf'⟩
      exact ⟨v, (by simp [upd, dstC, e4]), hf', ho'.lower hAu⟩
    · simp only [List.getElem?_toArray, List.getElem?_cons_succ, List.getElem?_cons_zero, Option.some.injEq] at ho
      subst ho
      refine ⟨by simp [Region.wanted], ?_⟩
      have e1 : X 7 = .int .i64 sg := hE ⟨1, .data⟩ (by simp) rfl
      have q1 : OwnG layC u W.heap.size (X 11) m.cs := hE ⟨5, .data⟩ (by simp) rfl
      have q2 : OwnG layN u W.heap.size (X 15) m.gs := hE ⟨9, .data⟩ (by simp) rfl
      have q3 : OwnS u W.heap.size (X 18) m.os := hE ⟨12, .data⟩ (by simp) rfl
      obtain ⟨g1, c1, x1, -⟩ := id q1
      obtain ⟨g2, c2, x2, -⟩ := id q2
      obtain ⟨g3, c3, x3, -⟩ := id q3
      rw [x1] at q1
      rw [x2] at q2
      rw [x3] at q3
      go_simp
      exact ⟨_, (by simp only [upd, dstC, e1, x1, x2, x3]; simp), Fr.refl _, ⟨_, _, _, rfl, q1, q2, q3⟩⟩
    · simp only [List.getElem?_toArray, List.getElem?_cons_succ, List.getElem?_cons_zero, Option.some.injEq] at ho
      subst ho
      refine ⟨by simp [Region.wanted], ?_⟩
      go_simp
      exact ⟨_, (by simp [upd, dstC]), Fr.alloc _ _, ⟨u.heap.size, rfl, hAu, heap_alloc_new u _⟩⟩
    · omega
  · intro o X u ho hF hX
    simp only [List.getElem?_toArray, List.getElem?_cons_succ, List.getElem?_cons_zero, Option.some.injEq] at ho
    subst ho
    have hFW : Fr W u := (Fr.drew W).trans hF
    obtain ⟨v1, v2, v3, e19, q1, q2, q3⟩ : ∃ v1 v2 v3, X 19 = .agg #[.int .i64 sg, .slice none 0 0, v1, v2, v3] ∧ OwnG layC u W.heap.size v1 m.cs ∧ OwnG layN u W.heap.size v2 m.gs ∧ OwnS u W.heap.size v3 m.os := hX 13 (by omega)
    obtain ⟨k, e3, hk, hK⟩ : ∃ k, X 3 = .pointer (some ⟨k, 0, none⟩) ∧ W.heap.size ≤ k ∧ ScK u k ⟨0, none, 0, 0, none, 0, 0, none, 0, 0, none, 0, 0⟩ := hX 14 (by omega)
    obtain ⟨g1, c1, rfl, o1, l1⟩ := q1
    obtain ⟨g2, c2, rfl, o2, l2⟩ := q2
    obtain ⟨g3, c3, rfl, o3⟩ := q3
    have ne1 : g1 ≠ k := by obtain ⟨cur, hc⟩ := own_rowC o1; exact rows_neC hc hK (by decide)
    have ne2 : g2 ≠ k := by obtain ⟨cur, hc⟩ := own_rowC o2; exact rows_neC hc hK (by decide)
    have ne3 : g3 ≠ k := by obtain ⟨cur, hc⟩ := own_rowC o3.1; exact rows_neC hc hK (by decide)
    obtain ⟨j0, j1, j2, j3, j4⟩ := hK.at
    simp only at j0 j1 j2 j3 j4
    have jf := fun i => hK.free i
    clear hX
    refine ⟨by simp [Region.wanted], ?_⟩
    go_simp
    have kU := put5 u k (.int .i64 sg) (.slice none 0 0) (.slice (some ⟨g1, 0, none⟩) m.cs.length c1) (.slice (some ⟨g2, 0, none⟩) m.gs.length c2) (.slice (some ⟨g3, 0, none⟩) m.os.length c3)
    have kO : ScK (((((u.setCell ⟨k, 0, none⟩ (.int .i64 sg)).setCell ⟨k, 1, none⟩ (.slice none 0 0)).setCell ⟨k, 2, none⟩ (.slice (some ⟨g1, 0, none⟩) m.cs.length c1)).setCell ⟨k, 3, none⟩ (.slice (some ⟨g2, 0, none⟩) m.gs.length c2)).setCell ⟨k, 4, none⟩ (.slice (some ⟨g3, 0, none⟩) m.os.length c3)) k ⟨sg, none, 0, 0, some ⟨g1, 0, none⟩, m.cs.length, c1, some ⟨g2, 0, none⟩, m.gs.length, c2, some ⟨g3, 0, none⟩, m.os.length, c3⟩ := by
      have e0 := heap_setCell_same u k 0 _ _ (.int .i64 sg) hK
      have e1 := heap_setCell_same _ k 1 _ _ (.slice none 0 0) e0
      have e2 := heap_setCell_same _ k 2 _ _ (.slice (some ⟨g1, 0, none⟩) m.cs.length c1) e1
      have e3 := heap_setCell_same _ k 3 _ _ (.slice (some ⟨g2, 0, none⟩) m.gs.length c2) e2
      exact heap_setCell_same _ k 4 _ _ (.slice (some ⟨g3, 0, none⟩) m.os.length c3) e3
    obtain ⟨U, hU⟩ : ∃ U, U = (((((u.setCell ⟨k, 0, none⟩ (.int .i64 sg)).setCell ⟨k, 1, none⟩ (.slice none 0 0)).setCell ⟨k, 2, none⟩ (.slice (some ⟨g1, 0, none⟩) m.cs.length c1)).setCell ⟨k, 3, none⟩ (.slice (some ⟨g2, 0, none⟩) m.gs.length c2)).setCell ⟨k, 4, none⟩ (.slice (some ⟨g3, 0, none⟩) m.os.length c3)) := ⟨_, rfl⟩
    rw [← hU] at kU kO ⊢
    clear hU
    have FU : Fr W U := hFW.then kU (one_blk hk)
    have o1 := o1.kept kU (.inr (by simp only [Value.ownBlock, ne_eq, Option.some.injEq]; exact ne1))
    have o2 := o2.kept kU (.inr (by simp only [Value.ownBlock, ne_eq, Option.some.injEq]; exact ne2))
    have o3 := o3.keep kU (.inr (by simp only [Value.ownBlock, ne_eq, Option.some.injEq]; exact ne3))
    have b1 := o1.lt g1 rfl
    have b2 := o2.lt g2 rfl
    have b3 := o3.1.lt g3 rfl
    have bk := kO.lt
    have aW : A + 1 < W.heap.size := k2.lt
    clear kU hK j0 j1 j2 j3 j4 jf hFW hF
    obtain ⟨lvs, rL, eL, LL⟩ := h1.lks
    simp only at rL eL
    subst eL
    have hlen := LL.len
    have hsl := h1.sl
    have HR : Hid (ScR B W ⟨sg, lo, lvs.length, lc, co, cl, cc, no, nl, nc, oo, ol, oc⟩ m) := h1
    have HO : Hid (∀ wr, U.grownBy wr (some k) → ReadsG layC wr (some ⟨g1, 0, none⟩) m.cs ∧ ReadsG layN wr (some ⟨g2, 0, none⟩) m.gs ∧ Reads wr (some ⟨g3, 0, none⟩) m.os) := fun wr f => ⟨(own_readsG o1 l1).keep f (.inr (by simp only [blk, Option.map_some, ne_eq, Option.some.injEq]; exact ne1)), (own_readsG o2 l2).keep f (.inr (by simp only [blk, Option.map_some, ne_eq, Option.some.injEq]; exact ne2)), o3.reads.keep f (.inr (by simp only [blk, Option.map_some, ne_eq, Option.some.injEq]; exact ne3))⟩
    have HK1 : Hid (∀ wr, Fr W wr → ScK wr A ⟨sg, lo, lvs.length, lc, co, cl, cc, no, nl, nc, oo, ol, oc⟩ ∧ ScK wr (A + 1) ⟨0, none, 0, 0, none, 0, 0, none, 0, 0, none, 0, 0⟩) := fun wr f => ⟨k1.fr f, k2.fr f⟩
    clear o1 o2 o3 l1 l2 k1 k2 h1 h e19 e3
    have HLEN : Hid (lvs.length = m.ls.length) := hlen
    have hsl2 : lvs.length ≤ 1048576 := by omega
    clear hlen hsl
    go_wp2_with fail
    go_loopw [4] (fun i wr => ∃ (j : Nat) (lo' : Option Addr) (ll' lc' : Nat) (ys : List Lv), j ≤ lvs.length ∧ i = .int .i64 j ∧ ll' = ys.length ∧ U.grownBy wr (some k) ∧ ScK wr k ⟨sg, lo', ll', lc', some ⟨g1, 0, none⟩, m.cs.length, c1, some ⟨g2, 0, none⟩, m.gs.length, c2, some ⟨g3, 0, none⟩, m.os.length, c3⟩ ∧ Hid (wr.ownsRow U.heap.size layL.ty layL.sz (.slice lo' ll' lc') ys.length (ys.flatMap layL.cs)) ∧ Hid (LksR (fun b => (U.heap.size ≤ b ∧ b < wr.heap.size) ∧ some b ≠ blk lo') wr ys (m.ls.take j))) (fun i _ => lvs.length - (intOf i).toNat)
    case atStart => exact ⟨0, none, 0, 0, [], Nat.zero_le _, rfl, rfl, grown_refl U _, kO, World.ownsRow_nil U _ _ _, LksR.nil _ _⟩
    case round =>
      obtain ⟨j, lo', ll', lc', ys, hj, rfl, rfl, hg, kr, HW, HL⟩ := hrel
      have hFr : Fr W wr := FU.then hg (one_blk hk)
      obtain ⟨ks, kz⟩ := HK1.out wr hFr
      obtain ⟨s0, s1, s2, s3, s4⟩ := ks.at
      simp only at s0 s1 s2 s3 s4
      obtain ⟨t0, t1, t2, t3, t4⟩ := kr.at
      simp only at t0 t1 t2 t3 t4
      have hzU := hg.size
      by_cases hlt : j < lvs.length
      · have hjl : j < m.ls.length := by have := HLEN.out; omega
        obtain ⟨eb, off, rfl, d0, d1, d2⟩ := lv_at (rL.fr hFr) j hlt
        have hLk := (LL.at_ j hlt hjl).fr hFr
        have HT : Hid (m.ls.take (j + 1) = m.ls.take j ++ [m.ls[j]]) := List.take_succ_eq_append_getElem hjl
        have hi : (j : Int) < lvs.length := by omega
        have hyl : ys.length = (m.ls.take j).length := HL.out.len
        have hyj : ys.length = j := by rw [hyl]; simp; omega
        have HYJ : Hid (ys.length = j) := hyj
        have hyb : ys.length ≤ 1048576 := by omega
        clear hyl hyj
        obtain ⟨lv, hlv⟩ : ∃ lv, lv = lvs[j] := ⟨_, rfl⟩
        obtain ⟨l, hl⟩ : ∃ l, l = m.ls[j] := ⟨_, rfl⟩
        rw [← hlv] at d0 d1 d2 hLk
        rw [← hl] at HT hLk
        clear hlv hl
        have cY := fun u (f : Fr wr u) => l1Copy_any lv.ro lv.rn lv.rc l.rd u hLk.rn.symm hLk.rc (hLk.rd.fr f)
        have fA := Fr.alloc wr (.cells #[.int .i64 lv.o, .int .i64 lv.wr, .slice lv.ro lv.rn lv.rc] 86)
        have kA : LvK (wr.alloc (.cells #[.int .i64 lv.o, .int .i64 lv.wr, .slice lv.ro lv.rn lv.rc] 86)) wr.heap.size lv := heap_alloc_new wr _
        have HLk : Hid (LkR B wr lv l) := hLk
        clear hLk
        obtain ⟨vo, vw, vr, vn, vc⟩ := lv
        simp only at d0 d1 d2 cY fA kA
        go_wp2_with fail
        refine (cY _ fA).mono ?_
        rintro x u2 ⟨v2, rfl, ov, f2⟩
        obtain ⟨gr, cr, rfl, ov⟩ := ov
        have hor := own_lt ov
        have kA2 := kA.keep f2 (by simp)
        obtain ⟨y0, y1, y2⟩ := kA2.at
        simp only at y0 y1 y2
        have yf := fun i => kA2.free i
        have F2 := fA.trans f2
        have kr2 := kr.fr F2
        obtain ⟨t0, t1, t2, t3, t4⟩ := kr2.at
        simp only at t0 t1 t2 t3 t4
        have tf := fun i => kr2.free i
        obtain ⟨kb, hkb⟩ : ∃ kb, kb = wr.heap.size := ⟨_, rfl⟩
        simp only [← hkb] at kA2 y0 y1 y2 yf ⊢
        have HKB : Hid (kb = wr.heap.size) := hkb
        have hs2 : kb + 1 ≤ u2.heap.size := by have := f2.size; simp at this; omega
        have hkk : ¬ k = kb := by omega
        have hkk2 : ¬ kb = k := by omega
        have hgr : kb + 1 ≤ gr ∧ gr < u2.heap.size := by have := hor; simp at this; omega
        have hUk : U.heap.size ≤ kb := by omega
        have kA3 := kA2.setR (some ⟨gr, 0, none⟩) l.rd.length cr
        simp only at kA3
        have hn3 : (u2.setCell ⟨kb, 2, none⟩ (.slice (some ⟨gr, 0, none⟩) l.rd.length cr)).heap.size = u2.heap.size := by simp
        have k3 := grown_set u2 kb 2 (.slice (some ⟨gr, 0, none⟩) l.rd.length cr)
        have k4 := Fr.alloc (u2.setCell ⟨kb, 2, none⟩ (.slice (some ⟨gr, 0, none⟩) l.rd.length cr)) (.cells #[.int .i64 vo, .int .i64 vw, .slice (some ⟨gr, 0, none⟩) l.rd.length cr] 86)
        have hob := HW.out.lt
        have HWN : Hid (((u2.setCell ⟨kb, 2, none⟩ (.slice (some ⟨gr, 0, none⟩) l.rd.length cr)).alloc (.cells #[.int .i64 vo, .int .i64 vw, .slice (some ⟨gr, 0, none⟩) l.rd.length cr] 86)).ownsRow U.heap.size layL.ty layL.sz (.slice lo' ys.length lc') ys.length (ys.flatMap layL.cs)) :=
          own_frG ((own_frG HW.out F2).kept k3 (.inr (fun q => by have := (hob kb q).2; omega))) k4
        have HNE : Hid (∀ q, q < layL.sz → ((u2.setCell ⟨kb, 2, none⟩ (.slice (some ⟨gr, 0, none⟩) l.rd.length cr)).alloc (.cells #[.int .i64 vo, .int .i64 vw, .slice (some ⟨gr, 0, none⟩) l.rd.length cr] 86)).cell? ⟨u2.heap.size, q, none⟩ = (layL.cs ⟨vo, vw, some ⟨gr, 0, none⟩, l.rd.length, cr⟩)[q]?) := by
          have e := heap_alloc_new (u2.setCell ⟨kb, 2, none⟩ (.slice (some ⟨gr, 0, none⟩) l.rd.length cr)) (.cells #[.int .i64 vo, .int .i64 vw, .slice (some ⟨gr, 0, none⟩) l.rd.length cr] 86)
          rw [hn3] at e
          exact newL3 (l := ⟨vo, vw, some ⟨gr, 0, none⟩, l.rd.length, cr⟩) e
        have HK3 : Hid (ScK ((u2.setCell ⟨kb, 2, none⟩ (.slice (some ⟨gr, 0, none⟩) l.rd.length cr)).alloc (.cells #[.int .i64 vo, .int .i64 vw, .slice (some ⟨gr, 0, none⟩) l.rd.length cr] 86)) k ⟨sg, lo', ys.length, lc', some ⟨g1, 0, none⟩, m.cs.length, c1, some ⟨g2, 0, none⟩, m.gs.length, c2, some ⟨g3, 0, none⟩, m.os.length, c3⟩) := (kr2.keep k3 (by simp only [ne_eq, Option.some.injEq]; omega)).fr k4
        have HG3 : Hid (U.grownBy ((u2.setCell ⟨kb, 2, none⟩ (.slice (some ⟨gr, 0, none⟩) l.rd.length cr)).alloc (.cells #[.int .i64 vo, .int .i64 vw, .slice (some ⟨gr, 0, none⟩) l.rd.length cr] 86)) (some k)) :=
          grown_then (grown_then (grown_then hg F2 (by simp)) k3 (fun j hj => by simp only [Option.some.injEq] at hj; left; omega)) k4 (by simp)
        have HL3 : Hid (LksR (fun b => (U.heap.size ≤ b ∧ b < wr.heap.size) ∧ some b ≠ blk lo') ((u2.setCell ⟨kb, 2, none⟩ (.slice (some ⟨gr, 0, none⟩) l.rd.length cr)).alloc (.cells #[.int .i64 vo, .int .i64 vw, .slice (some ⟨gr, 0, none⟩) l.rd.length cr] 86)) ys (m.ls.take j)) :=
          ((HL.out.fr F2).keep k3 (fun j hj q => by simp only [Option.some.injEq] at hj; omega)).fr k4
        have HOV : Hid (Reads ((u2.setCell ⟨kb, 2, none⟩ (.slice (some ⟨gr, 0, none⟩) l.rd.length cr)).alloc (.cells #[.int .i64 vo, .int .i64 vw, .slice (some ⟨gr, 0, none⟩) l.rd.length cr] 86)) (some ⟨gr, 0, none⟩) l.rd) :=
          (ov.reads.keep k3 (.inr (by simp only [blk, Option.map_some, ne_eq, Option.some.injEq]; omega))).fr k4
        have HS4 : Hid (((u2.setCell ⟨kb, 2, none⟩ (.slice (some ⟨gr, 0, none⟩) l.rd.length cr)).alloc (.cells #[.int .i64 vo, .int .i64 vw, .slice (some ⟨gr, 0, none⟩) l.rd.length cr] 86)).heap.size = u2.heap.size + 1) := by simp [Hid]
        have hbU : U.heap.size ≤ u2.heap.size + 1 := by omega
        clear kA kA2 kA3 k3 k4 F2 f2 fA hn3 hor kr kr2 ov hkb
        go_wp2_with (at_builtin; refine appGN layL _ rfl _ _ 24 _ 40 rfl Tryz.underlying24 Tryz.infoL rfl (by decide) U.heap.size (.slice lo' ys.length lc') ys ⟨vo, vw, some ⟨gr, 0, none⟩, l.rd.length, cr⟩ rfl HWN.out u2.heap.size 1 rfl HNE.out (by omega) (by rw [HS4.out]; exact hbU) ?_; intro g5 c5 w5 hv5 hg5 hat5; have kr5 := ScK.keep HK3.out hg5 (fun q => by have := (hob k q).1; omega); obtain ⟨r0, r1, r2, r3, r4⟩ := kr5.at; have rf := fun i => kr5.free i; simp only at r0 r1 r2 r3 r4)
        have hl1 : (ys ++ [(⟨vo, vw, some ⟨gr, 0, none⟩, l.rd.length, cr⟩ : Lv)]).length = ys.length + 1 := by simp
        have hg5k : g5 ≠ k := by have := (hv5.lt g5 rfl).1; omega
        rw [hl1] at hv5
        have k6 := grown_set w5 k 1 (.slice (some ⟨g5, 0, none⟩) (ys.length + 1) c5)
        have hs5 := hg5.size
        rw [HS4.out] at hs5
        have hs6 := k6.size
        have HKB2 := HKB.out
        have hbo : ∀ b, some b = (Value.slice lo' ys.length lc').ownBlock → some b = blk lo' := fun b q => by
          cases lo' with
          | none => simp [Value.ownBlock] at q
          | some a => simpa [Value.ownBlock, blk] using q
        have hg5n : ∀ b, b < u2.heap.size + 1 → some b ≠ blk lo' → b ≠ g5 := fun b hb hn q => by
          subst q
          rcases hat5 with q2 | q2
          · exact hn (hbo _ q2)
          · rw [HS4.out] at q2; omega
        have hgl : some gr ≠ blk lo' := fun q => by
          have q2 : (Value.slice lo' ys.length lc').ownBlock = some gr := by
            cases lo' with
            | none => simp [blk] at q
            | some a => simpa [Value.ownBlock, blk] using q.symm
          have := (hob gr q2).2
          omega
        go_roundw
        case rel =>
          refine ⟨j + 1, some ⟨g5, 0, none⟩, ys.length + 1, c5, ys ++ [⟨vo, vw, some ⟨gr, 0, none⟩, l.rd.length, cr⟩], by omega, by go_num, hl1.symm, ?_, ?_, ?_, ?_⟩
          · exact grown_then (grown_then HG3.out hg5 (fun j hj => .inl (hob j hj).1)) k6 (fun j hj => by simp only [Option.some.injEq] at hj; right; omega)
          · exact heap_setCell_same w5 k 1 _ _ (.slice (some ⟨g5, 0, none⟩) (ys.length + 1) c5) kr5
          · show World.ownsRow _ _ _ _ _ _ _
            rw [hl1]
            exact hv5.kept k6 (.inr (by simp only [Value.ownBlock, ne_eq, Option.some.injEq]; exact hg5k))
          · show LksR _ _ _ _
            rw [HT.out]
            refine LksR.snoc ?_ ?_
            · refine ((HL3.out.keep hg5 (fun j hj q => q.2 (hbo j hj.symm))).keep k6 (fun j hj q => by simp only [Option.some.injEq] at hj; omega)).mono (fun b q => ⟨⟨q.1.1, by omega⟩, fun q2 => ?_⟩)
              simp only [blk, Option.map_some, Option.some.injEq] at q2
              exact hg5n b (by omega) q.2 q2
            · have hLk := HLk.out
              refine ⟨hLk.o, hLk.wr, rfl, ?_, ?_, by simp, hLk.sz, hLk.io, hLk.iw⟩
              · refine (HOV.out.keep hg5 (.inr (fun q => hgl (hbo gr q)))).keep k6 (.inr (by simp only [blk, Option.map_some, ne_eq, Option.some.injEq]; omega))
              · intro b q
                simp only [blk, Option.map_some, Option.some.injEq] at q
                subst q
                refine ⟨⟨by omega, by omega⟩, fun q2 => ?_⟩
                simp only [blk, Option.map_some, Option.some.injEq] at q2
                exact hg5n gr (by omega) hgl q2
        case measure => simp [intOf]; omega
      · have hje : j = lvs.length := by omega
        have HTJ : Hid (m.ls.take j = m.ls) := List.take_of_length_le (by have := HLEN.out; omega)
        have hyl : ys.length = (m.ls.take j).length := HL.out.len
        have hyb : ys.length ≤ 16777216 := by rw [hyl]; simp; omega
        obtain ⟨z0, z1, z2, z3, z4⟩ := kz.at
        simp only at z0 z1 z2 z3 z4
        have zf := fun i => kz.free i
        have HF : Hid (ScR (fun b => W.heap.size ≤ b ∧ b < wr.heap.size) wr ⟨sg, lo', ys.length, lc', some ⟨g1, 0, none⟩, m.cs.length, c1, some ⟨g2, 0, none⟩, m.gs.length, c2, some ⟨g3, 0, none⟩, m.os.length, c3⟩ m) := by
          have hr := HR.out
          obtain ⟨r1, r2, r3⟩ := HO.out wr hg
          have hLL := HL.out
          rw [HTJ.out] at hLL
          have hWU := FU.size
          exact { g := hr.g, ig := hr.ig, lks := ⟨ys, own_readsN HW.out hyb, rfl, hLL.mono (fun b q => ⟨by omega, q.1.2⟩)⟩, chs := r1, cl := rfl, cts := r2, nl := rfl, ons := r3, ol := rfl
                  bl := fun b q => by
                    have q2 : (Value.slice lo' ys.length lc').ownBlock = some b := by
                      cases lo' with
                      | none => simp [blk] at q
                      | some a => simpa [Value.ownBlock, blk] using q
                    have := HW.out.lt b q2
                    exact ⟨by omega, this.2⟩
                  bc := fun b q => by simp only [blk, Option.map_some, Option.some.injEq] at q; omega
                  bn := fun b q => by simp only [blk, Option.map_some, Option.some.injEq] at q; omega
                  bo := fun b q => by simp only [blk, Option.map_some, Option.some.injEq] at q; omega
                  zo := fun q => by simp at q
                  sl := hr.sl, sc := hr.sc, sn := hr.sn, so := hr.so, ic := hr.ic, inn := hr.inn }
        clear hyl HW HL hje
        go_wp2_with fail
        have kf := put5 wr (A + 1) (.int .i64 sg) (.slice lo' ys.length lc') (.slice (some ⟨g1, 0, none⟩) m.cs.length c1) (.slice (some ⟨g2, 0, none⟩) m.gs.length c2) (.slice (some ⟨g3, 0, none⟩) m.os.length c3)
        refine bodyPost_ret (v := .agg #[.int .i64 sg, .slice lo' ys.length lc', .slice (some ⟨g1, 0, none⟩) m.cs.length c1, .slice (some ⟨g2, 0, none⟩) m.gs.length c2, .slice (some ⟨g3, 0, none⟩) m.os.length c3]) (by simp [results, Tryz.results128, go_sem, z0, z1, z2, z3, z4]) rfl ⟨⟨sg, lo', ys.length, lc', some ⟨g1, 0, none⟩, m.cs.length, c1, some ⟨g2, 0, none⟩, m.gs.length, c2, some ⟨g3, 0, none⟩, m.os.length, c3⟩, rfl, ?_, ?_⟩
        · have hA := HA.out
          have hks := kf.size
          exact (HF.out.keep kf (fun j hj q => by simp only [Option.some.injEq] at hj; omega)).mono (fun b q => ⟨by omega, by omega⟩)
        · have hA := HA.out
          exact (f0.trans hFr).then kf (fun j hj => by simp only [Option.some.injEq] at hj; omega)
end Go.Proofs.YtcofhmikdkkigaaGreatDoor
namespace Go.Proofs.YtcofhmikdkkigaaGreatDoor
open Go.RowKit

def doneS (m : Scn) (e : Ev) : Scn := if scB m = true then stepS m e else ⟨0, [], [], [], []⟩
theorem scR_zero (B : Nat → Prop) (w : World) : ScR B w ⟨0, none, 0, 0, none, 0, 0, none, 0, 0, none, 0, 0⟩ ⟨0, [], [], [], []⟩ where
  g := rfl
  ig := ⟨by decide, by decide⟩
  lks := ⟨[], ReadsG.nil _ _ _, rfl, LksR.nil _ _⟩
  chs := ReadsG.nil _ _ _
  cl := rfl
  cts := ReadsG.nil _ _ _
  nl := rfl
  ons := Reads.nil _ _
  ol := rfl
  bl := inB_none _
  bc := inB_none _
  bn := inB_none _
  bo := inB_none _
  zo _ := rfl
  sl := by simp
  sc := by simp
  sn := by simp
  so := by simp
  ic c hc := by simp at hc
  inn c hc := by simp at hc
def aftS (es : List Ev) : Scn := if 300 < es.length then ⟨0, [], [], [], []⟩ else (legS scn0 es).1
def aftB (es : List Ev) : Bool := if 300 < es.length then false else decide ((legS scn0 es).2.2 = 0)
end Go.Proofs.YtcofhmikdkkigaaGreatDoor
namespace Go.Proofs.YtcofhmikdkkigaaGreatDoor
open Go.RowKit

theorem done_no {m : Scn} {e : Ev} (h : scB m = true) (hc : codeIn m e ≠ 0) : doneS m e = m := by
  rw [doneS, if_pos h, stepS, if_neg hc]
theorem done_yes {m : Scn} {e : Ev} (h : scB m = true) (hc : codeIn m e = 0) : doneS m e = doS m e := by
  rw [doneS, if_pos h, stepS, if_pos hc]

set_option maxRecDepth 20000 in
set_option maxHeartbeats 4000000 in
theorem specDone_any {B : Nat → Prop} (s : Sv) (m : Scn) (e : Ev) (w : World) (h : ScR B w s m) :
    Calls Tryz.prog 73 #[.agg #[.int .i64 s.g, .slice s.lo s.ll s.lc, .slice s.co s.cl s.cc, .slice s.no s.nl s.nc, .slice s.oo s.ol s.oc], .agg #[.int .i64 e.k, .int .i64 e.g, .int .i64 e.o, .int .i64 e.w, .int .i64 e.l, .int .i64 e.s, .int .i64 e.f, .int .i64 e.t]] w fun x w' => ∃ s' : Sv, x = .returned (.tuple #[.agg #[.int .i64 s'.g, .slice s'.lo s'.ll s'.lc, .slice s'.co s'.cl s'.cc, .slice s'.no s'.nl s'.nc, .slice s'.oo s'.ol s'.oc], .int .i64 (codeIn m e)]) ∧ ScR (fun x => w.heap.size ≤ x ∧ x < w'.heap.size) w' s' (doneS m e) ∧ Fr w w' := by
  obtain ⟨k1, k2, fW, hz⟩ := box2 w s e
  have fR := Fr.alloc ((w.alloc (.cells #[.int .i64 s.g, .slice s.lo s.ll s.lc, .slice s.co s.cl s.cc, .slice s.no s.nl s.nc, .slice s.oo s.ol s.oc] 29)).alloc (.cells #[.int .i64 e.k, .int .i64 e.g, .int .i64 e.o, .int .i64 e.w, .int .i64 e.l, .int .i64 e.s, .int .i64 e.f, .int .i64 e.t] 31)) (.cells #[.int .i64 0, .slice none 0 0, .slice none 0 0, .slice none 0 0, .slice none 0 0] 29)
  have k3 := ScK.new ((w.alloc (.cells #[.int .i64 s.g, .slice s.lo s.ll s.lc, .slice s.co s.cl s.cc, .slice s.no s.nl s.nc, .slice s.oo s.ol s.oc] 29)).alloc (.cells #[.int .i64 e.k, .int .i64 e.g, .int .i64 e.o, .int .i64 e.w, .int .i64 e.l, .int .i64 e.s, .int .i64 e.f, .int .i64 e.t] 31)) ⟨0, none, 0, 0, none, 0, 0, none, 0, 0, none, 0, 0⟩
  rw [hz] at k3
  have k1 := k1.fr fR
  have k2 := k2.keep fR (by simp)
  have fW := fW.trans fR
  have cS := fun u (f : Fr w u) => sceneOk_any s m u (h.fr f)
  have cC := fun u (f : Fr w u) => codeIn_all s m e u (h.fr f)
  have cY := fun u (f : Fr w u) => l4Copy_any s m u (h.fr f)
  have cD := fun (q : codeIn m e = 0) (s' : Sv) (lo hi : Nat) u (hS : ScR (fun b => lo ≤ b ∧ b < hi) u s' m) (hh : hi ≤ u.heap.size) => l4Do_any s' m e u (code_parts q).2.1 (code_parts q).1 (fun b hb => Nat.lt_of_lt_of_le hb.2 hh) hS
  have HZ : Hid (scB m = false → codeIn m e = 1 ∧ doneS m e = ⟨0, [], [], [], []⟩) := fun q => ⟨by simp [codeIn, q], by simp [doneS, q]⟩
  have HN : Hid (scB m = true → codeIn m e ≠ 0 → doneS m e = m) := fun q q2 => done_no q q2
  have HY : Hid (scB m = true → codeIn m e = 0 → doneS m e = doS m e) := fun q q2 => done_yes q q2
  clear h fR hz
  obtain ⟨C, hC⟩ : ∃ C, C = codeIn m e := ⟨_, rfl⟩
  obtain ⟨D, hD⟩ : ∃ C, C = doneS m e := ⟨_, rfl⟩
  obtain ⟨S, hS⟩ : ∃ C, C = doS m e := ⟨_, rfl⟩
  obtain ⟨SO, hSO⟩ : ∃ S, S = scB m := ⟨_, rfl⟩
  simp only [← hC] at cC cD
  simp only [← hS] at cD
  rw [← hC, ← hD] at HZ ⊢
  rw [← hC, ← hD] at HN HY
  rw [← hS] at HY
  simp only [← hSO] at cS HZ HN HY
  clear hC hD hS hSO
  obtain ⟨k, gr, o, wi, l, sz, f, t⟩ := e
  obtain ⟨sg, lo, ll, lc, co, cl, cc, no, nl, nc, oo, ol, oc⟩ := s
  simp only at k1 k2 k3 fW cS cC cY cD ⊢
  go_enter Tryz.func73, Tryz.ntmps73
  go_wp2_with fail
  obtain ⟨W, hW⟩ : ∃ W, W = ((w.alloc (.cells #[.int .i64 sg, .slice lo ll lc, .slice co cl cc, .slice no nl nc, .slice oo ol oc] 29)).alloc (.cells #[.int .i64 k, .int .i64 gr, .int .i64 o, .int .i64 wi, .int .i64 l, .int .i64 sz, .int .i64 f, .int .i64 t] 31)).alloc (.cells #[.int .i64 0, .slice none 0 0, .slice none 0 0, .slice none 0 0, .slice none 0 0] 29) := ⟨_, rfl⟩
  rw [← hW] at k1 k2 k3 fW ⊢
  clear hW
  obtain ⟨A, hA⟩ : ∃ A, A = w.heap.size := ⟨_, rfl⟩
  rw [← hA] at k1 k2 k3 ⊢
  have HA : Hid (A = w.heap.size) := hA
  clear hA
  have HQ : Hid (∀ u, Fr W u → ScB u A ⟨sg, lo, ll, lc, co, cl, cc, no, nl, nc, oo, ol, oc⟩ ∧ EvAt u (A + 1) ⟨k, gr, o, wi, l, sz, f, t⟩ ∧ ScK u (A + 2) ⟨0, none, 0, 0, none, 0, 0, none, 0, 0, none, 0, 0⟩) := fun u f => ⟨(k1.fr f).at, (k2.keep f (by simp)).at, k3.fr f⟩
  clear k1 k2 k3
  have hAl : A + 2 < W.heap.size := (HQ.out W (Fr.refl W)).2.2.lt
  refine (cS W fW).mono ?_
  rintro x u1 ⟨rfl, f1⟩
  clear cS
  obtain ⟨⟨s0, s1, s2, s3, s4⟩, ⟨c0, c1, c2, c3, c4, c5, c6, c7⟩, kr⟩ := HQ.out u1 f1
  simp only at s0 s1 s2 s3 s4 c0 c1 c2 c3 c4 c5 c6 c7
  cases SO
  · obtain ⟨rfl, rfl⟩ := HZ.out rfl
    obtain ⟨j0, j1, j2, j3, j4⟩ := kr.at
    simp only at j0 j1 j2 j3 j4
    have jf := fun i => kr.free i
    clear cC cY cD HN HY
    go_wp2_with fail
    have k5 := put5 u1 (A + 2) (.int .i64 0) (.slice none 0 0) (.slice none 0 0) (.slice none 0 0) (.slice none 0 0)
    refine bodyPost_ret (v := .tuple #[.agg #[.int .i64 0, .slice none 0 0, .slice none 0 0, .slice none 0 0, .slice none 0 0], .int .i64 1]) (by simp [results, Tryz.results73, go_sem, j0, j1, j2, j3, j4]) rfl ⟨⟨0, none, 0, 0, none, 0, 0, none, 0, 0, none, 0, 0⟩, rfl, scR_zero _ _, (fW.trans f1).then k5 (fun j hj => by simp only [Option.some.injEq] at hj; have := HA.out; omega)⟩
  · have HN2 : C ≠ 0 → D = m := HN.out rfl
    have HY2 : C = 0 → D = S := HY.out rfl
    clear HN HY
    have HN : Hid (C ≠ 0 → D = m) := HN2
    have HY : Hid (C = 0 → D = S) := HY2
    clear HN2 HY2
    clear HZ kr
    go_wp2_with fail
    refine (cC u1 (fW.trans f1)).mono ?_
    rintro x u2 ⟨rfl, f2⟩
    have G2 := f1.trans f2
    clear cC s0 s1 s2 s3 s4 c0 c1 c2 c3 c4 c5 c6 c7
    obtain ⟨⟨s0, s1, s2, s3, s4⟩, ⟨c0, c1, c2, c3, c4, c5, c6, c7⟩, -⟩ := HQ.out u2 G2
    simp only at s0 s1 s2 s3 s4 c0 c1 c2 c3 c4 c5 c6 c7
    by_cases hC0 : C = 0
    · have hcb : (C != 0) = false := by simp [hC0]
      have HD : Hid (D = S) := HY.out hC0
      have cD := cD hC0
      have HC0 : Hid (C = 0) := hC0
      clear hC0 HN HY
      have gd := G2.trans (Fr.drew u2)
      have hn1 : ¬ A = A + 1 + 1 := by omega
      have hn2 : ¬ A + 1 + 1 = A := by omega
      have hn3 : ¬ A = A + 2 := by omega
      have hn4 : ¬ A + 2 = A := by omega
      go_wp2_with fail
      go_region_held3 (fun u => (u.cell? ⟨A, 0, none⟩ = some (.int .i64 sg) ∧ u.cell? ⟨A, 1, none⟩ = some (.slice lo ll lc) ∧ u.cell? ⟨A, 2, none⟩ = some (.slice co cl cc) ∧ u.cell? ⟨A, 3, none⟩ = some (.slice no nl nc) ∧ u.cell? ⟨A, 4, none⟩ = some (.slice oo ol oc)) ∧ u.cell? ⟨A + 1, 0, none⟩ = some (.int .i64 k) ∧ u.cell? ⟨A + 1, 1, none⟩ = some (.int .i64 gr) ∧ u.cell? ⟨A + 1, 2, none⟩ = some (.int .i64 o) ∧ u.cell? ⟨A + 1, 3, none⟩ = some (.int .i64 wi) ∧ u.cell? ⟨A + 1, 4, none⟩ = some (.int .i64 l) ∧ u.cell? ⟨A + 1, 5, none⟩ = some (.int .i64 sz) ∧ u.cell? ⟨A + 1, 6, none⟩ = some (.int .i64 f) ∧ u.cell? ⟨A + 1, 7, none⟩ = some (.int .i64 t)) (go_keep)
        (first | (go_at_call 128; refine (cY _ (fW.trans gd)).mono ?_; rintro x u3 ⟨⟨rg, rlo, rll, rlc, rco, rcl, rcc, rno, rnl, rnc, roo, rol, roc⟩, rfl, S3, f3⟩; have G3 := gd.trans f3; obtain ⟨⟨a0, a1, a2, a3, a4⟩, ⟨b0, b1, b2, b3, b4, b5, b6, b7⟩, -⟩ := HQ.out u3 G3; simp only at a0 a1 a2 a3 a4 b0 b1 b2 b3 b4 b5 b6 b7) | (go_at_call 129; refine (cD ⟨rg, rlo, rll, rlc, rco, rcl, rcc, rno, rnl, rnc, roo, rol, roc⟩ _ _ u3 S3 (Nat.le_refl _)).mono ?_; rintro x u4 ⟨⟨pg, plo, pll, plc, pco, pcl, pcc, pno, pnl, pnc, poo, pol, poc⟩, rfl, S4, f4⟩; have G4 := G3.trans f4; obtain ⟨⟨q0, q1, q2, q3, q4⟩, ⟨e0, e1, e2, e3, e4, e5, e6, e7⟩, kr⟩ := HQ.out u4 G4; obtain ⟨j0, j1, j2, j3, j4⟩ := kr.at; have jf := fun i => kr.free i; simp only at q0 q1 q2 q3 q4 e0 e1 e2 e3 e4 e5 e6 e7 j0 j1 j2 j3 j4))
      all_goals
        have HS4 : Hid _ := S4
        go_wp2_with fail
        have k5 := put5 u4 (A + 2) (.int .i64 pg) (.slice plo pll plc) (.slice pco pcl pcc) (.slice pno pnl pnc) (.slice poo pol poc)
        have z5 := k5.size
        have hd2 : u2.drew.heap.size = u2.heap.size := rfl
        have z2 := G2.size
        have z3 := f3.size
        refine bodyPost_ret (v := .tuple #[.agg #[.int .i64 pg, .slice plo pll plc, .slice pco pcl pcc, .slice pno pnl pnc, .slice poo pol poc], .int .i64 0]) (by simp [results, Tryz.results73, go_sem, j0, j1, j2, j3, j4]) rfl ⟨⟨pg, plo, pll, plc, pco, pcl, pcc, pno, pnl, pnc, poo, pol, poc⟩, by rw [HC0.out], ?_, (fW.trans G4).then k5 (fun j hj => by simp only [Option.some.injEq] at hj; have := HA.out; omega)⟩
        rw [HD.out]
        refine (HS4.out.keep k5 (fun x hx => ?_)).mono (fun x q => ?_)
        · cases hx
          rintro (q | q)
          · have := q.1; omega
          · omega
        · have h1 := HA.out
          have z4 := f4.size
          rcases q with q | q
          · have q1 := q.1; have q2 := q.2; exact ⟨by omega, Nat.lt_of_lt_of_le (show x < u4.heap.size by omega) z5⟩
          · exact ⟨by omega, Nat.lt_of_lt_of_le (show x < u4.heap.size by omega) z5⟩
    · have hcb : (C != 0) = true := by simpa using hC0
      have HD : Hid (D = m) := HN.out hC0
      clear hC0 HN HY cD
      go_wp2_with fail
      refine (cY u2 (fW.trans G2)).mono ?_
      rintro x u3 ⟨⟨pg, plo, pll, plc, pco, pcl, pcc, pno, pnl, pnc, poo, pol, poc⟩, rfl, S3, f3⟩
      have G3 := G2.trans f3
      obtain ⟨-, -, kr⟩ := HQ.out u3 G3
      obtain ⟨j0, j1, j2, j3, j4⟩ := kr.at
      simp only at j0 j1 j2 j3 j4
      have jf := fun i => kr.free i
      have HS3 : Hid _ := S3
      clear S3
      go_wp2_with fail
      have k5 := put5 u3 (A + 2) (.int .i64 pg) (.slice plo pll plc) (.slice pco pcl pcc) (.slice pno pnl pnc) (.slice poo pol poc)
      have z5 := k5.size
      have z2 := G2.size
      refine bodyPost_ret (v := .tuple #[.agg #[.int .i64 pg, .slice plo pll plc, .slice pco pcl pcc, .slice pno pnl pnc, .slice poo pol poc], .int .i64 C]) (by simp [results, Tryz.results73, go_sem, j0, j1, j2, j3, j4]) rfl ⟨⟨pg, plo, pll, plc, pco, pcl, pcc, pno, pnl, pnc, poo, pol, poc⟩, rfl, ?_, (fW.trans G3).then k5 (fun j hj => by simp only [Option.some.injEq] at hj; have := HA.out; omega)⟩
      rw [HD.out]
      refine (HS3.out.keep k5 (fun x hx => ?_)).mono (fun x q => ?_)
      · cases hx
        intro q
        have := q.1
        omega
      · have h1 := HA.out
        have q1 := q.1
        have q2 := q.2
        exact ⟨by omega, Nat.lt_of_lt_of_le q2 z5⟩
end Go.Proofs.YtcofhmikdkkigaaGreatDoor
namespace Go.Proofs.YtcofhmikdkkigaaGreatDoor
open Go.RowKit

set_option maxHeartbeats 1000000 in
theorem specAfterB_any (ao : Option Addr) (n c : Nat) (es : List Ev) (w : World) (hn : es.length = n) (h : ReadsE w ao es) :
    Calls Tryz.prog 71 #[.slice ao n c] w fun x w' => ∃ (s : Sv) (B : Nat → Prop), x = .returned (.tuple #[.agg #[.int .i64 s.g, .slice s.lo s.ll s.lc, .slice s.co s.cl s.cc, .slice s.no s.nl s.nc, .slice s.oo s.ol s.oc], .bool (aftB es)]) ∧ ScR B w' s (aftS es) ∧ Fr w w' ∧ ∀ b, B b → w.heap.size ≤ b ∧ b < w'.heap.size := by
  have f0 := Fr.alloc w (.cells #[.int .i64 0, .slice none 0 0, .slice none 0 0, .slice none 0 0, .slice none 0 0] 29)
  have k0 := ScK.new w ⟨0, none, 0, 0, none, 0, 0, none, 0, 0, none, 0, 0⟩
  simp only at k0
  subst hn
  by_cases hb : es.length ≤ 300
  · have cP := l5Scene_any ao es.length c es _ rfl (h.fr f0)
    have e1 : aftS es = (legS scn0 es).1 := if_neg (by omega)
    have e3 : aftB es = decide ((legS scn0 es).2.2 = 0) := if_neg (by omega)
    have hlc := leg_code es scn0
    have e2 : (es.length : Int) ≤ 300 := by omega
    rw [e1, e3]
    clear e1 e3 h
    obtain ⟨L, hL⟩ : ∃ L : Nat, L = (legS scn0 es).2.1 := ⟨_, rfl⟩
    obtain ⟨q, hq⟩ : ∃ z : Int, z = (legS scn0 es).2.2 := ⟨_, rfl⟩
    obtain ⟨M, hM⟩ : ∃ z, z = (legS scn0 es).1 := ⟨_, rfl⟩
    simp only [← hL, ← hq, ← hM] at cP hlc
    rw [← hq, ← hM]
    clear hL hq hM hb
    have hbb : ((L : Int) == (es.length : Int)) = decide (q = 0) := by
      by_cases q0 : q = 0
      · have := hlc.1 q0
        simp [q0, this]
      · have : ¬ ((L : Int) = (es.length : Int)) := fun e => q0 (hlc.2 (by omega))
        simp [q0, this]
    clear hlc
    go_enter Tryz.func71, Tryz.ntmps71
    go_wp2_with fail
    refine (cP).mono ?_
    rintro e u1 ⟨⟨sg, lo, ll, lc, co, cl, cc, no, nl, nc, oo, ol, oc⟩, B, rfl, S1, hB, f1⟩
    have fA := Fr.alloc u1 (.cells #[.int .i64 sg, .slice lo ll lc, .slice co cl cc, .slice no nl nc, .slice oo ol oc] 29)
    have kr := k0.fr (f1.trans fA)
    have F1 := f0.trans (f1.trans fA)
    have S2 := S1.fr fA
    have hsz := f0.size
    have hkl := k0.lt
    obtain ⟨j0, j1, j2, j3, j4⟩ := kr.at
    simp only at j0 j1 j2 j3 j4
    have jf := fun i => kr.free i
    have HS2 : Hid _ := S2
    have HB : Hid (∀ b, B b → w.heap.size < b ∧ b < u1.heap.size) := fun b q => by have := hB b q; exact ⟨by omega, this.2⟩
    clear S1 S2 hB cP k0 kr fA f1 f0
    go_wp2_with fail
    have k5 := put5 (u1.alloc (.cells #[.int .i64 sg, .slice lo ll lc, .slice co cl cc, .slice no nl nc, .slice oo ol oc] 29)) w.heap.size (.int .i64 sg) (.slice lo ll lc) (.slice co cl cc) (.slice no nl nc) (.slice oo ol oc)
    refine bodyPost_ret (v := .tuple #[.agg #[.int .i64 sg, .slice lo ll lc, .slice co cl cc, .slice no nl nc, .slice oo ol oc], .bool (decide (q = 0))]) (by simp [results, Tryz.results71, go_sem, j0, j1, j2, j3, j4]) rfl ⟨⟨sg, lo, ll, lc, co, cl, cc, no, nl, nc, oo, ol, oc⟩, B, rfl, ?_, ?_, fun b q => ⟨Nat.le_of_lt (HB.out b q).1, ?_⟩⟩
    · exact HS2.out.keep k5 (fun x hx => by cases hx; exact fun q => by have := (HB.out _ q).1; omega)
    · exact F1.then k5 (fun j hj => by simp only [Option.some.injEq] at hj; omega)
    · have q2 := (HB.out b q).2
      have z5 := k5.size
      have zA := (Fr.alloc u1 (.cells #[.int .i64 sg, .slice lo ll lc, .slice co cl cc, .slice no nl nc, .slice oo ol oc] 29)).size
      exact Nat.lt_of_lt_of_le q2 (Nat.le_trans zA z5)
  · have e1 : aftS es = ⟨0, [], [], [], []⟩ := if_pos (by omega)
    have e3 : aftB es = false := if_pos (by omega)
    have e2 : 300 < (es.length : Int) := by omega
    rw [e1, e3]
    clear e1 e3 h hb
    go_enter Tryz.func71, Tryz.ntmps71
    go_wp2_with fail
    refine bodyPost_ret (v := .tuple #[.agg #[.int .i64 0, .slice none 0 0, .slice none 0 0, .slice none 0 0, .slice none 0 0], .bool false]) (by simp [results, Tryz.results71, go_sem]) rfl ⟨⟨0, none, 0, 0, none, 0, 0, none, 0, 0, none, 0, 0⟩, (fun _ => False), rfl, scR_zero _ _, f0, fun b q => q.elim⟩
theorem DX.self {w u : World} {d n cap : Nat} {ao : Option Addr} (h : DX w u d ao n cap) : DX u u d ao n cap := ⟨grown_refl u _, h.dice, h.row, h.ap⟩
theorem DX.on {w u u' : World} {d n cap : Nat} {ao : Option Addr} (h : DX w u d ao n cap) (k : DX u u' d ao n cap) : DX w u' d ao n cap := ⟨grown_trans h.g k.g, k.dice, k.row, k.ap⟩
theorem leg_snoc {e : Ev} : ∀ (es : List Ev) (m0 m : Scn), legS m0 es = (m, es.length, 0) → codeIn m e = 0 → legS m0 (es ++ [e]) = (doS m e, es.length + 1, 0)
  | [], m0, m, h, hc => by
    simp only [legS, Prod.mk.injEq] at h
    obtain ⟨rfl, -⟩ := h
    simp [legS, hc]
  | x :: es, m0, m, h, hc => by
    by_cases q : codeIn m0 x = 0
    · rw [leg_go q] at h
      simp only [Prod.mk.injEq, List.length_cons] at h
      have h2 : legS (doS m0 x) es = (m, es.length, 0) := by
        refine Prod.ext h.1 (Prod.ext ?_ h.2.2)
        have := h.2.1
        simp only
        omega
      rw [List.cons_append, leg_go q, leg_snoc es _ m h2 hc]
      simp
    · rw [leg_no q] at h
      simp at h
theorem do_g (m : Scn) (e : Ev) : m.g ≤ (doS m e).g := by
  unfold doS
  split
  · simp only; omega
  · split
    · exact Int.le_refl _
    · split
      · exact Int.le_refl _
      · split
        · exact Int.le_refl _
        · split
          · exact Int.le_refl _
          · split
            · exact Int.le_refl _
            · exact Int.le_refl _
def es0 : List Ev := [⟨1, 0, 1, 0, 0, 0, 0, 0⟩, ⟨1, 0, 2, 0, 0, 0, 0, 0⟩]
theorem leg_es0 : legS scn0 es0 = (⟨3, [], [], [], []⟩, 2, 0) := by rfl

def LowL (m : Scn) : Prop := ∀ l ∈ m.ls, l.o ≤ 1
theorem lockOf_o (ls : List Lk) (o : Int) : (lockOf ls o).o = o := by
  unfold lockOf
  cases h : ls.find? (fun l => l.o == o) with
  | none => rfl
  | some l => simpa using List.find?_some h
theorem lockTo_o (m : Scn) (e : Ev) : (lockTo m e).o = e.o := by
  unfold lockTo
  split
  · exact lockOf_o _ _
  · split
    · exact lockOf_o _ _
    · split
      · exact lockOf_o _ _
      · exact lockOf_o _ _
theorem low_do {m : Scn} {e : Ev} (h : LowL m) (he : LowO e) : LowL (doS m e) := by
  unfold doS
  split
  · exact h
  · split
    · rename_i hk
      intro l hl
      rcases setL_mem Lk.o _ _ _ l hl with q | q
      · exact h l q
      · rw [q, lockTo_o]
        exact he hk.1 hk.2
    · split
      · exact h
      · split
        · exact h
        · split
          · exact h
          · split
            · exact h
            · exact h

structure TX (w : World) (d : Nat) (ao : Option Addr) (n cap : Nat) (sb g lo hi : Nat) (c : Nat) (es : List Ev) (s : Sv) (m : Scn) (wr : World) : Prop where
  dx : DX w wr d ao n cap
  own : wr.ownsRow w.heap.size 31 8 (.slice (some ⟨g, 0, none⟩) es.length c) es.length (es.flatMap evCells)
  sc : ScK wr sb s
  scr : ScR (fun b => lo ≤ b ∧ b < hi) wr s m
  leg : legS scn0 es = (m, es.length, 0)
  three : 3 ≤ m.g
  low : LowL m
  bs : w.heap.size ≤ lo ∧ hi ≤ wr.heap.size ∧ (g < lo ∨ hi ≤ g) ∧ (sb < lo ∨ hi ≤ sb) ∧ w.heap.size ≤ sb ∧ g ≠ sb
theorem TX.fr {w wr w' : World} {d n cap sb g lo hi c : Nat} {ao : Option Addr} {es : List Ev} {s : Sv} {m : Scn} (h : TX w d ao n cap sb g lo hi c es s m wr) (k : Fr wr w') : TX w d ao n cap sb g lo hi c es s m w' :=
  { h with dx := h.dx.fr k, own := h.own.kept k (by simp [Value.ownBlock]), sc := h.sc.fr k, scr := h.scr.fr k, bs := by have := h.bs; have := k.size; omega }
theorem TX.dice {w wr w' : World} {d n cap sb g lo hi c : Nat} {ao : Option Addr} {es : List Ev} {s : Sv} {m : Scn} (h : TX w d ao n cap sb g lo hi c es s m wr) (hd : d < w.heap.size) (k : DX wr w' d ao n cap) : TX w d ao n cap sb g lo hi c es s m w' := by
  have hb := h.bs
  have ho := (h.own.lt g rfl).1
  have hs := k.g.size
  exact { h with dx := h.dx.on k, own := h.own.kept k.g (.inr (by simp only [Value.ownBlock, ne_eq, Option.some.injEq]; omega)), sc := h.sc.keep k.g (by simp only [ne_eq, Option.some.injEq]; omega), scr := h.scr.keep k.g (fun j hj q => by simp only [Option.some.injEq] at hj; omega), bs := by omega }
end Go.Proofs.YtcofhmikdkkigaaGreatDoor
