/-
  The walk of the laws' toScene.
-/
import Derived.Test.YtpdakokmckmbgaaDoorScTo2
namespace Go.Proofs.YtpdakokmckmbgaaDoor
open Go.RowKit

theorem ScK.set1 {w : World} {b : Nat} {s : Sv} (h : ScK w b s) (ao : Option Addr) (n c : Nat) : ScK (w.setCell ⟨b, 1, none⟩ (.slice ao n c)) b { s with lo := ao, ll := n, lc := c } := heap_setCell_same w b 1 _ _ (.slice ao n c) h
theorem ScK.set2 {w : World} {b : Nat} {s : Sv} (h : ScK w b s) (ao : Option Addr) (n c : Nat) : ScK (w.setCell ⟨b, 2, none⟩ (.slice ao n c)) b { s with co := ao, cl := n, cc := c } := heap_setCell_same w b 2 _ _ (.slice ao n c) h
theorem ScK.set3 {w : World} {b : Nat} {s : Sv} (h : ScK w b s) (ao : Option Addr) (n c : Nat) : ScK (w.setCell ⟨b, 3, none⟩ (.slice ao n c)) b { s with no := ao, nl := n, nc := c } := heap_setCell_same w b 3 _ _ (.slice ao n c) h
theorem argB (w : World) (s : Sv) : ScB (w.alloc (.cells #[.int .i64 s.g, .slice s.lo s.ll s.lc, .slice s.co s.cl s.cc, .slice s.no s.nl s.nc, .slice s.oo s.ol s.oc] 27)) w.heap.size s :=
  ⟨by simp [go_sem], by simp [go_sem], by simp [go_sem], by simp [go_sem], by simp [go_sem]⟩
theorem OwnG.reads' {α : Type} {L : Lay α} {w : World} {base g n cap : Nat} {xs : List α} (h : OwnG L w base (.slice (some ⟨g, 0, none⟩) n cap) xs) : ReadsG L w (some ⟨g, 0, none⟩) xs ∧ n = xs.length := by
  obtain ⟨g', cap', e, ho, hl⟩ := h
  simp at e
  obtain ⟨rfl, rfl, rfl⟩ := e
  exact ⟨own_readsG ho hl, rfl⟩

set_option maxRecDepth 20000 in
set_option maxHeartbeats 2000000 in
theorem toScene_any {B : Nat → Prop} (s : Sv) (m : Scn) (w : World) (h : ScR B w s m) :
    Calls Tryd.prog 6 #[.agg #[.int .i64 s.g, .slice s.lo s.ll s.lc, .slice s.co s.cl s.cc, .slice s.no s.nl s.nc, .slice s.oo s.ol s.oc]] w fun e w' => ∃ s' : Sv, e = .returned (.agg #[.int .i64 s'.g, .slice s'.lo s'.ll s'.lc, .slice s'.co s'.cl s'.cc, .slice s'.no s'.nl s'.nc, .slice s'.oo s'.ol s'.oc]) ∧ ScR (fun b => w.heap.size ≤ b ∧ b < w'.heap.size) w' s' m ∧ Fr w w' := by
  obtain ⟨lvs, r1, n1, L1⟩ := h.lks
  have cL := fun u (f : Fr w u) => toLockS_any s.lo s.ll s.lc lvs m.ls u n1.symm (by rw [L1.len]; exact h.sl) (r1.fr f) (L1.fr f)
  have cC := fun u (f : Fr w u) => toChanS_any s.co s.cl s.cc m.cs u h.cl.symm h.sc (h.chs.fr f)
  have cN := fun u (f : Fr w u) => toCountS_any s.no s.nl s.nc m.gs u h.nl.symm h.sn (h.cts.fr f)
  have cO := fun u (f : Fr w u) => toI_any s.oo s.ol s.oc m.os u h.ol.symm (h.ons.fr f)
  have HH : Hid (ScR B w s m) := h
  have HN1 : Hid (s.ll = m.ls.length) := by rw [n1, L1.len]; exact rfl
  clear h r1 n1 L1
  have f1 := Fr.alloc w (.cells #[.int .i64 s.g, .slice s.lo s.ll s.lc, .slice s.co s.cl s.cc, .slice s.no s.nl s.nc, .slice s.oo s.ol s.oc] 27)
  have f2 := Fr.alloc (w.alloc (.cells #[.int .i64 s.g, .slice s.lo s.ll s.lc, .slice s.co s.cl s.cc, .slice s.no s.nl s.nc, .slice s.oo s.ol s.oc] 27)) (.cells #[.int .i64 0, .slice none 0 0, .slice none 0 0, .slice none 0 0, .slice none 0 0] 36)
  have f3 := Fr.alloc ((w.alloc (.cells #[.int .i64 s.g, .slice s.lo s.ll s.lc, .slice s.co s.cl s.cc, .slice s.no s.nl s.nc, .slice s.oo s.ol s.oc] 27)).alloc (.cells #[.int .i64 0, .slice none 0 0, .slice none 0 0, .slice none 0 0, .slice none 0 0] 36)) (.cells #[.int .i64 s.g, .slice none 0 0, .slice none 0 0, .slice none 0 0, .slice none 0 0] 36)
  have ka := ((argB w s).keep f2 (by simp)).keep f3 (by simp)
  have kr := (ScK.new (w.alloc (.cells #[.int .i64 s.g, .slice s.lo s.ll s.lc, .slice s.co s.cl s.cc, .slice s.no s.nl s.nc, .slice s.oo s.ol s.oc] 27)) ⟨0, none, 0, 0, none, 0, 0, none, 0, 0, none, 0, 0⟩).fr f3
  have ko := ScK.new ((w.alloc (.cells #[.int .i64 s.g, .slice s.lo s.ll s.lc, .slice s.co s.cl s.cc, .slice s.no s.nl s.nc, .slice s.oo s.ol s.oc] 27)).alloc (.cells #[.int .i64 0, .slice none 0 0, .slice none 0 0, .slice none 0 0, .slice none 0 0] 36)) ⟨s.g, none, 0, 0, none, 0, 0, none, 0, 0, none, 0, 0⟩
  simp only [World.size_alloc] at kr ko
  have fW := (f1.trans f2).trans f3
  clear f1 f2 f3
  obtain ⟨sg, lo, ll, lc, co, cl, cc, no, nl, nc, oo, ol, oc⟩ := s
  simp only at ka kr ko fW cL cC cN cO HN1 HH ⊢
  go_enter Tryd.func6, Tryd.ntmps6
  go_wp2_with fail
  obtain ⟨W, hW⟩ : ∃ W, W = ((w.alloc (.cells #[.int .i64 sg, .slice lo ll lc, .slice co cl cc, .slice no nl nc, .slice oo ol oc] 27)).alloc (.cells #[.int .i64 0, .slice none 0 0, .slice none 0 0, .slice none 0 0, .slice none 0 0] 36)).alloc (.cells #[.int .i64 sg, .slice none 0 0, .slice none 0 0, .slice none 0 0, .slice none 0 0] 36) := ⟨_, rfl⟩
  have hz : w.heap.size + 3 = W.heap.size := by rw [hW]; simp
  rw [← hW] at ka kr ko fW ⊢
  obtain ⟨b0, hb⟩ : ∃ b0, b0 = w.heap.size := ⟨_, rfl⟩
  rw [← hb] at ka kr ko hz ⊢
  have HB : Hid (b0 = w.heap.size ∧ b0 + 3 = W.heap.size) := ⟨hb, hz⟩
  clear hW hb hz
  -- locks
  refine (cL _ fW).mono ?_
  rintro x u1 ⟨rfl, ⟨zs, o1, L1⟩, g1⟩
  have ka := ka.keep g1 (by simp)
  have kr := kr.fr g1
  have ko := ko.fr g1
  have F1 := fW.trans g1
  obtain ⟨A1, hA1⟩ : ∃ A, A = W.heap.size := ⟨_, rfl⟩
  rw [← hA1] at o1 ⊢
  simp only [← hA1] at L1
  have HA1 : Hid (A1 = W.heap.size) := hA1
  have z1 := ko.free 1
  have y1 := ko.at.c1
  have h1 := grown_set u1 (b0 + 1 + 1) 1 (.slice (some ⟨A1, 0, none⟩) ll ll)
  have ka := ka.keep h1 (by simp only [ne_eq, Option.some.injEq]; omega)
  have kr := kr.keep h1 (by simp only [ne_eq, Option.some.injEq]; omega)
  have ko := ko.set1 (some ⟨A1, 0, none⟩) ll ll
  have F1 := F1.then h1 (one_blk (by have := HB.out.1; omega))
  have t1 := o1.lt A1 rfl
  obtain ⟨a0, a1, a2, a3, a4⟩ := ka
  simp only at a0 a1 a2 a3 a4 y1
  clear hA1 g1 cL fW
  go_wp2_with fail
  -- channels
  refine (cC _ F1).mono ?_
  rintro x u2 ⟨rfl, o2, g2⟩
  have ka : ScB _ b0 ⟨sg, lo, ll, lc, co, cl, cc, no, nl, nc, oo, ol, oc⟩ := ScB.keep ⟨a0, a1, a2, a3, a4⟩ g2 (by simp)
  clear a0 a1 a2 a3 a4 y1 z1
  have kr := kr.fr g2
  have ko := ko.fr g2
  have F2 := F1.trans g2
  obtain ⟨A2, hA2⟩ : ∃ A, A = (u1.setCell ⟨b0 + 1 + 1, 1, none⟩ (.slice (some ⟨A1, 0, none⟩) ll ll)).heap.size := ⟨_, rfl⟩
  rw [← hA2] at o2 ⊢
  have HA2 : Hid (u1.heap.size ≤ A2) := by rw [hA2]; exact h1.size
  have z1 := ko.free 2
  have y1 := ko.at.c2
  have h2 := grown_set u2 (b0 + 1 + 1) 2 (.slice (some ⟨A2, 0, none⟩) cl cl)
  have ka := ka.keep h2 (by simp only [ne_eq, Option.some.injEq]; omega)
  have kr := kr.keep h2 (by simp only [ne_eq, Option.some.injEq]; omega)
  have ko := ko.set2 (some ⟨A2, 0, none⟩) cl cl
  have F2 := F2.then h2 (one_blk (by have := HB.out.1; omega))
  have t2 := o2.lt A2 rfl
  obtain ⟨a0, a1, a2, a3, a4⟩ := ka
  simp only at a0 a1 a2 a3 a4 y1
  have H12 := grown_trans h1 g2.wide
  clear hA2 g2 h1 cC F1
  go_wp2_with fail
  -- counts
  refine (cN _ F2).mono ?_
  rintro x u3 ⟨rfl, o3, g3⟩
  have ka : ScB _ b0 ⟨sg, lo, ll, lc, co, cl, cc, no, nl, nc, oo, ol, oc⟩ := ScB.keep ⟨a0, a1, a2, a3, a4⟩ g3 (by simp)
  clear a0 a1 a2 a3 a4 y1 z1
  have kr := kr.fr g3
  have ko := ko.fr g3
  have F3 := F2.trans g3
  obtain ⟨A3, hA3⟩ : ∃ A, A = (u2.setCell ⟨b0 + 1 + 1, 2, none⟩ (.slice (some ⟨A2, 0, none⟩) cl cl)).heap.size := ⟨_, rfl⟩
  rw [← hA3] at o3 ⊢
  have HA3 : Hid (u2.heap.size ≤ A3) := by rw [hA3]; exact h2.size
  have z1 := ko.free 3
  have y1 := ko.at.c3
  have h3 := grown_set u3 (b0 + 1 + 1) 3 (.slice (some ⟨A3, 0, none⟩) nl nl)
  have ka := ka.keep h3 (by simp only [ne_eq, Option.some.injEq]; omega)
  have kr := kr.keep h3 (by simp only [ne_eq, Option.some.injEq]; omega)
  have ko := ko.set3 (some ⟨A3, 0, none⟩) nl nl
  have F3 := F3.then h3 (one_blk (by have := HB.out.1; omega))
  have t3 := o3.lt A3 rfl
  obtain ⟨a0, a1, a2, a3, a4⟩ := ka
  simp only at a0 a1 a2 a3 a4 y1
  have H23 := grown_trans h2 g3.wide
  clear hA3 g3 h2 cN F2
  go_wp2_with fail
  -- onces
  refine (cO _ F3).mono ?_
  rintro x u4 ⟨rfl, o4, g4⟩
  clear a0 a1 a2 a3 a4 y1 z1
  have kr := kr.fr g4
  have ko := ko.fr g4
  have F4 := F3.trans g4
  obtain ⟨A4, hA4⟩ : ∃ A, A = (u3.setCell ⟨b0 + 1 + 1, 3, none⟩ (.slice (some ⟨A3, 0, none⟩) nl nl)).heap.size := ⟨_, rfl⟩
  rw [← hA4] at o4 ⊢
  have HA4 : Hid (u3.heap.size ≤ A4) := by rw [hA4]; exact h3.size
  have z1 := ko.free 4
  have y1 := ko.at.c4
  have h4 := grown_set u4 (b0 + 1 + 1) 4 (.slice (some ⟨A4, 0, none⟩) ol ol)
  have kr := kr.keep h4 (by simp only [ne_eq, Option.some.injEq]; omega)
  have ko := ko.setO (some ⟨A4, 0, none⟩) ol ol
  have F4 := F4.then h4 (one_blk (by have := HB.out.1; omega))
  have t4 := (own_lt o4).2
  have H34 := grown_trans h3 g4.wide
  obtain ⟨e0, e1, e2, e3, e4⟩ := ko.at
  obtain ⟨j0, j1, j2, j3, j4⟩ := kr.at
  have jf := fun i => kr.free i
  simp only at e0 e1 e2 e3 e4 j0 j1 j2 j3 j4 y1
  clear hA4 g4 h3 cO F3 ko kr
  go_wp2_with fail
  have h5 := put5 (u4.setCell ⟨b0 + 1 + 1, 4, none⟩ (.slice (some ⟨A4, 0, none⟩) ol ol)) (b0 + 1) (.int .i64 sg) (.slice (some ⟨A1, 0, none⟩) ll ll) (.slice (some ⟨A2, 0, none⟩) cl cl) (.slice (some ⟨A3, 0, none⟩) nl nl) (.slice (some ⟨A4, 0, none⟩) ol ol)
  have s4 := h4.size
  have s5 := h5.size
  have s1 := H12.size
  have s2 := H23.size
  have s3 := H34.size
  have hb := HB.out
  have ha1 := HA1.out
  have ha2 := HA2.out
  have ha3 := HA3.out
  have ha4 := HA4.out
  have Q3 := grown_trans H34 h4
  have Q2 := grown_trans H23 Q3
  have Q1 := grown_trans H12 Q2
  refine bodyPost_ret (v := .agg #[.int .i64 sg, .slice (some ⟨A1, 0, none⟩) ll ll, .slice (some ⟨A2, 0, none⟩) cl cl, .slice (some ⟨A3, 0, none⟩) nl nl, .slice (some ⟨A4, 0, none⟩) ol ol]) (by simp [results, Tryd.results6, go_sem, j0, j1, j2, j3, j4]) rfl ⟨⟨sg, some ⟨A1, 0, none⟩, ll, ll, some ⟨A2, 0, none⟩, cl, cl, some ⟨A3, 0, none⟩, nl, nl, some ⟨A4, 0, none⟩, ol, ol⟩, rfl, ?_, F4.then h5 (one_blk (by omega))⟩
  have i1 := o1.reads'
  have i2 := o2.reads'
  have i3 := o3.reads'
  have i4 := o4.reads
  have hh := HH.out
  refine { g := hh.g, ig := hh.ig, lks := ⟨zs, (i1.1.keep Q1 (.inr (by simp [blk]; omega))).keep h5 (.inr (by simp [blk]; omega)), i1.2, ((L1.keep Q1 (fun j hj => by cases hj; omega)).keep h5 (fun j hj => by cases hj; omega)).mono (fun b hb2 => ⟨by omega, by omega⟩)⟩, chs := (i2.1.keep Q2 (.inr (by simp [blk]; omega))).keep h5 (.inr (by simp [blk]; omega)), cl := i2.2, cts := (i3.1.keep Q3 (.inr (by simp [blk]; omega))).keep h5 (.inr (by simp [blk]; omega)), nl := i3.2, ons := (i4.keep h4 (.inr (by simp [blk]; omega))).keep h5 (.inr (by simp [blk]; omega)), ol := hh.ol, bl := ?_, bc := ?_, bn := ?_, bo := ?_, zo := (fun q => by simp at q), sl := hh.sl, sc := hh.sc, sn := hh.sn, so := hh.so, ic := hh.ic, inn := hh.inn }
  all_goals
    intro b hb2
    simp only [blk, Option.map_some, Option.some.injEq] at hb2
    subst hb2
    exact ⟨by omega, by omega⟩
end Go.Proofs.YtpdakokmckmbgaaDoor
