/-
  Pack BY: ScWt2, ScScene2, ScMarkS.
-/
import Derived.Test.YtplnijpolkflcaaGreatDoorPqBU
import Derived.Test.YtplnijpolkflcaaGreatDoorPqBX
import Derived.Test.YtplnijpolkflcaaGreatDoorPqAW
import Derived.Test.YtplnijpolkflcaaGreatDoorPqBW
import Derived.Deep.RegionHeld3
import Derived.Test.YtplnijpolkflcaaGreatDoorPqBN
namespace Go.Proofs.YtplnijpolkflcaaGreatDoor
open Go.RowKit

def Wsc (lo hi : Nat) (w : World) (s : Sv) : Prop := Wt w s.lo s.ll 3 ∧ Wt w s.co s.cl 5 ∧ Wt w s.no s.nl 2 ∧ Wt w s.oo s.ol 1 ∧ ∃ zs : List Lv, ReadsG layL w s.lo zs ∧ s.ll = zs.length ∧ ∀ z ∈ zs, (Wt w z.ro z.rn 1 ∧ ∀ b, blk z.ro = some b → blk s.lo ≠ some b) ∧ z.rn ≤ 1048576 ∧ ∀ b, blk z.ro = some b → lo ≤ b ∧ b < hi
theorem Wsc.fr {lo hi : Nat} {w w' : World} {s : Sv} (h : Wsc lo hi w s) (f : Fr w w') : Wsc lo hi w' s := by
  obtain ⟨h1, h2, h3, h4, zs, h5, h6, h7⟩ := h
  exact ⟨h1.shp f.shp, h2.shp f.shp, h3.shp f.shp, h4.shp f.shp, zs, h5.fr f, h6, fun z hz => ⟨⟨(h7 z hz).1.1.shp f.shp, (h7 z hz).1.2⟩, (h7 z hz).2⟩⟩

set_option maxRecDepth 20000 in
set_option maxHeartbeats 2000000 in
theorem toSceneW_any {B : Nat → Prop} (s : Sv) (m : Scn) (w : World) (h : ScR B w s m) :
    Calls Tryz.prog 33 #[.agg #[.int .i64 s.g, .slice s.lo s.ll s.lc, .slice s.co s.cl s.cc, .slice s.no s.nl s.nc, .slice s.oo s.ol s.oc]] w fun e w' => ∃ s' : Sv, e = .returned (.agg #[.int .i64 s'.g, .slice s'.lo s'.ll s'.lc, .slice s'.co s'.cl s'.cc, .slice s'.no s'.nl s'.nc, .slice s'.oo s'.ol s'.oc]) ∧ ScR (fun b => w.heap.size ≤ b ∧ b < w'.heap.size) w' s' m ∧ Fr w w' ∧ Wsc w.heap.size w'.heap.size w' s' := by
  obtain ⟨lvs, r1, n1, L1⟩ := h.lks
  have cL := fun u (f : Fr w u) => toLockSW_any s.lo s.ll s.lc lvs m.ls u n1.symm (by rw [L1.len]; exact h.sl) (r1.fr f) (L1.fr f)
  have cC := fun u (f : Fr w u) => toChanS_any s.co s.cl s.cc m.cs u h.cl.symm h.sc (h.chs.fr f)
  have cN := fun u (f : Fr w u) => toCountS_any s.no s.nl s.nc m.gs u h.nl.symm h.sn (h.cts.fr f)
  have cO := fun u (f : Fr w u) => toI_any s.oo s.ol s.oc m.os u h.ol.symm (h.ons.fr f)
  have HH : Hid (ScR B w s m) := h
  have HN1 : Hid (s.ll = m.ls.length) := by rw [n1, L1.len]; exact rfl
  clear h r1 n1 L1
  have f1 := Fr.alloc w (.cells #[.int .i64 s.g, .slice s.lo s.ll s.lc, .slice s.co s.cl s.cc, .slice s.no s.nl s.nc, .slice s.oo s.ol s.oc] 54)
  have f2 := Fr.alloc (w.alloc (.cells #[.int .i64 s.g, .slice s.lo s.ll s.lc, .slice s.co s.cl s.cc, .slice s.no s.nl s.nc, .slice s.oo s.ol s.oc] 54)) (.cells #[.int .i64 0, .slice none 0 0, .slice none 0 0, .slice none 0 0, .slice none 0 0] 29)
  have f3 := Fr.alloc ((w.alloc (.cells #[.int .i64 s.g, .slice s.lo s.ll s.lc, .slice s.co s.cl s.cc, .slice s.no s.nl s.nc, .slice s.oo s.ol s.oc] 54)).alloc (.cells #[.int .i64 0, .slice none 0 0, .slice none 0 0, .slice none 0 0, .slice none 0 0] 29)) (.cells #[.int .i64 s.g, .slice none 0 0, .slice none 0 0, .slice none 0 0, .slice none 0 0] 29)
  have ka := ((argB w s).keep f2 (by simp)).keep f3 (by simp)
  have kr := (ScK.new (w.alloc (.cells #[.int .i64 s.g, .slice s.lo s.ll s.lc, .slice s.co s.cl s.cc, .slice s.no s.nl s.nc, .slice s.oo s.ol s.oc] 54)) ⟨0, none, 0, 0, none, 0, 0, none, 0, 0, none, 0, 0⟩).fr f3
  have ko := ScK.new ((w.alloc (.cells #[.int .i64 s.g, .slice s.lo s.ll s.lc, .slice s.co s.cl s.cc, .slice s.no s.nl s.nc, .slice s.oo s.ol s.oc] 54)).alloc (.cells #[.int .i64 0, .slice none 0 0, .slice none 0 0, .slice none 0 0, .slice none 0 0] 29)) ⟨s.g, none, 0, 0, none, 0, 0, none, 0, 0, none, 0, 0⟩
  simp only [World.size_alloc] at kr ko
  have fW := (f1.trans f2).trans f3
  clear f1 f2 f3
  obtain ⟨sg, lo, ll, lc, co, cl, cc, no, nl, nc, oo, ol, oc⟩ := s
  simp only at ka kr ko fW cL cC cN cO HN1 HH ⊢
  go_enter Tryz.func33, Tryz.ntmps33
  go_wp2_with fail
  obtain ⟨W, hW⟩ : ∃ W, W = ((w.alloc (.cells #[.int .i64 sg, .slice lo ll lc, .slice co cl cc, .slice no nl nc, .slice oo ol oc] 54)).alloc (.cells #[.int .i64 0, .slice none 0 0, .slice none 0 0, .slice none 0 0, .slice none 0 0] 29)).alloc (.cells #[.int .i64 sg, .slice none 0 0, .slice none 0 0, .slice none 0 0, .slice none 0 0] 29) := ⟨_, rfl⟩
  have hz : w.heap.size + 3 = W.heap.size := by rw [hW]; simp
  rw [← hW] at ka kr ko fW ⊢
  obtain ⟨b0, hb⟩ : ∃ b0, b0 = w.heap.size := ⟨_, rfl⟩
  rw [← hb] at ka kr ko hz ⊢
  have HB : Hid (b0 = w.heap.size ∧ b0 + 3 = W.heap.size) := ⟨hb, hz⟩
  clear hW hb hz
  -- locks
  refine (cL _ fW).mono ?_
  rintro x u1 ⟨rfl, ⟨zs, o1, L1, W1⟩, g1⟩
  have W1 : Hid _ := W1
  have ka := ka.keep g1 (by simp)
  have kr := kr.fr g1
  have ko := ko.fr g1
  have F1 := fW.trans g1
  obtain ⟨A1, hA1⟩ : ∃ A, A = W.heap.size := ⟨_, rfl⟩
  rw [← hA1] at o1 ⊢
  simp only [← hA1] at L1
  have HA1 : Hid (A1 = W.heap.size) := hA1
  have z1 := ko.free 1
  have y1 := ko.at.c1
  have h1 := grown_set u1 (b0 + 1 + 1) 1 (.slice (some ⟨A1, 0, none⟩) ll ll)
  have ka := ka.keep h1 (by simp only [ne_eq, Option.some.injEq]; omega)
  have kr := kr.keep h1 (by simp only [ne_eq, Option.some.injEq]; omega)
  have ko := ko.set1 (some ⟨A1, 0, none⟩) ll ll
  have F1 := F1.then h1 (one_blk (by have := HB.out.1; omega))
  have t1 := o1.lt A1 rfl
  obtain ⟨a0, a1, a2, a3, a4⟩ := ka
  simp only at a0 a1 a2 a3 a4 y1
  clear hA1 g1 cL fW
  go_wp2_with fail
  -- channels
  refine (cC _ F1).mono ?_
  rintro x u2 ⟨rfl, o2, g2⟩
  have ka : ScB _ b0 ⟨sg, lo, ll, lc, co, cl, cc, no, nl, nc, oo, ol, oc⟩ := ScB.keep ⟨a0, a1, a2, a3, a4⟩ g2 (by simp)
  clear a0 a1 a2 a3 a4 y1 z1
  have kr := kr.fr g2
  have ko := ko.fr g2
  have F2 := F1.trans g2
  obtain ⟨A2, hA2⟩ : ∃ A, A = (u1.setCell ⟨b0 + 1 + 1, 1, none⟩ (.slice (some ⟨A1, 0, none⟩) ll ll)).heap.size := ⟨_, rfl⟩
  rw [← hA2] at o2 ⊢
  have HA2 : Hid (u1.heap.size ≤ A2) := by rw [hA2]; exact h1.size
  have z1 := ko.free 2
  have y1 := ko.at.c2
  have h2 := grown_set u2 (b0 + 1 + 1) 2 (.slice (some ⟨A2, 0, none⟩) cl cl)
  have ka := ka.keep h2 (by simp only [ne_eq, Option.some.injEq]; omega)
  have kr := kr.keep h2 (by simp only [ne_eq, Option.some.injEq]; omega)
  have ko := ko.set2 (some ⟨A2, 0, none⟩) cl cl
  have F2 := F2.then h2 (one_blk (by have := HB.out.1; omega))
  have t2 := o2.lt A2 rfl
  obtain ⟨a0, a1, a2, a3, a4⟩ := ka
  simp only at a0 a1 a2 a3 a4 y1
  have H12 := grown_trans h1 g2.wide
  have P12 : Hid (Shp u1 u2) := (shp_set u1 (b0 + 1 + 1) 1 (.slice (some ⟨A1, 0, none⟩) ll ll)).trans g2.shp
  clear hA2 g2 h1 cC F1
  go_wp2_with fail
  -- counts
  refine (cN _ F2).mono ?_
  rintro x u3 ⟨rfl, o3, g3⟩
  have ka : ScB _ b0 ⟨sg, lo, ll, lc, co, cl, cc, no, nl, nc, oo, ol, oc⟩ := ScB.keep ⟨a0, a1, a2, a3, a4⟩ g3 (by simp)
  clear a0 a1 a2 a3 a4 y1 z1
  have kr := kr.fr g3
  have ko := ko.fr g3
  have F3 := F2.trans g3
  obtain ⟨A3, hA3⟩ : ∃ A, A = (u2.setCell ⟨b0 + 1 + 1, 2, none⟩ (.slice (some ⟨A2, 0, none⟩) cl cl)).heap.size := ⟨_, rfl⟩
  rw [← hA3] at o3 ⊢
  have HA3 : Hid (u2.heap.size ≤ A3) := by rw [hA3]; exact h2.size
  have z1 := ko.free 3
  have y1 := ko.at.c3
  have h3 := grown_set u3 (b0 + 1 + 1) 3 (.slice (some ⟨A3, 0, none⟩) nl nl)
  have ka := ka.keep h3 (by simp only [ne_eq, Option.some.injEq]; omega)
  have kr := kr.keep h3 (by simp only [ne_eq, Option.some.injEq]; omega)
  have ko := ko.set3 (some ⟨A3, 0, none⟩) nl nl
  have F3 := F3.then h3 (one_blk (by have := HB.out.1; omega))
  have t3 := o3.lt A3 rfl
  obtain ⟨a0, a1, a2, a3, a4⟩ := ka
  simp only at a0 a1 a2 a3 a4 y1
  have H23 := grown_trans h2 g3.wide
  have P23 : Hid (Shp u2 u3) := (shp_set u2 (b0 + 1 + 1) 2 (.slice (some ⟨A2, 0, none⟩) cl cl)).trans g3.shp
  clear hA3 g3 h2 cN F2
  go_wp2_with fail
  -- onces
  refine (cO _ F3).mono ?_
  rintro x u4 ⟨rfl, o4, g4⟩
  clear a0 a1 a2 a3 a4 y1 z1
  have kr := kr.fr g4
  have ko := ko.fr g4
  have F4 := F3.trans g4
  obtain ⟨A4, hA4⟩ : ∃ A, A = (u3.setCell ⟨b0 + 1 + 1, 3, none⟩ (.slice (some ⟨A3, 0, none⟩) nl nl)).heap.size := ⟨_, rfl⟩
  rw [← hA4] at o4 ⊢
  have HA4 : Hid (u3.heap.size ≤ A4) := by rw [hA4]; exact h3.size
  have z1 := ko.free 4
  have y1 := ko.at.c4
  have h4 := grown_set u4 (b0 + 1 + 1) 4 (.slice (some ⟨A4, 0, none⟩) ol ol)
  have kr := kr.keep h4 (by simp only [ne_eq, Option.some.injEq]; omega)
  have ko := ko.setO (some ⟨A4, 0, none⟩) ol ol
  have F4 := F4.then h4 (one_blk (by have := HB.out.1; omega))
  have t4 := (own_lt o4).2
  have H34 := grown_trans h3 g4.wide
  have P34 : Hid (Shp u3 u4) := (shp_set u3 (b0 + 1 + 1) 3 (.slice (some ⟨A3, 0, none⟩) nl nl)).trans g4.shp
  obtain ⟨e0, e1, e2, e3, e4⟩ := ko.at
  obtain ⟨j0, j1, j2, j3, j4⟩ := kr.at
  have jf := fun i => kr.free i
  simp only at e0 e1 e2 e3 e4 j0 j1 j2 j3 j4 y1
  clear hA4 g4 h3 cO F3 ko kr
  go_wp2_with fail
  have h5 := put5 (u4.setCell ⟨b0 + 1 + 1, 4, none⟩ (.slice (some ⟨A4, 0, none⟩) ol ol)) (b0 + 1) (.int .i64 sg) (.slice (some ⟨A1, 0, none⟩) ll ll) (.slice (some ⟨A2, 0, none⟩) cl cl) (.slice (some ⟨A3, 0, none⟩) nl nl) (.slice (some ⟨A4, 0, none⟩) ol ol)
  have s4 := h4.size
  have s5 := h5.size
  have s1 := H12.size
  have s2 := H23.size
  have s3 := H34.size
  have hb := HB.out
  have ha1 := HA1.out
  have ha2 := HA2.out
  have ha3 := HA3.out
  have ha4 := HA4.out
  have Q3 := grown_trans H34 h4
  have Q2 := grown_trans H23 Q3
  have Q1 := grown_trans H12 Q2
  refine bodyPost_ret (v := .agg #[.int .i64 sg, .slice (some ⟨A1, 0, none⟩) ll ll, .slice (some ⟨A2, 0, none⟩) cl cl, .slice (some ⟨A3, 0, none⟩) nl nl, .slice (some ⟨A4, 0, none⟩) ol ol]) (by simp [results, Tryz.results33, go_sem, j0, j1, j2, j3, j4]) rfl ⟨⟨sg, some ⟨A1, 0, none⟩, ll, ll, some ⟨A2, 0, none⟩, cl, cl, some ⟨A3, 0, none⟩, nl, nl, some ⟨A4, 0, none⟩, ol, ol⟩, rfl, ?_, F4.then h5 (one_blk (by omega)), ?_⟩
  rotate_left
  · have P45 : Shp u4 _ := (shp_set u4 (b0 + 1 + 1) 4 (.slice (some ⟨A4, 0, none⟩) ol ol)).trans (((((shp_set _ (b0 + 1) 0 (.int .i64 sg)).trans (shp_set _ (b0 + 1) 1 (.slice (some ⟨A1, 0, none⟩) ll ll))).trans (shp_set _ (b0 + 1) 2 (.slice (some ⟨A2, 0, none⟩) cl cl))).trans (shp_set _ (b0 + 1) 3 (.slice (some ⟨A3, 0, none⟩) nl nl))).trans (shp_set _ (b0 + 1) 4 (.slice (some ⟨A4, 0, none⟩) ol ol)))
    have i1 := o1.reads'
    obtain ⟨_, _, E1, O1, _⟩ := o1
    obtain ⟨_, _, E2, O2, _⟩ := o2
    obtain ⟨_, _, E3, O3, _⟩ := o3
    rw [← E1] at O1
    rw [← E2] at O2
    rw [← E3] at O3
    have Z1 := wt_own O1
    have Z2 := wt_own O2
    have Z3 := wt_own O3
    have Z4 := wt_own o4.1
    have Q4 := P34.out.trans P45
    have Q3' := P23.out.trans Q4
    have Q2' := P12.out.trans Q3'
    refine ⟨Z1.shp Q2', Z2.shp Q3', Z3.shp Q4, Z4.shp P45, zs, (i1.1.keep Q1 (.inr (by simp [blk]; omega))).keep h5 (.inr (by simp [blk]; omega)), i1.2, fun z hz => ?_⟩
    obtain ⟨p, hp, rfl⟩ := List.mem_iff_getElem.1 hz
    have hlk := L1.at_ p hp (by have := L1.len; omega)
    refine ⟨⟨(W1.out _ hz).shp Q2', fun b hb3 q => ?_⟩, by rw [hlk.rn]; exact hlk.sz, fun b hb3 => ?_⟩
    · have hin := hlk.bl b hb3
      simp only [blk, Option.map_some, Option.some.injEq] at q
      omega
    · have hin := hlk.bl b hb3
      exact ⟨by omega, by omega⟩
  have i1 := o1.reads'
  have i2 := o2.reads'
  have i3 := o3.reads'
  have i4 := o4.reads
  have hh := HH.out
  refine { g := hh.g, ig := hh.ig, lks := ⟨zs, (i1.1.keep Q1 (.inr (by simp [blk]; omega))).keep h5 (.inr (by simp [blk]; omega)), i1.2, ((L1.keep Q1 (fun j hj => by cases hj; omega)).keep h5 (fun j hj => by cases hj; omega)).mono (fun b hb2 => ⟨by omega, by omega⟩)⟩, chs := (i2.1.keep Q2 (.inr (by simp [blk]; omega))).keep h5 (.inr (by simp [blk]; omega)), cl := i2.2, cts := (i3.1.keep Q3 (.inr (by simp [blk]; omega))).keep h5 (.inr (by simp [blk]; omega)), nl := i3.2, ons := (i4.keep h4 (.inr (by simp [blk]; omega))).keep h5 (.inr (by simp [blk]; omega)), ol := hh.ol, bl := ?_, bc := ?_, bn := ?_, bo := ?_, zo := (fun q => by simp at q), sl := hh.sl, sc := hh.sc, sn := hh.sn, so := hh.so, ic := hh.ic, inn := hh.inn }
  all_goals
    intro b hb2
    simp only [blk, Option.map_some, Option.some.injEq] at hb2
    subst hb2
    exact ⟨by omega, by omega⟩
end Go.Proofs.YtplnijpolkflcaaGreatDoor
namespace Go.Proofs.YtplnijpolkflcaaGreatDoor
open Go.RowKit

theorem own_row {w : World} {base g n c sz : Nat} {T : TypeId} {xs : List Value} (h : w.ownsRow base T sz (.slice (some ⟨g, 0, none⟩) n c) n xs) : RowAt w g T := by
  rcases h.2 with ⟨e, _⟩ | ⟨g', cap', cur, e, -, hc, -⟩
  · cases e
  · cases e; exact ⟨cur, hc⟩
theorem RowAt.keep {w w' : World} {g : Nat} {T : TypeId} {row : Option Nat} (h : RowAt w g T) (k : w.grownBy w' row) (hne : some g ≠ row) : RowAt w' g T := by
  obtain ⟨cur, hc⟩ := h
  exact ⟨cur, (k.block g (Array.getElem?_eq_some_iff.1 hc).1 hne).trans hc⟩
structure ScO (base : Nat) (w : World) (s : Sv) (m : Scn) (gl gc gn go : Nat) (lvs : List Lv) : Prop where
  e1 : s.lo = some ⟨gl, 0, none⟩
  e2 : s.co = some ⟨gc, 0, none⟩
  e3 : s.no = some ⟨gn, 0, none⟩
  e4 : s.oo = some ⟨go, 0, none⟩
  ll : s.ll = lvs.length
  rl : ReadsG layL w (some ⟨gl, 0, none⟩) lvs
  ol : LO w gl base lvs
  tl : totL lvs ≤ 1000
  rc : RowAt w gc 85
  rn : RowAt w gn 88
  oo : OwnI w base (.slice (some ⟨go, 0, none⟩) s.ol s.oc) m.os
  ne : gc ≠ gn ∧ gc ≠ go ∧ gn ≠ go
  ap : ∀ x, BlkL gl lvs x → x ≠ gc ∧ x ≠ gn ∧ x ≠ go
  lo : ∀ x, BlkL gl lvs x ∨ x = gc ∨ x = gn ∨ x = go → base ≤ x ∧ x < w.heap.size
theorem LO.keep {w w' : World} {g base : Nat} {lvs : List Lv} {row : Option Nat} (h : LO w g base lvs) (k : w.grownBy w' row) (hr : ∀ x, row = some x → ¬ BlkL g lvs x) : LO w' g base lvs := by
  refine ⟨h.row.keep k (fun e => hr g e.symm (.inl rfl)), fun j hj => ?_, h.ap⟩
  obtain ⟨gj, a1, a2, xs, a3, a4⟩ := h.own j hj
  refine ⟨gj, a1, a2, xs, a3, a4.keep k (.inr ?_)⟩
  simp only [Value.ownBlock]
  exact fun e => hr gj e.symm (.inr ⟨j, hj, a1⟩)
theorem ScO.fr {base : Nat} {w w' : World} {s : Sv} {m : Scn} {gl gc gn go : Nat} {lvs : List Lv} (h : ScO base w s m gl gc gn go lvs) (k : Fr w w') : ScO base w' s m gl gc gn go lvs :=
  { h with rl := h.rl.fr k, ol := h.ol.keep k (by simp), rc := h.rc.keep k (by simp), rn := h.rn.keep k (by simp), oo := h.oo.fr k, lo := fun x hx => ⟨(h.lo x hx).1, Nat.lt_of_lt_of_le (h.lo x hx).2 k.size⟩ }
theorem ScO.keep {base : Nat} {w w' : World} {s : Sv} {m : Scn} {gl gc gn go : Nat} {lvs : List Lv} {row : Nat} (h : ScO base w s m gl gc gn go lvs) (k : w.grownBy w' (some row)) (hr : row < base ∨ w.heap.size ≤ row) : ScO base w' s m gl gc gn go lvs := by
  have hx : ∀ x, BlkL gl lvs x ∨ x = gc ∨ x = gn ∨ x = go → row ≠ x := fun x q e => by
    have := h.lo x q
    omega
  have n1 := hx gl (.inl (.inl rfl))
  have n2 := hx gc (.inr (.inl rfl))
  have n3 := hx gn (.inr (.inr (.inl rfl)))
  have n4 := hx go (.inr (.inr (.inr rfl)))
  exact { h with rl := h.rl.keep k (.inr (by simpa [blk] using fun e => n1 e.symm)), ol := h.ol.keep k (fun x e q => by cases e; exact hx _ (.inl q) rfl), rc := h.rc.keep k (by simpa using fun e => n2 e.symm), rn := h.rn.keep k (by simpa using fun e => n3 e.symm), oo := h.oo.keep k (.inr (by simpa [Value.ownBlock] using fun e => n4 e.symm)), lo := fun x hx => ⟨(h.lo x hx).1, Nat.lt_of_lt_of_le (h.lo x hx).2 k.size⟩ }
theorem ScO.lower {base base' : Nat} {w : World} {s : Sv} {m : Scn} {gl gc gn go : Nat} {lvs : List Lv} (h : ScO base w s m gl gc gn go lvs) (hb : base' ≤ base) : ScO base' w s m gl gc gn go lvs :=
  { h with ol := ⟨h.ol.row, fun j hj => by
      obtain ⟨gj, a1, a2, xs, a3, a4⟩ := h.ol.own j hj
      exact ⟨gj, a1, a2, xs, a3, a4.lower hb⟩, h.ol.ap⟩, oo := h.oo.lower hb, lo := fun x hx => ⟨Nat.le_trans hb (h.lo x hx).1, (h.lo x hx).2⟩ }
theorem totL_le : ∀ (xs : List Lv), (∀ x ∈ xs, x.rn ≤ 16) → totL xs ≤ 18 * xs.length
  | [], _ => by simp [totL]
  | x :: xs, h => by
    have h1 := h x (List.mem_cons_self ..)
    have h2 := totL_le xs (fun y hy => h y (List.mem_cons_of_mem _ hy))
    simp only [totL, List.length_cons]
    omega

set_option maxRecDepth 20000 in
set_option maxHeartbeats 4000000 in
theorem scene_any {lo : Nat × Nat} {b b1 b2 b3 b4 n : Nat} {m : Scn} (w : World) (h : BoardW lo w b b1 b2 b3 b4 n m) (hm : scB m = true) (hn : n ≤ 4000000) :
    Calls Tryz.prog 52 #[.pointer (some ⟨b, 0, none⟩)] w fun e w' => ∃ s : Sv, e = .returned (.agg #[.int .i64 s.g, .slice s.lo s.ll s.lc, .slice s.co s.cl s.cc, .slice s.no s.nl s.nc, .slice s.oo s.ol s.oc]) ∧ ScR (fun x => w.heap.size ≤ x ∧ x < w'.heap.size) w' s m ∧ Fr w w' ∧ ∃ gl gc gn go ys, ScO w.heap.size w' s m gl gc gn go ys := by
  obtain ⟨fl, lvs, M1, hLk, hv1, hk1⟩ := h.lks hm
  obtain ⟨r1, r2, r3, r4⟩ := sc_rise hm
  have HSC := (scB_iff m).1 hm
  have f0 := Fr.alloc w (.cells #[.int .i64 0, .slice none 0 0, .slice none 0 0, .slice none 0 0, .slice none 0 0] 29)
  have k0 := ScK.new w ⟨0, none, 0, 0, none, 0, 0, none, 0, 0, none, 0, 0⟩
  simp only at k0
  have hlen : ∀ (xs : List Int), xs.Pairwise (· < ·) → (∀ x ∈ xs, 0 ≤ x ∧ x ≤ 15) → xs.length ≤ 16 := fun xs q1 q2 => by
    have := rise_len xs 0 15 q1 q2 (by omega)
    omega
  have o1 : ∀ x ∈ m.ls.map Lk.o, 0 ≤ x ∧ x ≤ 15 := fun x hx => by
    obtain ⟨l, hl, rfl⟩ := List.mem_map.1 hx
    exact ((lkB_iff _ _).1 (HSC.2.1.1 l hl)).2.1
  have o2 : ∀ x ∈ m.cs.map Ch.o, 0 ≤ x ∧ x ≤ 15 := fun x hx => by
    obtain ⟨l, hl, rfl⟩ := List.mem_map.1 hx
    exact (chB_in (HSC.2.2.1.1 l hl)).1
  have o3 : ∀ x ∈ m.gs.map Ct.o, 0 ≤ x ∧ x ≤ 15 := fun x hx => by
    obtain ⟨l, hl, rfl⟩ := List.mem_map.1 hx
    exact (ctB_in (HSC.2.2.2.1.1 l hl)).1
  have o4 := HSC.2.2.2.2.1
  have n1 : lvs.length ≤ 16 := by have := hlen _ r1 o1; rw [hLk.len]; simpa using this
  have n2 : m.cs.length ≤ 16 := by simpa using hlen _ r2 o2
  have n3 : m.gs.length ≤ 16 := by simpa using hlen _ r3 o3
  have n4 : m.os.length ≤ 16 := hlen _ r4 o4
  have cL := fun u (f : Fr w u) => ordL_any b1 n fl lvs u (M1.fr f) (by rw [lk_os _ _ hLk]; exact r1) hk1 hv1 (fun o ho => by rw [lk_os _ _ hLk] at ho; exact i64_small (by have := o1 o ho; omega)) hn (by omega)
  have cC := fun u (f : Fr w u) => ordC_any b2 n _ m.cs u (h.m2.fr f) r2 (fun o => by rw [mem_find]; simp) (fun j hj => by rw [find_of_mem Ch.o m.cs r2 _ (List.getElem_mem hj)]; rfl) (fun o ho => i64_small (by have := o2 o ho; omega)) hn (by omega)
  have cN := fun u (f : Fr w u) => ordN_any b3 n _ m.gs u (h.m3.fr f) r3 (fun o => by rw [mem_find]; simp) (fun j hj => by rw [find_of_mem Ct.o m.gs r3 _ (List.getElem_mem hj)]; rfl) (fun o ho => i64_small (by have := o3 o ho; omega)) hn (by omega)
  have cI := fun u (f : Fr w u) => ordI_any b4 n _ m.os u (h.m4.fr f) r4 (fun o => by simp only [find_self]; by_cases q : o ∈ m.os <;> simp [q]) (fun j hj => by simp only [find_self]; rw [if_pos (List.getElem_mem hj)]; rfl) (fun o ho => i64_small (by have := o4 o ho; omega)) hn (by omega)
  have HC : Hid (∀ u, Fr w u → u.cell? ⟨b, 0, none⟩ = some (.int .i64 m.g) ∧ u.cell? ⟨b, 1, none⟩ = some (.map (some b1)) ∧ u.cell? ⟨b, 2, none⟩ = some (.map (some b2)) ∧ u.cell? ⟨b, 3, none⟩ = some (.map (some b3)) ∧ u.cell? ⟨b, 4, none⟩ = some (.map (some b4))) := fun u f => ⟨f.cell h.toM.c0, f.cell h.toM.c1, f.cell h.toM.c2, f.cell h.toM.c3, f.cell h.toM.c4⟩
  have HG : Hid (I64 m.g) := i64_small (by have := HSC.1; omega)
  have HIC : Hid (∀ c ∈ m.cs, I64 c.o ∧ I64 c.cap ∧ I64 c.sent ∧ I64 c.got) := fun c hc => by
    have := chB_in (HSC.2.2.1.1 c hc)
    exact ⟨i64_small (by omega), i64_small (by omega), i64_small (by omega), i64_small (by omega)⟩
  have HIN : Hid (∀ c ∈ m.gs, I64 c.o ∧ I64 c.n) := fun c hc => by
    have := ctB_in (HSC.2.2.2.1.1 c hc)
    exact ⟨i64_small (by omega), i64_small (by omega)⟩
  have HRD : Hid (∀ l ∈ m.ls, l.rd.length ≤ 16) := fun l hl => by
    obtain ⟨⟨q1, q2⟩, -⟩ := (lkB_iff _ _).1 (HSC.2.1.1 l hl)
    have := rise_len l.rd 0 15 q2 (fun x hx => by have := q1 x hx; have := HSC.1; omega) (by omega)
    omega
  have hblt := h.blt
  clear h hm M1 hv1 hk1 HSC o1 o2 o3 o4 r1 r2 r3 r4 hlen
  obtain ⟨c0, c1, c2, c3, c4⟩ := HC.out _ f0
  go_enter Tryz.func52, Tryz.ntmps52
  go_wp2_with fail
  obtain ⟨W, hW⟩ : ∃ W, W = w.alloc (.cells #[.int .i64 0, .slice none 0 0, .slice none 0 0, .slice none 0 0, .slice none 0 0] 29) := ⟨_, rfl⟩
  rw [← hW] at f0 k0 c0 c1 c2 c3 c4 ⊢
  obtain ⟨rb, hrb⟩ : ∃ rb, rb = w.heap.size := ⟨_, rfl⟩
  rw [← hrb] at k0 ⊢
  have HRB : Hid (rb = w.heap.size) := hrb
  have hrbb : rb ≠ b := by omega
  clear hW hrb
  refine (cL W f0).mono ?_
  rintro x w1 ⟨v1, rfl, O1, f1⟩
  obtain ⟨g1, cap1, rfl, O1, hl1⟩ := O1
  clear c0 c1 c2 c3 c4 cL
  have F1 := f0.trans f1
  have k1 := k0.fr f1
  have hX : LX w w1 g1 0 lvs lvs m.ls := by
    have hb := O1.lt g1 rfl
    rcases O1.2 with ⟨e, _⟩ | ⟨g', cap', cur, e, -, hc, -⟩
    · cases e
    · cases e
      refine ⟨F1, by have := f0.size; omega, ⟨cur, hc⟩, own_readsG O1 (by omega), hLk.len, fun j _ _ q => by omega, fun j _ _ _ => rfl, fun j _ _ q => by omega, fun i j _ _ q => by omega⟩
  have hgr : g1 ≠ rb := by
    have := O1.lt g1 rfl
    have := k0.lt
    omega
  clear f0 k0 f1 O1
  go_wp2_with fail
  go_loopw [13] (fun i wr => ∃ (k : Nat) (ys : List Lv), k ≤ lvs.length ∧ i = .int .i64 k ∧ LX w wr g1 k lvs ys m.ls ∧ ScK wr rb ⟨0, none, 0, 0, none, 0, 0, none, 0, 0, none, 0, 0⟩) (fun i _ => lvs.length - (intOf i).toNat)
  case atStart => exact ⟨0, lvs, Nat.zero_le _, rfl, hX, k1⟩
  case round =>
    clear hX k1
    obtain ⟨k, ys, hk, rfl, hX, k1⟩ := hrel
    by_cases hlt : k < lvs.length
    · have hy : k < ys.length := by rw [hX.len, ← hLk.len]; exact hlt
      have hls : k < m.ls.length := by rw [← hLk.len]; exact hlt
      have he := hX.old k hy hlt (Nat.le_refl _)
      obtain ⟨bq, off, e0, d0, d1, d2⟩ := lv_at hX.rd k hy
      simp only [Option.some.injEq, Addr.mk.injEq, and_true] at e0
      obtain ⟨rfl, rfl⟩ := e0
      rw [he] at d0 d1 d2
      simp only [Nat.zero_add] at d0 d1 d2
      have hLR := (hLk.at_ k hlt hls).fr hX.fr
      have HPUT : Hid (∀ u g2 c2, Fr wr u → OwnI u w.heap.size (.slice (some ⟨g2, 0, none⟩) m.ls[k].rd.length c2) m.ls[k].rd → (wr.heap.size ≤ g2 ∧ g2 < u.heap.size) → LX w (u.setCell ⟨g1, k * 3 + 2, none⟩ (.slice (some ⟨g2, 0, none⟩) m.ls[k].rd.length c2)) g1 (k + 1) lvs (ys.set k { ys[k] with ro := some ⟨g2, 0, none⟩, rn := m.ls[k].rd.length, rc := c2 }) m.ls) := fun u g2 c2 fu R q => by
        have hg := hX.glt
        have hs := hX.ge
        exact (hX.grow fu).put hy hls hlt (((hLk.at_ k hlt hls).fr (hX.fr.trans fu)).mono (fun _ _ => trivial)) R (fun j h1 hj => by
          obtain ⟨gj, a1, a2, a3, a4⟩ := hX.ow j h1 (by rw [← hX.len]; exact h1) hj
          rw [a1]
          intro e
          simp only [Option.some.injEq, Addr.mk.injEq, and_true] at e
          omega) ⟨by omega, by omega, by omega⟩
      have HFZ : Hid (∀ u, Fr wr u → u.frozen? ⟨g1, k * 3 + 2, none⟩ = false ∧ ∃ x, u.cell? ⟨g1, k * 3 + 2, none⟩ = some x) := fun u fu => by
        obtain ⟨cur, hc⟩ := (hX.grow fu).row
        exact ⟨frozen_of_row u g1 _ _ _ hc, _, fu.cell d2⟩
      have HSZ : Hid (w.heap.size ≤ wr.heap.size) := hX.fr.size
      have hrn := hLR.rn
      have hrd := hLR.rd
      have hrc := hLR.rc
      have hrs := hLR.sz
      obtain ⟨rd, hrdd⟩ : ∃ rd, rd = m.ls[k].rd := ⟨_, rfl⟩
      rw [← hrdd] at hrn hrd hrs HPUT
      clear hrdd hLR he
      obtain ⟨e, hee⟩ : ∃ e, e = lvs[k] := ⟨_, rfl⟩
      rw [← hee] at d0 d1 d2 hrn hrd hrc
      clear hee
      obtain ⟨zo, zw, zr, zn, zk⟩ := e
      simp only at d0 d1 d2 hrn hrd hrc
      subst hrn
      have fA := Fr.alloc wr (.cells #[.int .i64 zo, .int .i64 zw, .slice zr rd.length zk] 82)
      have fB := Fr.alloc (wr.alloc (.cells #[.int .i64 zo, .int .i64 zw, .slice zr rd.length zk] 82)) (.cells #[] 2)
      have hO := own_empty (wr.alloc (.cells #[.int .i64 zo, .int .i64 zw, .slice zr rd.length zk] 82)) wr.heap.size (by simp)
      have hR := hrd.fr (fA.trans fB)
      have fAB := fA.trans fB
      simp only [World.size_alloc] at hO
      clear fA fB hrd
      go_wp2_with (at_builtin; refine appI _ rfl _ _ rfl wr.heap.size _ _ rd rfl hO zr rd.length zk rfl rfl hrc hR (by simp; omega) (by simp; omega) ?_; intro v4 w4 hv4 hg4; have fu : Fr wr w4 := fAB.then hg4 hO.blk; have hb4 := hv4.blk; obtain ⟨g2, c2, rfl, ho4⟩ := hv4; have hb4 := hb4 g2 rfl; obtain ⟨z1, z2, z3⟩ := HFZ.out w4 fu)
      go_roundw
      case rel => exact ⟨k + 1, _, by omega, by go_num, HPUT.out w4 g2 c2 fu (by simpa using ho4.lower (Nat.le_trans HSZ.out (Nat.le_refl _))) ⟨hb4, (ho4.1.lt g2 rfl).2⟩, (k1.fr fu).keep (grown_set _ _ _ _) (by simpa using fun q => hgr q)⟩
      case measure => simp [intOf]; omega
    · have hke : k = lvs.length := by omega
      have HLK : Hid (LksR (fun x => w.heap.size < x ∧ x < wr.heap.size ∧ x ≠ g1) wr ys m.ls ∧ ReadsG layL wr (some ⟨g1, 0, none⟩) ys ∧ lvs.length = ys.length) := ⟨⟨hX.len, fun j h1 h2 => hX.new j h1 h2 (by rw [hke, hLk.len]; exact h2)⟩, hX.rd, by rw [hX.len, hLk.len]⟩
      have HOW : Hid (∀ j (h1 : j < ys.length), ∃ gj, ys[j].ro = some ⟨gj, 0, none⟩ ∧ gj ≠ g1 ∧ gj < wr.heap.size ∧ ∃ h2 : j < m.ls.length, OwnI wr w.heap.size (.slice (some ⟨gj, 0, none⟩) ys[j].rn ys[j].rc) m.ls[j].rd) := fun j h1 => by
        have h2 : j < m.ls.length := by rw [← hX.len]; exact h1
        obtain ⟨gj, a1, a2, a3, a4⟩ := hX.ow j h1 h2 (by rw [hke, hLk.len]; exact h2)
        exact ⟨gj, a1, a2, a3, h2, a4⟩
      have HAP : Hid (∀ i j (h1 : i < ys.length) (h2 : j < ys.length), i ≠ j → ys[i].ro ≠ ys[j].ro) := fun i j h1 h2 hij => hX.ap i j h1 h2 (by rw [hke, hLk.len, ← hX.len]; exact h1) (by rw [hke, hLk.len, ← hX.len]; exact h2) hij
      have HRW : Hid (RowAt wr g1 82) := hX.row
      have hgl := hX.glt
      have hge := hX.ge
      have FW := hX.fr
      clear hX hLk
      subst hke
      have HK : Hid (∀ u, Fr wr u → ScK u rb ⟨0, none, 0, 0, none, 0, 0, none, 0, 0, none, 0, 0⟩) := fun u f => k1.fr f
      have hrl := k1.lt
      obtain ⟨mg, hmg⟩ : ∃ g, g = m.g := ⟨_, rfl⟩
      rw [← hmg] at HC
      have HMG : Hid (mg = m.g) := hmg
      clear hmg k1
      obtain ⟨c0, c1, c2, c3, c4⟩ := HC.out wr FW
      have fD := FW.trans (Fr.drew wr)
      go_wp2_with fail
      go_region_held3 (fun u => u.cell? ⟨b, 0, none⟩ = some (.int .i64 mg) ∧ u.cell? ⟨b, 1, none⟩ = some (.map (some b1)) ∧ u.cell? ⟨b, 2, none⟩ = some (.map (some b2)) ∧ u.cell? ⟨b, 3, none⟩ = some (.map (some b3)) ∧ u.cell? ⟨b, 4, none⟩ = some (.map (some b4))) (go_keep)
        (first | (go_at_call 116; refine (cC _ fD).mono ?_; rintro x u1 ⟨v1, rfl, O1, f1⟩; have q1 := (Fr.drew wr).trans f1; obtain ⟨p0, p1, p2, p3, p4⟩ := HC.out _ (FW.trans q1); obtain ⟨ga, ca, rfl, O1, hla⟩ := O1) | (go_at_call 117; refine (cN _ (FW.trans q1)).mono ?_; rintro x u2 ⟨v2, rfl, O2, f2⟩; have q2 := q1.trans f2; obtain ⟨s0, s1, s2, s3, s4⟩ := HC.out _ (FW.trans q2); obtain ⟨gb, cb, rfl, O2, hlb⟩ := O2) | (go_at_call 118; refine (cI _ (FW.trans q2)).mono ?_; rintro x u3 ⟨v3, rfl, O3, f3⟩; have q3 := q2.trans f3; obtain ⟨t0, t1, t2, t3, t4⟩ := HC.out _ (FW.trans q3); obtain ⟨gc, cc, rfl, O3⟩ := O3; obtain ⟨j0, j1, j2, j3, j4⟩ := (HK.out u3 q3).at; simp only at j0 j1 j2 j3 j4; have jf := fun i => (HK.out u3 q3).free i))
      clear c0 c1 c2 c3 c4 p0 p1 p2 p3 p4 s0 s1 s2 s3 s4 t0 t1 t2 t3 t4
      go_wp2_with fail
      have ta := O1.lt ga rfl
      have tb := O2.lt gb rfl
      have tc := O3.1.lt gc rfl
      have k5 := put5 u3 rb (.int .i64 mg) (.slice (some ⟨g1, 0, none⟩) lvs.length cap1) (.slice (some ⟨ga, 0, none⟩) m.cs.length ca) (.slice (some ⟨gb, 0, none⟩) m.gs.length cb) (.slice (some ⟨gc, 0, none⟩) m.os.length cc)
      have z1 := f1.size
      have z2 := f2.size
      have z3 := f3.size
      have z5 := k5.size
      have z6 := FW.size
      have zd : wr.drew.heap.size = wr.heap.size := rfl
      have FK : Fr w u3 := FW.trans q3
      have HRB := HRB.out
      obtain ⟨l1, l2, l3⟩ := HLK.out
      have R1 := own_readsG O1 hla
      have R2 := own_readsG O2 hlb
      have R3 := O3.reads
      refine bodyPost_ret (v := .agg #[.int .i64 mg, .slice (some ⟨g1, 0, none⟩) lvs.length cap1, .slice (some ⟨ga, 0, none⟩) m.cs.length ca, .slice (some ⟨gb, 0, none⟩) m.gs.length cb, .slice (some ⟨gc, 0, none⟩) m.os.length cc]) (by simp [results, Tryz.results52, go_sem, j0, j1, j2, j3, j4]) rfl ⟨⟨mg, some ⟨g1, 0, none⟩, lvs.length, cap1, some ⟨ga, 0, none⟩, m.cs.length, ca, some ⟨gb, 0, none⟩, m.gs.length, cb, some ⟨gc, 0, none⟩, m.os.length, cc⟩, rfl, ?_, FK.then k5 (fun j hj => by simp only [Option.some.injEq] at hj; omega), g1, ga, gb, gc, ys, ?_⟩
      have ll := l1.len
      rotate_left
      · have hbx : ∀ x, BlkL g1 ys x → x < wr.heap.size ∧ w.heap.size ≤ x ∧ x ≠ rb := by
          rintro x (rfl | ⟨j, hj, e⟩)
          · exact ⟨hgl, by omega, hgr⟩
          · obtain ⟨gj, a1, a2, a3, h2, a4⟩ := HOW.out j hj
            rw [a1] at e
            simp only [Option.some.injEq, Addr.mk.injEq, and_true] at e
            subst e
            have b1 := (l1.at_ j hj h2).bl gj (by rw [a1]; rfl)
            exact ⟨a3, by omega, by omega⟩
        refine { e1 := rfl, e2 := rfl, e3 := rfl, e4 := rfl, ll := l3, rl := (l2.fr q3).keep k5 (.inr (by simp [blk]; omega)), ol := ?_, tl := ?_, rc := ((own_row O1).keep (f2.trans f3) (by simp)).keep k5 (by simp; omega), rn := ((own_row O2).keep f3 (by simp)).keep k5 (by simp; omega), oo := (O3.lower (by omega)).keep k5 (.inr (by simp [Value.ownBlock]; omega)), ne := ⟨by omega, by omega, by omega⟩, ap := fun x hx => ?_, lo := fun x hx => ?_ }
        · exact LO.keep (LO.keep ⟨HRW.out, fun j hj => by
            obtain ⟨gj, a1, a2, a3, h2, a4⟩ := HOW.out j hj
            exact ⟨gj, a1, a2, m.ls[j].rd, ((l1.at_ j hj h2).rn).symm, a4⟩, HAP.out⟩ q3 (by simp)) k5 (fun x hx q => by
              simp only [Option.some.injEq] at hx
              exact (hbx x q).2.2 hx.symm)
        · have := totL_le ys (fun y hy => by
            obtain ⟨j, hj, rfl⟩ := List.mem_iff_getElem.1 hy
            have h2 : j < m.ls.length := l1.len ▸ hj
            rw [(l1.at_ j hj h2).rn]
            exact HRD.out _ (List.getElem_mem h2))
          omega
        · have := hbx x hx
          exact ⟨by omega, by omega, by omega⟩
        · rcases hx with hx | hx | hx | hx
          · have := hbx x hx
            exact ⟨by omega, by omega⟩
          · omega
          · omega
          · omega
      exact { g := HMG.out, ig := HG.out, lks := ⟨ys, (l2.fr q3).keep k5 (.inr (by simp [blk]; omega)), l3, ⟨ll, fun j h1 h2 => (((l1.at_ j h1 h2).fr q3).keep k5 (fun x hx => by cases hx; exact fun q => by omega)).mono (fun x q => ⟨by omega, by omega⟩)⟩⟩,
              chs := (R1.fr (f2.trans f3)).keep k5 (.inr (by simp [blk]; omega)), cl := rfl, cts := (R2.fr f3).keep k5 (.inr (by simp [blk]; omega)), nl := rfl, ons := R3.keep k5 (.inr (by simp [blk]; omega)), ol := rfl,
              bl := fun x hx => by simp only [blk, Option.map_some, Option.some.injEq] at hx; omega, bc := fun x hx => by simp only [blk, Option.map_some, Option.some.injEq] at hx; omega, bn := fun x hx => by simp only [blk, Option.map_some, Option.some.injEq] at hx; omega, bo := fun x hx => by simp only [blk, Option.map_some, Option.some.injEq] at hx; omega,
              zo := fun q => by simp at q, sl := by omega, sc := by omega, sn := by omega, so := by omega, ic := HIC.out, inn := HIN.out }
end Go.Proofs.YtplnijpolkflcaaGreatDoor
namespace Go.Proofs.YtplnijpolkflcaaGreatDoor
open Go.RowKit

theorem ReadsG.keepS {α : Type} {L : Lay α} {S : Nat → Prop} {w w' : World} {ao : Option Addr} {xs : List α} (h : ReadsG L w ao xs) (k : FrS S w w') (hs : ∀ b, blk ao = some b → ¬ S b) : ReadsG L w' ao xs := by
  refine ⟨h.len, fun i hi => ?_⟩
  obtain ⟨b, off, e, hc⟩ := h.at_ i hi
  refine ⟨b, off, e, fun j hj q hq => ?_⟩
  have h0 := hc j hj q hq
  have hlt : q < (L.cs xs[j]).length := by rw [L.len]; exact hq
  rw [List.getElem?_eq_getElem hlt] at h0 ⊢
  exact k.cell h0 (hs b (by rw [e]; rfl))
theorem RowAt.keepS {S : Nat → Prop} {w w' : World} {g : Nat} {T : TypeId} (h : RowAt w g T) (k : FrS S w w') (hs : ¬ S g) : RowAt w' g T := by
  obtain ⟨cur, hc⟩ := h
  exact ⟨cur, (k.block g (Array.getElem?_eq_some_iff.1 hc).1 hs).trans hc⟩
theorem OwnI.keepS {S : Nat → Prop} {w w' : World} {base g n c : Nat} {xs : List Int} (h : OwnI w base (.slice (some ⟨g, 0, none⟩) n c) xs) (k : FrS S w w') (hs : ¬ S g) : OwnI w' base (.slice (some ⟨g, 0, none⟩) n c) xs := by
  obtain ⟨⟨h1, h2⟩, h3⟩ := h
  rcases h2 with ⟨e, _⟩ | ⟨g', cap', cur, e, a1, hc, a2⟩
  · cases e
  · cases e
    exact ⟨⟨h1, .inr ⟨g, c, cur, rfl, a1, (k.block g (Array.getElem?_eq_some_iff.1 hc).1 hs).trans hc, a2⟩⟩, h3⟩

structure HL (w : World) (s : Sv) (lvs : List Lv) : Prop where
  ll : lvs.length = s.ll
  tl : totL lvs ≤ 1000
  l1 : s.ll ≤ 1048576
  l2 : s.cl ≤ 1048576
  l3 : s.nl ≤ 1048576
  rl : ReadsG layL w s.lo (mkLs 1 lvs)
  rr : ∀ j (hj : j < lvs.length), Reads w lvs[j].ro (ups (1 + (totL (lvs.take j) : Int) + 2) lvs[j].rn)
  rc : ReadsG layC w s.co (mkC (1 + (totL lvs : Int)) s.cl)
  rn : ReadsG layN w s.no (mkN (1 + (totL lvs : Int) + 5 * (s.cl : Int)) s.nl)
  ro : Reads w s.oo (ups (1 + (totL lvs : Int) + 5 * (s.cl : Int) + 2 * (s.nl : Int)) s.ol)
theorem HL.fr {w w' : World} {s : Sv} {lvs : List Lv} (h : HL w s lvs) (k : Fr w w') : HL w' s lvs :=
  { h with rl := h.rl.fr k, rr := fun j hj => (h.rr j hj).fr k, rc := h.rc.fr k, rn := h.rn.fr k, ro := h.ro.fr k }
def endS (s : Sv) (lvs : List Lv) : Int := 1 + (totL lvs : Int) + 5 * (s.cl : Int) + 2 * (s.nl : Int) + (s.ol : Int)
theorem HL.zero (w : World) : HL w ⟨0, none, 0, 0, none, 0, 0, none, 0, 0, none, 0, 0⟩ [] :=
  ⟨rfl, by simp [totL], by simp, by simp, by simp, ReadsG.nil _ _ _, fun j hj => absurd hj (by simp), ReadsG.nil _ _ _, ReadsG.nil _ _ _, Reads.nil _ _⟩

set_option maxHeartbeats 1000000 in
theorem heldScene_any (s : Sv) (lvs : List Lv) (w : World) (h : HL w s lvs) :
    Calls Tryz.prog 37 #[.agg #[.int .i64 s.g, .slice s.lo s.ll s.lc, .slice s.co s.cl s.cc, .slice s.no s.nl s.nc, .slice s.oo s.ol s.oc], .int .i64 1] w fun e w' => e = .returned (.int .i64 (endS s lvs)) ∧ Fr w w' := by
  have hT := h.tl
  have hL2 := h.l2
  have hL3 := h.l3
  have cL := fun u (f : Fr w u) => heldL_any s.lo s.ll s.lc 1 lvs u h.ll h.l1 (by omega) (by omega) (by omega) (h.rl.fr f) (h.fr f).rr
  have cC := fun u (f : Fr w u) => heldC_any s.co s.cl s.cc (1 + (totL lvs : Int)) u h.l2 (by omega) (by omega) (h.rc.fr f)
  have cN := fun u (f : Fr w u) => heldN_any s.no s.nl s.nc (1 + (totL lvs : Int) + 5 * (s.cl : Int)) u h.l3 (by omega) (by omega) (h.rn.fr f)
  have cO := fun u (f : Fr w u) => held_any s.oo s.ol s.oc (1 + (totL lvs : Int) + 5 * (s.cl : Int) + 2 * (s.nl : Int)) u (by omega) (by omega) (h.ro.fr f)
  have fW := Fr.alloc w (.cells #[.int .i64 s.g, .slice s.lo s.ll s.lc, .slice s.co s.cl s.cc, .slice s.no s.nl s.nc, .slice s.oo s.ol s.oc] 29)
  have k1 := ScK.new w s
  have hol : (s.ol : Int) ≤ 4294967296 := by have := h.ro.len; rw [ups_length] at this; omega
  unfold endS
  clear h
  have b1 : ((1 + (totL lvs : Int)) < 0) = False := by simp; omega
  have b2 : ((1 + (totL lvs : Int) + 5 * (s.cl : Int)) < 0) = False := by simp; omega
  have b3 : ((1 + (totL lvs : Int) + 5 * (s.cl : Int) + 2 * (s.nl : Int)) < 0) = False := by simp; omega
  have b4 : ((1 + (totL lvs : Int) + 5 * (s.cl : Int) + 2 * (s.nl : Int) + (s.ol : Int)) < 0) = False := by simp; omega
  obtain ⟨q1, hq1⟩ : ∃ q, q = (1 + (totL lvs : Int)) := ⟨_, rfl⟩
  rw [← hq1] at b1 b2 b3 b4 ⊢
  simp only [← hq1] at cL cC cN cO
  obtain ⟨q2, hq2⟩ : ∃ q, q = (q1 + 5 * (s.cl : Int)) := ⟨_, rfl⟩
  rw [← hq2] at b2 b3 b4 ⊢
  simp only [← hq2] at cC cN cO
  obtain ⟨q3, hq3⟩ : ∃ q, q = (q2 + 2 * (s.nl : Int)) := ⟨_, rfl⟩
  rw [← hq3] at b3 b4 ⊢
  simp only [← hq3] at cN cO
  obtain ⟨q4, hq4⟩ : ∃ q, q = (q3 + (s.ol : Int)) := ⟨_, rfl⟩
  rw [← hq4] at b4 ⊢
  simp only [← hq4] at cO
  clear hq1 hq2 hq3 hq4 hT hL2 hL3 hol
  obtain ⟨sg, lo, ll, lc, co, cl, cc, no, nl, nc, oo, ol, oc⟩ := s
  simp only at k1 cL cC cN cO fW ⊢
  go_enter Tryz.func37, Tryz.ntmps37
  go_wp2_with fail
  refine (cL _ fW).mono ?_
  rintro e u1 ⟨rfl, rfl⟩
  go_wp2_with fail
  refine (cC _ fW).mono ?_
  rintro e u1 ⟨rfl, rfl⟩
  go_wp2_with fail
  refine (cN _ fW).mono ?_
  rintro e u1 ⟨rfl, rfl⟩
  go_wp2_with fail
  refine (cO _ fW).mono ?_
  rintro e u1 ⟨rfl, rfl⟩
  go_wp2_with fail
  go_ret
  exact ⟨rfl, fW⟩
theorem HL.made {w u1 u2 u3 u4 : World} {base gl gc gn go ll lc cl cc nl nc ol oc : Nat} {lvs : List Lv} (sgi : Int) (hll : ll = lvs.length) (ht : totL lvs ≤ 1000) (l1 : ll ≤ 1048576) (l2 : cl ≤ 1048576) (l3 : nl ≤ 1048576) (ne : gc ≠ gn ∧ gc ≠ go ∧ gn ≠ go) (ap : ∀ x, BlkL gl lvs x → x ≠ gc ∧ x ≠ gn ∧ x ≠ go)
    (M : MX w u1 gl base 1 lvs lvs.length) (C : ReadsG layC u2 (some ⟨gc, 0, none⟩) (mkC (1 + (totL lvs : Int)) cl)) (g2 : u1.grownBy u2 (some gc)) (N : ReadsG layN u3 (some ⟨gn, 0, none⟩) (mkN (1 + (totL lvs : Int) + 5 * (cl : Int)) nl)) (g3 : u2.grownBy u3 (some gn)) (O : OwnI u4 base (.slice (some ⟨go, 0, none⟩) ol oc) (ups (1 + (totL lvs : Int) + 5 * (cl : Int) + 2 * (nl : Int)) ol)) (g4 : u3.grownBy u4 (some go)) :
    HL u4 ⟨sgi, some ⟨gl, 0, none⟩, ll, lc, some ⟨gc, 0, none⟩, cl, cc, some ⟨gn, 0, none⟩, nl, nc, some ⟨go, 0, none⟩, ol, oc⟩ lvs := by
  have a0 := ap gl (.inl rfl)
  have rd : ReadsG layL u1 (some ⟨gl, 0, none⟩) (mkLs 1 lvs) := by simpa using M.rd
  have nb : ∀ {a b : Nat}, a ≠ b → (some b : Option Nat) = none ∨ blk (some ⟨a, 0, none⟩) ≠ some b := fun h => .inr (by simpa [blk] using h)
  refine ⟨hll.symm, ht, l1, l2, l3, ((rd.keep g2 (nb a0.1)).keep g3 (nb a0.2.1)).keep g4 (nb a0.2.2), fun j hj => ?_, (C.keep g3 (nb ne.1)).keep g4 (nb ne.2.1), N.keep g4 (nb ne.2.2), O.reads⟩
  obtain ⟨gj, e, -, o⟩ := M.new j hj hj
  have aj := ap gj (.inr ⟨j, hj, e⟩)
  rw [e]
  have o2 := own_other o g2 aj.1
  have o3 := own_other o2 g3 aj.2.1
  exact (own_other o3 g4 aj.2.2).reads

set_option maxHeartbeats 2000000 in
theorem markScene_any {B : Nat → Prop} {base gl gc gn go : Nat} {lvs : List Lv} (s : Sv) (m : Scn) (w : World) (hR : ScR B w s m) (hO : ScO base w s m gl gc gn go lvs) :
    Calls Tryz.prog 36 #[.agg #[.int .i64 s.g, .slice s.lo s.ll s.lc, .slice s.co s.cl s.cc, .slice s.no s.nl s.nc, .slice s.oo s.ol s.oc], .int .i64 1] w fun e w' => e = .returned (.int .i64 (endS s lvs)) ∧ HL w' s lvs ∧ FrS (fun x => BlkL gl lvs x ∨ x = gc ∨ x = gn ∨ x = go) w w' := by
  have fW := Fr.alloc w (.cells #[.int .i64 s.g, .slice s.lo s.ll s.lc, .slice s.co s.cl s.cc, .slice s.no s.nl s.nc, .slice s.oo s.ol s.oc] 29)
  have k1 := ScK.new w s
  have hl : lvs.length ≤ 1048576 := by
    obtain ⟨l2, -, e, L⟩ := hR.lks
    have := hR.sl
    have := L.len
    have := hO.ll
    omega
  have ht := hO.tl
  have hcl := hR.cl
  have hnl := hR.nl
  have hol := hR.ol
  have hsc := hR.sc
  have hsn := hR.sn
  have hO1 := hO.fr fW
  have hR1 := hR.fr fW
  have hlo := hO.lo
  have hap := hO.ap
  have hne := hO.ne
  have cL := markL_any gl s.ll s.lc base 1 lvs _ hO.ll.symm (by rw [hO.ll]; exact hl) (by omega) (by omega) (by omega) hO1.rl hO1.ol
  have cC := fun u h hr => markC_any gc s.cl s.cc (1 + (totL lvs : Int)) m.cs u hcl.symm (by omega) (by omega) (by omega) h hr
  have cN := fun u h hr => markN_any gn s.nl s.nc (1 + (totL lvs : Int) + 5 * (s.cl : Int)) m.gs u hnl.symm (by omega) (by omega) (by omega) h hr
  have cO := fun u h => mark_any go s.ol s.oc base (1 + (totL lvs : Int) + 5 * (s.cl : Int) + 2 * (s.nl : Int)) m.os u hol.symm (by omega) (by omega) h
  have hC := hR1.chs
  have hN := hR1.cts
  have hrc := hO1.rc
  have hrn := hO1.rn
  have hoo := hO1.oo
  have hll := hO.ll
  obtain ⟨e1, e2, e3, e4⟩ : _ ∧ _ ∧ _ ∧ _ := ⟨hO.e1, hO.e2, hO.e3, hO.e4⟩
  unfold endS
  clear hO hR hO1 hR1 hol
  obtain ⟨sg, lo, ll, lc, co, cl, cc, no, nl, nc, oo, ol, oc⟩ := s
  simp only at k1 cL cC cN cO fW hC hN hrc hrn hoo e1 e2 e3 e4 hcl hnl hll ⊢
  subst e1 e2 e3 e4
  have HM := fun u1 u2 u3 u4 M C g2 N g3 O g4 => HL.made (w := w.alloc (.cells #[.int .i64 sg, .slice (some ⟨gl, 0, none⟩) ll lc, .slice (some ⟨gc, 0, none⟩) cl cc, .slice (some ⟨gn, 0, none⟩) nl nc, .slice (some ⟨go, 0, none⟩) ol oc] 29)) (u1 := u1) (u2 := u2) (u3 := u3) (u4 := u4) (base := base) (lc := lc) (cl := cl) (cc := cc) (nl := nl) (nc := nc) (ol := ol) (oc := oc) sg hll ht (by omega) (by omega) (by omega) hne hap M C g2 N g3 O g4
  have HK : Hid (∀ x, BlkL gl lvs x ∨ x = gc ∨ x = gn ∨ x = go → base ≤ x ∧ x < w.heap.size) := hlo
  have HP : Hid (∀ x, BlkL gl lvs x → x ≠ gc ∧ x ≠ gn ∧ x ≠ go) := hap
  obtain ⟨q1, hq1⟩ : ∃ q, q = (1 + (totL lvs : Int)) := ⟨_, rfl⟩
  simp only [← hq1] at cL cC cN cO HM ⊢
  obtain ⟨q2, hq2⟩ : ∃ q, q = (q1 + 5 * (cl : Int)) := ⟨_, rfl⟩
  simp only [← hq2] at cC cN cO HM ⊢
  obtain ⟨q3, hq3⟩ : ∃ q, q = (q2 + 2 * (nl : Int)) := ⟨_, rfl⟩
  simp only [← hq3] at cN cO HM ⊢
  obtain ⟨q4, hq4⟩ : ∃ q, q = (q3 + (ol : Int)) := ⟨_, rfl⟩
  simp only [← hq4] at cO ⊢
  have HN : Hid (gc ≠ gn ∧ gc ≠ go ∧ gn ≠ go) := hne
  clear hq1 hq2 hq3 hq4 ht hsc hsn hl hcl hnl hll hlo hap hne
  have nb : ∀ {a b : Nat}, a ≠ b → (some b : Option Nat) = none ∨ blk (some ⟨a, 0, none⟩) ≠ some b := fun h => .inr (by simpa [blk] using h)
  go_enter Tryz.func36, Tryz.ntmps36
  go_wp2_with fail
  refine (cL).mono ?_
  rintro e u1 ⟨rfl, M1⟩
  have S1 := M1.fr
  have k1 : ScK u1 w.heap.size ⟨sg, some ⟨gl, 0, none⟩, ll, lc, some ⟨gc, 0, none⟩, cl, cc, some ⟨gn, 0, none⟩, nl, nc, some ⟨go, 0, none⟩, ol, oc⟩ := (S1.block w.heap.size k1.lt (fun q => by have := HK.out _ (.inl q); omega)).trans k1
  obtain ⟨a0, a1, a2, a3, a4⟩ := k1.at
  simp only at a0 a1 a2 a3 a4
  have hC := hC.keepS S1 (fun b e q => by cases e; exact (HP.out _ q).1 rfl)
  have hN := hN.keepS S1 (fun b e q => by cases e; exact (HP.out _ q).2.1 rfl)
  have hrc := hrc.keepS S1 (fun q => (HP.out _ q).1 rfl)
  have hrn := hrn.keepS S1 (fun q => (HP.out _ q).2.1 rfl)
  have hoo := hoo.keepS S1 (fun q => (HP.out _ q).2.2 rfl)
  go_wp2_with fail
  refine (cC _ hC hrc).mono ?_
  rintro e u2 ⟨rfl, C2, -, g2⟩
  clear a0 a1 a2 a3 a4
  have k1 := k1.keep g2 (fun e => by cases e; have := HK.out _ (.inr (.inl rfl)); omega)
  obtain ⟨a0, a1, a2, a3, a4⟩ := k1.at
  simp only at a0 a1 a2 a3 a4
  have hN := hN.keep g2 (nb (HN.out.1.symm))
  have hrn := hrn.keep g2 (fun e => by cases e; exact HN.out.1 rfl)
  have hoo := own_other hoo g2 HN.out.2.1.symm
  go_wp2_with fail
  refine (cN _ hN hrn).mono ?_
  rintro e u3 ⟨rfl, N3, -, g3⟩
  clear a0 a1 a2 a3 a4
  have k1 := k1.keep g3 (fun e => by cases e; have := HK.out _ (.inr (.inr (.inl rfl))); omega)
  obtain ⟨a0, a1, a2, a3, a4⟩ := k1.at
  simp only at a0 a1 a2 a3 a4
  have hoo := own_other hoo g3 HN.out.2.2.symm
  go_wp2_with fail
  refine (cO _ hoo).mono ?_
  rintro e u4 ⟨rfl, O4, g4⟩
  go_wp2_with fail
  go_ret
  have F1 : FrS (fun x => BlkL gl lvs x ∨ x = gc ∨ x = gn ∨ x = go) _ u1 := ⟨S1.os, S1.tape, S1.output, S1.size, fun k hk hs => S1.block k hk (fun q => hs (.inl q))⟩
  exact ⟨rfl, HM u1 u2 u3 u4 M1 C2 g2 N3 g3 O4 g4, fW.toS.trans (F1.trans ((grown_toS g2 (.inr (.inl rfl))).trans ((grown_toS g3 (.inr (.inr (.inl rfl)))).trans (grown_toS g4 (.inr (.inr (.inr rfl)))))))⟩

set_option maxHeartbeats 400000 in
theorem markScene_zero (w : World) : Calls Tryz.prog 36 #[.agg #[.int .i64 0, .slice none 0 0, .slice none 0 0, .slice none 0 0, .slice none 0 0], .int .i64 1] w fun e w' => e = .returned (.int .i64 1) ∧ Fr w w' := by
  go_enter Tryz.func36, Tryz.ntmps36
  go_wp2_with fail
  refine (markLockS_nil _ _).mono ?_
  rintro e u1 ⟨rfl, rfl⟩
  go_wp2_with fail
  refine (markChanS_nil _ _).mono ?_
  rintro e u1 ⟨rfl, rfl⟩
  go_wp2_with fail
  refine (markCountS_nil _ _).mono ?_
  rintro e u1 ⟨rfl, rfl⟩
  go_wp2_with fail
  refine (markInt64S_nil _ _).mono ?_
  rintro e u1 ⟨rfl, rfl⟩
  go_wp2_with fail
  go_ret
  exact ⟨rfl, Fr.alloc _ _⟩

def Mky (base top : Nat) (w : World) (s : Sv) (m : Scn) : Prop :=
  (∃ gl gc gn go ys, ScO base w s m gl gc gn go ys ∧ ∀ x, (BlkL gl ys x ∨ x = gc ∨ x = gn ∨ x = go) → x < top) ∨ s = ⟨0, none, 0, 0, none, 0, 0, none, 0, 0, none, 0, 0⟩
theorem Mky.fr {base top : Nat} {w w' : World} {s : Sv} {m : Scn} (h : Mky base top w s m) (k : Fr w w') : Mky base top w' s m := by
  rcases h with ⟨gl, gc, gn, go, ys, h, q⟩ | h
  · exact .inl ⟨gl, gc, gn, go, ys, h.fr k, q⟩
  · exact .inr h
theorem Mky.keep {base top : Nat} {w w' : World} {s : Sv} {m : Scn} {row : Nat} (h : Mky base top w s m) (k : w.grownBy w' (some row)) (hr : row < base) : Mky base top w' s m := by
  rcases h with ⟨gl, gc, gn, go, ys, h, q⟩ | h
  · exact .inl ⟨gl, gc, gn, go, ys, h.keep k (.inl hr), q⟩
  · exact .inr h
theorem markS_any {B : Nat → Prop} {base top : Nat} (s : Sv) (m : Scn) (w : World) (hR : ScR B w s m) (h : Mky base top w s m) :
    Calls Tryz.prog 36 #[.agg #[.int .i64 s.g, .slice s.lo s.ll s.lc, .slice s.co s.cl s.cc, .slice s.no s.nl s.nc, .slice s.oo s.ol s.oc], .int .i64 1] w fun e w' => ∃ lvs, e = .returned (.int .i64 (endS s lvs)) ∧ HL w' s lvs ∧ FrS (fun x => base ≤ x ∧ x < top) w w' := by
  rcases h with ⟨gl, gc, gn, go, ys, h, q⟩ | rfl
  · refine (markScene_any s m w hR h).mono ?_
    rintro e w' ⟨rfl, H, f⟩
    exact ⟨ys, rfl, H, ⟨f.os, f.tape, f.output, f.size, fun k hk hs => f.block k hk (fun x => hs ⟨(h.lo k x).1, q k x⟩)⟩⟩
  · refine (markScene_zero w).mono ?_
    rintro e w' ⟨rfl, f⟩
    exact ⟨[], rfl, HL.zero w', f.toS⟩
theorem endS_pos (s : Sv) (lvs : List Lv) : 0 ≤ endS s lvs := by
  unfold endS
  omega
end Go.Proofs.YtplnijpolkflcaaGreatDoor
