/-
  The drawing of scenes: l4DrawAny.
-/
import Derived.Test.YtcofhmikdkkigaaGreatDoorScDrw
import Derived.Test.YtcofhmikdkkigaaGreatDoorScDrwR
import Derived.Test.YtcofhmikdkkigaaGreatDoorPfBM
import Derived.Deep.Cut
namespace Go.Proofs.YtcofhmikdkkigaaGreatDoor
open Go.RowKit

set_option maxRecDepth 20000 in
set_option maxHeartbeats 4000000 in
theorem l4DrawAny_any (g : Nat) (w : World) (hc : Cur w g) :
    Calls Tryz.prog 90 #[.pointer (some ⟨g, 0, none⟩)] w fun x w' => ∃ (s : Sv) (m : Scn) (B : Nat → Prop), x = .returned (.agg #[.int .i64 s.g, .slice s.lo s.ll s.lc, .slice s.co s.cl s.cc, .slice s.no s.nl s.nc, .slice s.oo s.ol s.oc]) ∧ ScR B w' s m ∧ (∀ b, B b → w.heap.size ≤ b ∧ b < w'.heap.size) ∧ Cur w' g ∧ w.grownBy w' (some g) := by
  have f0 := Fr.alloc w (.cells #[.int .i64 0, .slice none 0 0, .slice none 0 0, .slice none 0 0, .slice none 0 0] 29)
  have k0 := ScK.new w ⟨0, none, 0, 0, none, 0, 0, none, 0, 0, none, 0, 0⟩
  simp only at k0
  have hgl := hc.lt
  have cD := l4Draw_own g _ (hc.fr f0)
  have hz0 : (w.alloc (.cells #[.int .i64 0, .slice none 0 0, .slice none 0 0, .slice none 0 0, .slice none 0 0] 29)).heap.size = w.heap.size + 1 := by simp
  go_enter Tryz.func90, Tryz.ntmps90
  go_wp2_with fail
  refine cD.mono ?_
  rintro x u1 ⟨⟨sg, lo, ll, lc, co, cl, cc, no, nl, nc, oo, ol, oc⟩, m, B, rfl, S1, O1, FW, B1, c1, g1⟩
  have k1 := k0.keep g1 (by simp only [ne_eq, Option.some.injEq]; omega)
  have hrl := k0.lt
  have fA := Fr.alloc u1 (.cells #[.int .i64 sg, .slice lo ll lc, .slice co cl cc, .slice no nl nc, .slice oo ol oc] 29)
  have kA := ScK.new u1 ⟨sg, lo, ll, lc, co, cl, cc, no, nl, nc, oo, ol, oc⟩
  simp only at kA
  have hz1 := g1.size
  have hzA := fA.size
  have hrl1 := k1.lt
  have D0 : DA w g w.heap.size u1.heap.size ⟨sg, lo, ll, lc, co, cl, cc, no, nl, nc, oo, ol, oc⟩ ⟨sg, lo, ll, lc, co, cl, cc, no, nl, nc, oo, ol, oc⟩ m B (u1.alloc (.cells #[.int .i64 sg, .slice lo ll lc, .slice co cl cc, .slice no nl nc, .slice oo ol oc] 29)) :=
    ⟨c1.fr fA, grown_trans f0.wide (grown_trans g1 fA.wide), hgl, kA, k1.fr fA, S1.fr fA, ⟨Nat.le_refl _, by omega⟩, fun b q => by have := B1 b q; exact ⟨by omega, by omega, by omega, by omega⟩⟩
  have O0 := O1.fr fA
  obtain ⟨U, hU⟩ : ∃ U, U = u1.alloc (.cells #[.int .i64 sg, .slice lo ll lc, .slice co cl cc, .slice no nl nc, .slice oo ol oc] 29) := ⟨_, rfl⟩
  clear cD hc k0 S1 O1 B1 c1 g1 k1 fA kA hz0 hz1 hzA hrl hrl1 f0 hgl
  go_wp2_with fail
  rw [← hU] at D0 O0 ⊢
  obtain ⟨sb, hsb⟩ : ∃ sb, sb = u1.heap.size := ⟨_, rfl⟩
  rw [← hsb] at D0 ⊢
  obtain ⟨rb, hrb⟩ : ∃ rb, rb = w.heap.size := ⟨_, rfl⟩
  have hD : DA w g rb sb ⟨sg, lo, ll, lc, co, cl, cc, no, nl, nc, oo, ol, oc⟩ ⟨sg, lo, ll, lc, co, cl, cc, no, nl, nc, oo, ol, oc⟩ m B U := by rw [hrb]; exact D0
  rw [← hrb]
  clear hU hsb hrb D0
  have HO : Hid (OwR U ⟨sg, lo, ll, lc, co, cl, cc, no, nl, nc, oo, ol, oc⟩) := O0
  have HW : Hid (Few m) := FW
  clear O0 FW
  refine (l1Once_any g 8 U hD.cur).mono ?_
  rintro x u2 ⟨b, rfl, c2, k2⟩
  have HO : Hid _ := HO.out.keep hD.scr k2 (fun j hj => by cases hj; exact fun q => by have := (hD.bB _ q).1; have := hD.gl; omega)
  have hD := hD.draw c2 k2
  clear c2 k2
  cases b
  · obtain ⟨s0, s1, s2, s3, s4⟩ := hD.sc.at
    obtain ⟨j0, j1, j2, j3, j4⟩ := hD.rk.at
    simp only at s0 s1 s2 s3 s4 j0 j1 j2 j3 j4
    have jf := fun i => hD.rk.free i
    go_wp2_with fail
    refine bodyPost_ret (v := .agg #[.int .i64 sg, .slice lo ll lc, .slice co cl cc, .slice no nl nc, .slice oo ol oc]) (by simp [results, Tryz.results90, go_sem, j0, j1, j2, j3, j4]) rfl ⟨⟨sg, lo, ll, lc, co, cl, cc, no, nl, nc, oo, ol, oc⟩, m, B, rfl, hD.fin _ _ _ _ _ rfl⟩
  · go_wp2_with fail
    refine (l1Below_any g 7 _ hD.cur).mono ?_
    rintro x u3 ⟨y, rfl, y0, y1, y2, c3, k3⟩
    have y1 := y1 (by decide)
    clear y2
    have HO : Hid _ := HO.out.keep hD.scr k3 (fun j hj => by cases hj; exact fun q => by have := (hD.bB _ q).1; have := hD.gl; omega)
    have hD := hD.draw c3 k3
    clear c3 k3
    obtain ⟨s0, s1, s2, s3, s4⟩ := hD.sc.at
    simp only at s0 s1 s2 s3 s4
    rcases (show y = 0 ∨ y = 1 ∨ y = 2 ∨ y = 3 ∨ y = 4 ∨ y = 5 ∨ y = 6 by omega) with rfl | rfl | rfl | rfl | rfl | rfl | rfl
    · go_wp2_with fail
      refine (l1Num_any g 16 _ hD.cur (by decide) (by decide)).mono ?_
      rintro x u4 ⟨z, rfl, z0, c4, k4⟩
      have hD := (hD.draw c4 k4).gors z z0
      clear c4 k4 s0 s1 s2 s3 s4
      have hE := hD.boxed (hD.sc.setG z)
      have hfz := hD.sc.free 0
      obtain ⟨s0, s1, s2, s3, s4⟩ := hD.sc.at
      obtain ⟨t0, t1, t2, t3, t4⟩ := hE.sc.at
      obtain ⟨j0, j1, j2, j3, j4⟩ := hE.rk.at
      simp only at s0 s1 s2 s3 s4 t0 t1 t2 t3 t4 j0 j1 j2 j3 j4
      have jf := fun i => hE.rk.free i
      go_wp2_with fail
      refine bodyPost_ret (v := .agg #[.int .i64 z, .slice lo ll lc, .slice co cl cc, .slice no nl nc, .slice oo ol oc]) (by simp [results, Tryz.results90, go_sem, j0, j1, j2, j3, j4]) rfl ⟨⟨z, lo, ll, lc, co, cl, cc, no, nl, nc, oo, ol, oc⟩, _, B, rfl, hE.fin _ _ _ _ _ rfl⟩
    · go_wp2_with fail
      have hz : u3.heap.size ≤ u3.heap.size := Nat.le_refl _
      obtain ⟨z, hzz⟩ : ∃ z, z = u3.heap.size := ⟨_, rfl⟩
      have HZ : Hid (z = u3.heap.size) := hzz
      have HGZ : Hid (g < z) := by have h1 := hD.gl; have h2 := hD.gro.size; show g < z; omega
      have HD : Hid _ := hD
      clear hz hzz s0 s1 s2 s3 s4 hD y0 y1
      obtain ⟨svv, hsv⟩ : ∃ v : Value, v = .agg #[.int .i64 sg, .slice lo ll lc, .slice co cl cc, .slice no nl nc, .slice oo ol oc] := ⟨_, rfl⟩
      rw [← hsv]
      clear hsv
      refine wp_region_last 10 8 dsD7 coD7 (mkD7 g rb sb svv) (RD7 g sb z (.slice lo ll lc) (PA1 w g rb sb ⟨sg, lo, ll, lc, co, cl, cc, no, nl, nc, oo, ol, oc⟩)) (CD w g rb sb z ⟨sg, lo, ll, lc, co, cl, cc, no, nl, nc, oo, ol, oc⟩ m B 8) ?_ (by kernel_rfl) (by kernel_rfl) (by kernel_rfl) (by kernel_rfl) (by decide) (by kernel_rfl) (dst_of (by kernel_rfl)) (by kernel_rfl) (fun _ => undef) rfl ?_ ?_
      · exact CD.mk (HD.out.fr (Fr.drew u3)) (HO.out.fr (Fr.drew u3)) (by rw [HZ.out]; exact (Fr.drew u3).size)
      · intro i o X u L hi ho FC hL hLc hq1 hq2 hX
        rcases i with _ | _ | _ | _ | _ | _ | _ | _ | _ | _ | i
        · simp only [List.getElem?_toArray, List.getElem?_cons_zero, Option.some.injEq] at ho
          subst ho
          refine ⟨by simp [Region.wanted], ?_⟩
          simp only [mkD7]
          obtain ⟨D, O, hz⟩ := FC (hq1 (by decide))
          go_simp
          exact ⟨.pointer (some ⟨sb, 1, none⟩), by simp [upd, dsD7], CD.mk D O hz, rfl⟩
        · simp only [List.getElem?_toArray, List.getElem?_cons_succ, List.getElem?_cons_zero, Option.some.injEq] at ho
          subst ho
          refine ⟨by simp [Region.wanted], ?_⟩
          simp only [mkD7]
          obtain ⟨D, O, hz⟩ := FC (hq1 (by decide))
          have e0 : X 17 = _ := hX 0 (by decide) rfl
          have c0 := D.sc.at.c1
          simp only at c0
          go_simp
          exact ⟨.slice lo ll lc, by simp [upd, dsD7, e0], CD.mk D O hz, rfl⟩
        · simp only [List.getElem?_toArray, List.getElem?_cons_succ, List.getElem?_cons_zero, Option.some.injEq] at ho
          subst ho
          refine ⟨by simp [Region.wanted], ?_⟩
          simp only [mkD7]
          obtain ⟨D, O, hz⟩ := FC (hq1 (by decide))
          go_simp
          exact ⟨.pointer (some ⟨g, 0, none⟩), by simp [upd, dsD7], CD.mk D O hz, rfl⟩
        · simp only [List.getElem?_toArray, List.getElem?_cons_succ, List.getElem?_cons_zero, Option.some.injEq] at ho
          subst ho
          refine ⟨by simp [Region.wanted], ?_⟩
          simp only [mkD7]
          obtain ⟨D, O, hz⟩ := FC (hq1 (by decide))
          have e0 : X 19 = _ := hX 2 (by decide) rfl
          have q := l1Below_any g 17 u D.cur
          go_simp
          refine q.mono ?_
          rintro y u' ⟨x, rfl, x0, -, x2, c1, k1⟩
          exact ⟨.int .i64 x, by simp [upd, dsD7, e0], CD.mk (D.draw c1 k1) (D.own O k1) (Nat.le_trans hz k1.size), ⟨x, rfl, ⟨by omega, by omega⟩⟩, fun q x _ _ _ _ h => RD7_keep h k1 (fun j hj => by cases hj; exact HGZ.out) (PA1.draw c1 k1)⟩
        · simp only [List.getElem?_toArray, List.getElem?_cons_succ, List.getElem?_cons_zero, Option.some.injEq] at ho
          subst ho
          refine ⟨by simp [Region.wanted], ?_⟩
          simp only [mkD7]
          obtain ⟨D, O, hz⟩ := FC (hq1 (by decide))
          go_simp
          exact ⟨.pointer (some ⟨g, 0, none⟩), by simp [upd, dsD7], CD.mk D O hz, rfl⟩
        · simp only [List.getElem?_toArray, List.getElem?_cons_succ, List.getElem?_cons_zero, Option.some.injEq] at ho
          subst ho
          refine ⟨by simp [Region.wanted], ?_⟩
          simp only [mkD7]
          obtain ⟨D, O, hz⟩ := FC (hq1 (by decide))
          have e0 : X 21 = _ := hX 4 (by decide) rfl
          have q := l1From_any g (-1) 2 u D.cur (by decide) (by decide) (by decide)
          go_simp
          refine q.mono ?_
          rintro y u' ⟨x, rfl, x0, x2, c1, k1⟩
          exact ⟨.int .i64 x, by simp [upd, dsD7, e0], CD.mk (D.draw c1 k1) (D.own O k1) (Nat.le_trans hz k1.size), ⟨x, rfl, ⟨by omega, by omega⟩⟩, fun q x _ _ _ _ h => RD7_keep h k1 (fun j hj => by cases hj; exact HGZ.out) (PA1.draw c1 k1)⟩
        · simp only [List.getElem?_toArray, List.getElem?_cons_succ, List.getElem?_cons_zero, Option.some.injEq] at ho
          subst ho
          refine ⟨by simp [Region.wanted], ?_⟩
          simp only [mkD7]
          obtain ⟨D, O, hz⟩ := FC (hq1 (by decide))
          obtain ⟨x0, e0, h0⟩ : PInt (X 20) := hX 3 (by decide) rfl
          obtain ⟨x1, e1, h1⟩ : PInt (X 22) := hX 5 (by decide) rfl
          go_simp
          exact ⟨.agg #[.int .i64 x0, .int .i64 x1, .slice none 0 0], by simp [upd, dsD7, e0, e1], CD.mk D O hz, ⟨⟨x0, x1, none, 0, 0⟩, rfl, ⟨⟨x0, x1, []⟩, ⟨rfl, rfl, rfl, Reads.nil _ _, fun b hb => by simp [blk] at hb, fun _ => rfl, by simp, h0, h1⟩⟩⟩⟩
        · simp only [List.getElem?_toArray, List.getElem?_cons_succ, List.getElem?_cons_zero, Option.some.injEq] at ho
          subst ho
          refine ⟨by simp [Region.wanted], ?_⟩
          simp only [mkD7]
          obtain ⟨D, O, hz⟩ := FC (hq1 (by decide))
          obtain ⟨el, e0, h0⟩ : PEl layL PPlock0 z (X 23) u := hX 6 (by decide) rfl
          obtain ⟨p0, p1, p2, p3, p4⟩ := el
          simp only [layL] at e0
          go_simp
          have f := Fr.alloc u (.cells #[.int .i64 p0, .int .i64 p1, .slice p2 p3 p4] 86)
          exact ⟨.slice (some ⟨u.heap.size, 0, none⟩) 1 1, by simp [upd, dsD7, e0], CD.mk (D.fr f) (O.fr f) (Nat.le_trans hz f.size), ⟨u.heap.size, ⟨p0, p1, p2, p3, p4⟩, rfl, hz, newG layL (heap_alloc_new u _), PPlock0_keep (row := none) (by simp) _ _ h0 f⟩, fun q x _ _ _ _ h => RD7_keep h f (by simp) (PA1.fr f)⟩
        · simp only [List.getElem?_toArray, List.getElem?_cons_succ, List.getElem?_cons_zero, Option.some.injEq] at ho
          subst ho
          refine ⟨by simp [Region.wanted], ?_⟩
          simp only [mkD7]
          have FCX := FC
          clear FC hLc hq1
          have hall := hq2 rfl
          have FC : DA w g rb sb ⟨sg, lo, ll, lc, co, cl, cc, no, nl, nc, oo, ol, oc⟩ ⟨sg, lo, ll, lc, co, cl, cc, no, nl, nc, oo, ol, oc⟩ m B u ∧ OwR u ⟨sg, lo, ll, lc, co, cl, cc, no, nl, nc, oo, ol, oc⟩ ∧ z ≤ u.heap.size := FCX hL
          obtain ⟨D, O, hz⟩ := FC
          have e0 : X 18 = _ := hX 1 (by decide) rfl
          obtain ⟨b1, el, e1, hb1, hn, he⟩ : PSl layL PPlock0 z (X 24) u := hX 7 (by decide) rfl
          clear hX
          obtain ⟨xs, hown, hrd⟩ := O.l
          have hlen : xs.length ≤ 16 := by have h1 := hown.reads.2; obtain ⟨ys, -, h2, h3⟩ := D.scr.lks; have h4 := h3.len; have := HW.out.1; simp only at h1 h2; omega
          refine op_appH layL (.tmp 18) (.tmp 24) 24 _ 40 rfl Tryz.underlying24 Tryz.infoL rfl (by decide) lo ll lc xs el e0 hown b1 1 e1 hn (by omega) ?_
          intro g' c' u' own gr hat
          obtain ⟨kk, hk⟩ := he
          obtain ⟨B', D'⟩ := D.locks O HW.out.1 hown hk (fun b q => ⟨⟨by have h1 := D.gro.size; have h2 := q.1; have h3 := HD.out.gro.size; have h4 := HZ.out; omega, q.2.lt, by have h2 := q.1; have h3 := HD.out.sc.lt; have h4 := HZ.out; omega, by have h2 := q.1; have h3 := HD.out.rk.lt; have h4 := HZ.out; omega⟩, q.2⟩) own gr hat
          refine ⟨.slice (some ⟨g', 0, none⟩) (xs.length + 1) c', ?_, CD.no, ⟨_, _, _, _, B', rfl, D'⟩, fun q x h1 h2 h3 h4 h => RD7_past h1 h2 h3 h4 hall h⟩
          simp [Act.put, upd, dsD7, e0, e1]
        · simp only [List.getElem?_toArray, List.getElem?_cons_succ, List.getElem?_cons_zero, Option.some.injEq] at ho
          subst ho
          refine ⟨by simp [Region.wanted], ?_⟩
          simp only [mkD7]
          go_simp
          exact ⟨.pointer (some ⟨sb, 1, none⟩), by simp [upd, dsD7], CD.up FC (by decide), rfl⟩
        · omega
      · intro o X u L ho FC hall hX
        simp only [List.getElem?_toArray, List.getElem?_cons_succ, List.getElem?_cons_zero, Option.some.injEq] at ho
        subst ho
        refine ⟨by simp [Region.wanted], ?_⟩
        obtain ⟨ao, n, c, m', B', e0, D⟩ := (show (PA1 w g rb sb ⟨sg, lo, ll, lc, co, cl, cc, no, nl, nc, oo, ol, oc⟩) (X 25) u from hX 8 (by decide) rfl)
        have e1 : X 26 = .pointer (some ⟨sb, 1, none⟩) := hX 9 (by decide) rfl
        clear FC hall hX HD HO
        have hE := D.boxed (D.sc.setL ao n c)
        have hfz := D.sc.free 1
        have hlo := D.sc.at.c1
        simp only at hlo
        obtain ⟨t0, t1, t2, t3, t4⟩ := hE.sc.at
        obtain ⟨j0, j1, j2, j3, j4⟩ := hE.rk.at
        simp only at t0 t1 t2 t3 t4 j0 j1 j2 j3 j4
        have jf := fun i => hE.rk.free i
        simp only [mkD7]
        go_simp
        go_wp2_with fail
        refine bodyPost_ret (v := .agg #[.int .i64 sg, .slice ao n c, .slice co cl cc, .slice no nl nc, .slice oo ol oc]) (by simp [results, Tryz.results90, go_sem, j0, j1, j2, j3, j4]) rfl (by first | exact ⟨⟨sg, ao, n, c, co, cl, cc, no, nl, nc, oo, ol, oc⟩, m', B', rfl, hE.fin _ _ _ _ _ rfl⟩ | exact ⟨⟨sg, ao, n, c, co, cl, cc, no, nl, nc, oo, ol, oc⟩, rfl, m', B', hE.fin _ _ _ _ _ rfl⟩)
    · go_wp2_with fail
      have hz : u3.heap.size ≤ u3.heap.size := Nat.le_refl _
      obtain ⟨z, hzz⟩ : ∃ z, z = u3.heap.size := ⟨_, rfl⟩
      have HZ : Hid (z = u3.heap.size) := hzz
      have HGZ : Hid (g < z) := by have h1 := hD.gl; have h2 := hD.gro.size; show g < z; omega
      have HD : Hid _ := hD
      clear hz hzz s0 s1 s2 s3 s4 hD y0 y1
      obtain ⟨svv, hsv⟩ : ∃ v : Value, v = .agg #[.int .i64 sg, .slice lo ll lc, .slice co cl cc, .slice no nl nc, .slice oo ol oc] := ⟨_, rfl⟩
      rw [← hsv]
      clear hsv
      refine wp_region_last 11 9 dsD9 coD9 (mkD9 g rb sb svv) (RD9 g sb z (.slice lo ll lc) (PA1 w g rb sb ⟨sg, lo, ll, lc, co, cl, cc, no, nl, nc, oo, ol, oc⟩)) (CD w g rb sb z ⟨sg, lo, ll, lc, co, cl, cc, no, nl, nc, oo, ol, oc⟩ m B 9) ?_ (by kernel_rfl) (by kernel_rfl) (by kernel_rfl) (by kernel_rfl) (by decide) (by kernel_rfl) (dst_of (by kernel_rfl)) (by kernel_rfl) (fun _ => undef) rfl ?_ ?_
      · exact CD.mk (HD.out.fr (Fr.drew u3)) (HO.out.fr (Fr.drew u3)) (by rw [HZ.out]; exact (Fr.drew u3).size)
      · intro i o X u L hi ho FC hL hLc hq1 hq2 hX
        rcases i with _ | _ | _ | _ | _ | _ | _ | _ | _ | _ | _ | i
        · simp only [List.getElem?_toArray, List.getElem?_cons_zero, Option.some.injEq] at ho
          subst ho
          refine ⟨by simp [Region.wanted], ?_⟩
          simp only [mkD9]
          obtain ⟨D, O, hz⟩ := FC (hq1 (by decide))
          go_simp
          exact ⟨.pointer (some ⟨sb, 1, none⟩), by simp [upd, dsD9], CD.mk D O hz, rfl⟩
        · simp only [List.getElem?_toArray, List.getElem?_cons_succ, List.getElem?_cons_zero, Option.some.injEq] at ho
          subst ho
          refine ⟨by simp [Region.wanted], ?_⟩
          simp only [mkD9]
          obtain ⟨D, O, hz⟩ := FC (hq1 (by decide))
          have e0 : X 29 = _ := hX 0 (by decide) rfl
          have c0 := D.sc.at.c1
          simp only at c0
          go_simp
          exact ⟨.slice lo ll lc, by simp [upd, dsD9, e0], CD.mk D O hz, rfl⟩
        · simp only [List.getElem?_toArray, List.getElem?_cons_succ, List.getElem?_cons_zero, Option.some.injEq] at ho
          subst ho
          refine ⟨by simp [Region.wanted], ?_⟩
          simp only [mkD9]
          obtain ⟨D, O, hz⟩ := FC (hq1 (by decide))
          go_simp
          exact ⟨.pointer (some ⟨g, 0, none⟩), by simp [upd, dsD9], CD.mk D O hz, rfl⟩
        · simp only [List.getElem?_toArray, List.getElem?_cons_succ, List.getElem?_cons_zero, Option.some.injEq] at ho
          subst ho
          refine ⟨by simp [Region.wanted], ?_⟩
          simp only [mkD9]
          obtain ⟨D, O, hz⟩ := FC (hq1 (by decide))
          have e0 : X 31 = _ := hX 2 (by decide) rfl
          have q := l1Below_any g 3 u D.cur
          go_simp
          refine q.mono ?_
          rintro y u' ⟨x, rfl, x0, -, x2, c1, k1⟩
          exact ⟨.int .i64 x, by simp [upd, dsD9, e0], CD.mk (D.draw c1 k1) (D.own O k1) (Nat.le_trans hz k1.size), ⟨x, rfl, ⟨by omega, by omega⟩⟩, fun q x _ _ _ _ h => RD9_keep h k1 (fun j hj => by cases hj; exact HGZ.out) (PA1.draw c1 k1)⟩
        · simp only [List.getElem?_toArray, List.getElem?_cons_succ, List.getElem?_cons_zero, Option.some.injEq] at ho
          subst ho
          refine ⟨by simp [Region.wanted], ?_⟩
          simp only [mkD9]
          obtain ⟨D, O, hz⟩ := FC (hq1 (by decide))
          go_simp
          exact ⟨.pointer (some ⟨g, 0, none⟩), by simp [upd, dsD9], CD.mk D O hz, rfl⟩
        · simp only [List.getElem?_toArray, List.getElem?_cons_succ, List.getElem?_cons_zero, Option.some.injEq] at ho
          subst ho
          refine ⟨by simp [Region.wanted], ?_⟩
          simp only [mkD9]
          obtain ⟨D, O, hz⟩ := FC (hq1 (by decide))
          have e0 : X 33 = _ := hX 4 (by decide) rfl
          have q := l1Below_any g 3 u D.cur
          go_simp
          refine q.mono ?_
          rintro y u' ⟨x, rfl, x0, -, x2, c1, k1⟩
          exact ⟨.int .i64 x, by simp [upd, dsD9, e0], CD.mk (D.draw c1 k1) (D.own O k1) (Nat.le_trans hz k1.size), ⟨x, rfl, ⟨by omega, by omega⟩⟩, fun q x _ _ _ _ h => RD9_keep h k1 (fun j hj => by cases hj; exact HGZ.out) (PA1.draw c1 k1)⟩
        · simp only [List.getElem?_toArray, List.getElem?_cons_succ, List.getElem?_cons_zero, Option.some.injEq] at ho
          subst ho
          refine ⟨by simp [Region.wanted], ?_⟩
          simp only [mkD9]
          obtain ⟨D, O, hz⟩ := FC (hq1 (by decide))
          obtain ⟨x0, e0, h0⟩ : PInt (X 32) := hX 3 (by decide) rfl
          obtain ⟨x1, e1, h1⟩ : PInt (X 34) := hX 5 (by decide) rfl
          go_simp
          have f := Fr.alloc u (.cells #[.int .i64 x0, .int .i64 x1] 2)
          exact ⟨.slice (some ⟨u.heap.size, 0, none⟩) 2 2, by simp [upd, dsD9, e0, e1], CD.mk (D.fr f) (O.fr f) (Nat.le_trans hz f.size), ⟨u.heap.size, x0, x1, rfl, hz, heap_alloc_new u _, h0, h1⟩, fun q x _ _ _ _ h => RD9_keep h f (by simp) (PA1.fr f)⟩
        · simp only [List.getElem?_toArray, List.getElem?_cons_succ, List.getElem?_cons_zero, Option.some.injEq] at ho
          subst ho
          refine ⟨by simp [Region.wanted], ?_⟩
          simp only [mkD9]
          obtain ⟨D, O, hz⟩ := FC (hq1 (by decide))
          obtain ⟨b0, p0, r0, e0, h0⟩ : PRow z (X 35) u := hX 6 (by decide) rfl
          go_simp
          exact ⟨.agg #[.int .i64 9, .int .i64 (-1), .slice (some ⟨b0, 0, none⟩) 2 2], by simp [upd, dsD9, e0], CD.mk D O hz, ⟨⟨9, -1, some ⟨b0, 0, none⟩, 2, 2⟩, rfl, PRow.lock h0⟩⟩
        · simp only [List.getElem?_toArray, List.getElem?_cons_succ, List.getElem?_cons_zero, Option.some.injEq] at ho
          subst ho
          refine ⟨by simp [Region.wanted], ?_⟩
          simp only [mkD9]
          obtain ⟨D, O, hz⟩ := FC (hq1 (by decide))
          obtain ⟨el, e0, h0⟩ : PEl layL PPlock2 z (X 36) u := hX 7 (by decide) rfl
          obtain ⟨p0, p1, p2, p3, p4⟩ := el
          simp only [layL] at e0
          go_simp
          have f := Fr.alloc u (.cells #[.int .i64 p0, .int .i64 p1, .slice p2 p3 p4] 86)
          exact ⟨.slice (some ⟨u.heap.size, 0, none⟩) 1 1, by simp [upd, dsD9, e0], CD.mk (D.fr f) (O.fr f) (Nat.le_trans hz f.size), ⟨u.heap.size, ⟨p0, p1, p2, p3, p4⟩, rfl, hz, newG layL (heap_alloc_new u _), PPlock2_keep (row := none) (by simp) _ _ h0 f⟩, fun q x _ _ _ _ h => RD9_keep h f (by simp) (PA1.fr f)⟩
        · simp only [List.getElem?_toArray, List.getElem?_cons_succ, List.getElem?_cons_zero, Option.some.injEq] at ho
          subst ho
          refine ⟨by simp [Region.wanted], ?_⟩
          simp only [mkD9]
          have FCX := FC
          clear FC hLc hq1
          have hall := hq2 rfl
          have FC : DA w g rb sb ⟨sg, lo, ll, lc, co, cl, cc, no, nl, nc, oo, ol, oc⟩ ⟨sg, lo, ll, lc, co, cl, cc, no, nl, nc, oo, ol, oc⟩ m B u ∧ OwR u ⟨sg, lo, ll, lc, co, cl, cc, no, nl, nc, oo, ol, oc⟩ ∧ z ≤ u.heap.size := FCX hL
          obtain ⟨D, O, hz⟩ := FC
          have e0 : X 30 = _ := hX 1 (by decide) rfl
          obtain ⟨b1, el, e1, hb1, hn, he⟩ : PSl layL PPlock2 z (X 37) u := hX 8 (by decide) rfl
          clear hX
          obtain ⟨xs, hown, hrd⟩ := O.l
          have hlen : xs.length ≤ 16 := by have h1 := hown.reads.2; obtain ⟨ys, -, h2, h3⟩ := D.scr.lks; have h4 := h3.len; have := HW.out.1; simp only at h1 h2; omega
          refine op_appH layL (.tmp 30) (.tmp 37) 24 _ 40 rfl Tryz.underlying24 Tryz.infoL rfl (by decide) lo ll lc xs el e0 hown b1 1 e1 hn (by omega) ?_
          intro g' c' u' own gr hat
          obtain ⟨kk, hk⟩ := he
          obtain ⟨B', D'⟩ := D.locks O HW.out.1 hown hk (fun b q => ⟨⟨by have h1 := D.gro.size; have h2 := q.1; have h3 := HD.out.gro.size; have h4 := HZ.out; omega, q.2.lt, by have h2 := q.1; have h3 := HD.out.sc.lt; have h4 := HZ.out; omega, by have h2 := q.1; have h3 := HD.out.rk.lt; have h4 := HZ.out; omega⟩, q.2⟩) own gr hat
          refine ⟨.slice (some ⟨g', 0, none⟩) (xs.length + 1) c', ?_, CD.no, ⟨_, _, _, _, B', rfl, D'⟩, fun q x h1 h2 h3 h4 h => RD9_past h1 h2 h3 h4 hall h⟩
          simp [Act.put, upd, dsD9, e0, e1]
        · simp only [List.getElem?_toArray, List.getElem?_cons_succ, List.getElem?_cons_zero, Option.some.injEq] at ho
          subst ho
          refine ⟨by simp [Region.wanted], ?_⟩
          simp only [mkD9]
          go_simp
          exact ⟨.pointer (some ⟨sb, 1, none⟩), by simp [upd, dsD9], CD.up FC (by decide), rfl⟩
        · omega
      · intro o X u L ho FC hall hX
        simp only [List.getElem?_toArray, List.getElem?_cons_succ, List.getElem?_cons_zero, Option.some.injEq] at ho
        subst ho
        refine ⟨by simp [Region.wanted], ?_⟩
        obtain ⟨ao, n, c, m', B', e0, D⟩ := (show (PA1 w g rb sb ⟨sg, lo, ll, lc, co, cl, cc, no, nl, nc, oo, ol, oc⟩) (X 38) u from hX 9 (by decide) rfl)
        have e1 : X 39 = .pointer (some ⟨sb, 1, none⟩) := hX 10 (by decide) rfl
        clear FC hall hX HD HO
        have hE := D.boxed (D.sc.setL ao n c)
        have hfz := D.sc.free 1
        have hlo := D.sc.at.c1
        simp only at hlo
        obtain ⟨t0, t1, t2, t3, t4⟩ := hE.sc.at
        obtain ⟨j0, j1, j2, j3, j4⟩ := hE.rk.at
        simp only at t0 t1 t2 t3 t4 j0 j1 j2 j3 j4
        have jf := fun i => hE.rk.free i
        simp only [mkD9]
        go_simp
        go_wp2_with fail
        refine bodyPost_ret (v := .agg #[.int .i64 sg, .slice ao n c, .slice co cl cc, .slice no nl nc, .slice oo ol oc]) (by simp [results, Tryz.results90, go_sem, j0, j1, j2, j3, j4]) rfl (by first | exact ⟨⟨sg, ao, n, c, co, cl, cc, no, nl, nc, oo, ol, oc⟩, m', B', rfl, hE.fin _ _ _ _ _ rfl⟩ | exact ⟨⟨sg, ao, n, c, co, cl, cc, no, nl, nc, oo, ol, oc⟩, rfl, m', B', hE.fin _ _ _ _ _ rfl⟩)
    · go_wp2_with fail
      have hz : u3.heap.size ≤ u3.heap.size := Nat.le_refl _
      obtain ⟨z, hzz⟩ : ∃ z, z = u3.heap.size := ⟨_, rfl⟩
      have HZ : Hid (z = u3.heap.size) := hzz
      have HGZ : Hid (g < z) := by have h1 := hD.gl; have h2 := hD.gro.size; show g < z; omega
      have HD : Hid _ := hD
      clear hz hzz s0 s1 s2 s3 s4 hD y0 y1
      obtain ⟨svv, hsv⟩ : ∃ v : Value, v = .agg #[.int .i64 sg, .slice lo ll lc, .slice co cl cc, .slice no nl nc, .slice oo ol oc] := ⟨_, rfl⟩
      rw [← hsv]
      clear hsv
      refine wp_region_last 14 12 dsD11 coD11 (mkD11 g rb sb svv) (RD11 g sb z (.slice co cl cc) (PA2 w g rb sb ⟨sg, lo, ll, lc, co, cl, cc, no, nl, nc, oo, ol, oc⟩)) (CD w g rb sb z ⟨sg, lo, ll, lc, co, cl, cc, no, nl, nc, oo, ol, oc⟩ m B 12) ?_ (by kernel_rfl) (by kernel_rfl) (by kernel_rfl) (by kernel_rfl) (by decide) (by kernel_rfl) (dst_of (by kernel_rfl)) (by kernel_rfl) (fun _ => undef) rfl ?_ ?_
      · exact CD.mk (HD.out.fr (Fr.drew u3)) (HO.out.fr (Fr.drew u3)) (by rw [HZ.out]; exact (Fr.drew u3).size)
      · intro i o X u L hi ho FC hL hLc hq1 hq2 hX
        rcases i with _ | _ | _ | _ | _ | _ | _ | _ | _ | _ | _ | _ | _ | _ | i
        · simp only [List.getElem?_toArray, List.getElem?_cons_zero, Option.some.injEq] at ho
          subst ho
          refine ⟨by simp [Region.wanted], ?_⟩
          simp only [mkD11]
          obtain ⟨D, O, hz⟩ := FC (hq1 (by decide))
          go_simp
          exact ⟨.pointer (some ⟨sb, 2, none⟩), by simp [upd, dsD11], CD.mk D O hz, rfl⟩
        · simp only [List.getElem?_toArray, List.getElem?_cons_succ, List.getElem?_cons_zero, Option.some.injEq] at ho
          subst ho
          refine ⟨by simp [Region.wanted], ?_⟩
          simp only [mkD11]
          obtain ⟨D, O, hz⟩ := FC (hq1 (by decide))
          have e0 : X 42 = _ := hX 0 (by decide) rfl
          have c0 := D.sc.at.c2
          simp only at c0
          go_simp
          exact ⟨.slice co cl cc, by simp [upd, dsD11, e0], CD.mk D O hz, rfl⟩
        · simp only [List.getElem?_toArray, List.getElem?_cons_succ, List.getElem?_cons_zero, Option.some.injEq] at ho
          subst ho
          refine ⟨by simp [Region.wanted], ?_⟩
          simp only [mkD11]
          obtain ⟨D, O, hz⟩ := FC (hq1 (by decide))
          go_simp
          exact ⟨.pointer (some ⟨g, 0, none⟩), by simp [upd, dsD11], CD.mk D O hz, rfl⟩
        · simp only [List.getElem?_toArray, List.getElem?_cons_succ, List.getElem?_cons_zero, Option.some.injEq] at ho
          subst ho
          refine ⟨by simp [Region.wanted], ?_⟩
          simp only [mkD11]
          obtain ⟨D, O, hz⟩ := FC (hq1 (by decide))
          have e0 : X 44 = _ := hX 2 (by decide) rfl
          have q := l1Below_any g 17 u D.cur
          go_simp
          refine q.mono ?_
          rintro y u' ⟨x, rfl, x0, -, x2, c1, k1⟩
          exact ⟨.int .i64 x, by simp [upd, dsD11, e0], CD.mk (D.draw c1 k1) (D.own O k1) (Nat.le_trans hz k1.size), ⟨x, rfl, ⟨by omega, by omega⟩⟩, fun q x _ _ _ _ h => RD11_keep h k1 (fun j hj => by cases hj; exact HGZ.out) (PA2.draw c1 k1)⟩
        · simp only [List.getElem?_toArray, List.getElem?_cons_succ, List.getElem?_cons_zero, Option.some.injEq] at ho
          subst ho
          refine ⟨by simp [Region.wanted], ?_⟩
          simp only [mkD11]
          obtain ⟨D, O, hz⟩ := FC (hq1 (by decide))
          go_simp
          exact ⟨.pointer (some ⟨g, 0, none⟩), by simp [upd, dsD11], CD.mk D O hz, rfl⟩
        · simp only [List.getElem?_toArray, List.getElem?_cons_succ, List.getElem?_cons_zero, Option.some.injEq] at ho
          subst ho
          refine ⟨by simp [Region.wanted], ?_⟩
          simp only [mkD11]
          obtain ⟨D, O, hz⟩ := FC (hq1 (by decide))
          have e0 : X 46 = _ := hX 4 (by decide) rfl
          have q := l1Num_any g 8 u D.cur (by decide) (by decide)
          go_simp
          refine q.mono ?_
          rintro y u' ⟨x, rfl, x0, c1, k1⟩
          exact ⟨.int .i64 x, by simp [upd, dsD11, e0], CD.mk (D.draw c1 k1) (D.own O k1) (Nat.le_trans hz k1.size), ⟨x, rfl, x0⟩, fun q x _ _ _ _ h => RD11_keep h k1 (fun j hj => by cases hj; exact HGZ.out) (PA2.draw c1 k1)⟩
        · simp only [List.getElem?_toArray, List.getElem?_cons_succ, List.getElem?_cons_zero, Option.some.injEq] at ho
          subst ho
          refine ⟨by simp [Region.wanted], ?_⟩
          simp only [mkD11]
          obtain ⟨D, O, hz⟩ := FC (hq1 (by decide))
          go_simp
          exact ⟨.pointer (some ⟨g, 0, none⟩), by simp [upd, dsD11], CD.mk D O hz, rfl⟩
        · simp only [List.getElem?_toArray, List.getElem?_cons_succ, List.getElem?_cons_zero, Option.some.injEq] at ho
          subst ho
          refine ⟨by simp [Region.wanted], ?_⟩
          simp only [mkD11]
          obtain ⟨D, O, hz⟩ := FC (hq1 (by decide))
          have e0 : X 48 = _ := hX 6 (by decide) rfl
          have q := l1Below_any g 4 u D.cur
          go_simp
          refine q.mono ?_
          rintro y u' ⟨x, rfl, x0, -, x2, c1, k1⟩
          exact ⟨.int .i64 x, by simp [upd, dsD11, e0], CD.mk (D.draw c1 k1) (D.own O k1) (Nat.le_trans hz k1.size), ⟨x, rfl, ⟨by omega, by omega⟩⟩, fun q x _ _ _ _ h => RD11_keep h k1 (fun j hj => by cases hj; exact HGZ.out) (PA2.draw c1 k1)⟩
        · simp only [List.getElem?_toArray, List.getElem?_cons_succ, List.getElem?_cons_zero, Option.some.injEq] at ho
          subst ho
          refine ⟨by simp [Region.wanted], ?_⟩
          simp only [mkD11]
          obtain ⟨D, O, hz⟩ := FC (hq1 (by decide))
          go_simp
          exact ⟨.pointer (some ⟨g, 0, none⟩), by simp [upd, dsD11], CD.mk D O hz, rfl⟩
        · simp only [List.getElem?_toArray, List.getElem?_cons_succ, List.getElem?_cons_zero, Option.some.injEq] at ho
          subst ho
          refine ⟨by simp [Region.wanted], ?_⟩
          simp only [mkD11]
          obtain ⟨D, O, hz⟩ := FC (hq1 (by decide))
          have e0 : X 50 = _ := hX 8 (by decide) rfl
          have q := l1Below_any g 4 u D.cur
          go_simp
          refine q.mono ?_
          rintro y u' ⟨x, rfl, x0, -, x2, c1, k1⟩
          exact ⟨.int .i64 x, by simp [upd, dsD11, e0], CD.mk (D.draw c1 k1) (D.own O k1) (Nat.le_trans hz k1.size), ⟨x, rfl, ⟨by omega, by omega⟩⟩, fun q x _ _ _ _ h => RD11_keep h k1 (fun j hj => by cases hj; exact HGZ.out) (PA2.draw c1 k1)⟩
        · simp only [List.getElem?_toArray, List.getElem?_cons_succ, List.getElem?_cons_zero, Option.some.injEq] at ho
          subst ho
          refine ⟨by simp [Region.wanted], ?_⟩
          simp only [mkD11]
          obtain ⟨D, O, hz⟩ := FC (hq1 (by decide))
          obtain ⟨x0, e0, h0⟩ : PInt (X 45) := hX 3 (by decide) rfl
          obtain ⟨x1, e1, h1⟩ : PInt (X 47) := hX 5 (by decide) rfl
          obtain ⟨x2, e2, h2⟩ : PInt (X 49) := hX 7 (by decide) rfl
          obtain ⟨x3, e3, h3⟩ : PInt (X 51) := hX 9 (by decide) rfl
          go_simp
          exact ⟨.agg #[.int .i64 x0, .int .i64 x1, .int .i64 x2, .int .i64 x3, .bool false], by simp [upd, dsD11, e0, e1, e2, e3], CD.mk D O hz, ⟨⟨x0, x1, x2, x3, false⟩, rfl, h0, h1, h2, h3⟩⟩
        · simp only [List.getElem?_toArray, List.getElem?_cons_succ, List.getElem?_cons_zero, Option.some.injEq] at ho
          subst ho
          refine ⟨by simp [Region.wanted], ?_⟩
          simp only [mkD11]
          obtain ⟨D, O, hz⟩ := FC (hq1 (by decide))
          obtain ⟨el, e0, h0⟩ : PEl layC PPchan z (X 52) u := hX 10 (by decide) rfl
          obtain ⟨p0, p1, p2, p3, p4⟩ := el
          simp only [layC] at e0
          go_simp
          have f := Fr.alloc u (.cells #[.int .i64 p0, .int .i64 p1, .int .i64 p2, .int .i64 p3, .bool p4] 89)
          exact ⟨.slice (some ⟨u.heap.size, 0, none⟩) 1 1, by simp [upd, dsD11, e0], CD.mk (D.fr f) (O.fr f) (Nat.le_trans hz f.size), ⟨u.heap.size, ⟨p0, p1, p2, p3, p4⟩, rfl, hz, newG layC (heap_alloc_new u _), PPchan_keep (row := none) (by simp) _ _ h0 f⟩, fun q x _ _ _ _ h => RD11_keep h f (by simp) (PA2.fr f)⟩
        · simp only [List.getElem?_toArray, List.getElem?_cons_succ, List.getElem?_cons_zero, Option.some.injEq] at ho
          subst ho
          refine ⟨by simp [Region.wanted], ?_⟩
          simp only [mkD11]
          have FCX := FC
          clear FC hLc hq1
          have hall := hq2 rfl
          have FC : DA w g rb sb ⟨sg, lo, ll, lc, co, cl, cc, no, nl, nc, oo, ol, oc⟩ ⟨sg, lo, ll, lc, co, cl, cc, no, nl, nc, oo, ol, oc⟩ m B u ∧ OwR u ⟨sg, lo, ll, lc, co, cl, cc, no, nl, nc, oo, ol, oc⟩ ∧ z ≤ u.heap.size := FCX hL
          obtain ⟨D, O, hz⟩ := FC
          have e0 : X 43 = _ := hX 1 (by decide) rfl
          obtain ⟨b1, el, e1, hb1, hn, he⟩ : PSl layC PPchan z (X 53) u := hX 11 (by decide) rfl
          clear hX
          obtain ⟨xs, hown⟩ := O.c
          have hlen : xs.length ≤ 16 := by have h1 := hown.reads.2; have h2 := D.scr.cl; have := HW.out.2.1; simp only at h1 h2; omega
          refine op_appH layC (.tmp 43) (.tmp 53) 25 _ 40 rfl Tryz.underlying25 Tryz.infoC rfl (by decide) co cl cc xs el e0 hown b1 1 e1 hn (by omega) ?_
          intro g' c' u' own gr hat
          obtain ⟨B', D'⟩ := D.chans O HW.out.2.1 hown he own (chs_one hown.reads.1 D.scr.chs (by rw [← hown.reads.2]; exact D.scr.cl)) gr hat
          refine ⟨.slice (some ⟨g', 0, none⟩) (xs.length + 1) c', ?_, CD.no, ⟨_, _, _, _, B', rfl, D'⟩, fun q x h1 h2 h3 h4 h => RD11_past h1 h2 h3 h4 hall h⟩
          simp [Act.put, upd, dsD11, e0, e1]
        · simp only [List.getElem?_toArray, List.getElem?_cons_succ, List.getElem?_cons_zero, Option.some.injEq] at ho
          subst ho
          refine ⟨by simp [Region.wanted], ?_⟩
          simp only [mkD11]
          go_simp
          exact ⟨.pointer (some ⟨sb, 2, none⟩), by simp [upd, dsD11], CD.up FC (by decide), rfl⟩
        · omega
      · intro o X u L ho FC hall hX
        simp only [List.getElem?_toArray, List.getElem?_cons_succ, List.getElem?_cons_zero, Option.some.injEq] at ho
        subst ho
        refine ⟨by simp [Region.wanted], ?_⟩
        obtain ⟨ao, n, c, m', B', e0, D⟩ := (show (PA2 w g rb sb ⟨sg, lo, ll, lc, co, cl, cc, no, nl, nc, oo, ol, oc⟩) (X 54) u from hX 12 (by decide) rfl)
        have e1 : X 55 = .pointer (some ⟨sb, 2, none⟩) := hX 13 (by decide) rfl
        clear FC hall hX HD HO
        have hE := D.boxed (D.sc.setC ao n c)
        have hfz := D.sc.free 2
        have hlo := D.sc.at.c2
        simp only at hlo
        obtain ⟨t0, t1, t2, t3, t4⟩ := hE.sc.at
        obtain ⟨j0, j1, j2, j3, j4⟩ := hE.rk.at
        simp only at t0 t1 t2 t3 t4 j0 j1 j2 j3 j4
        have jf := fun i => hE.rk.free i
        simp only [mkD11]
        go_simp
        go_wp2_with fail
        refine bodyPost_ret (v := .agg #[.int .i64 sg, .slice lo ll lc, .slice ao n c, .slice no nl nc, .slice oo ol oc]) (by simp [results, Tryz.results90, go_sem, j0, j1, j2, j3, j4]) rfl (by first | exact ⟨⟨sg, lo, ll, lc, ao, n, c, no, nl, nc, oo, ol, oc⟩, m', B', rfl, hE.fin _ _ _ _ _ rfl⟩ | exact ⟨⟨sg, lo, ll, lc, ao, n, c, no, nl, nc, oo, ol, oc⟩, rfl, m', B', hE.fin _ _ _ _ _ rfl⟩)
    · go_wp2_with fail
      have hz : u3.heap.size ≤ u3.heap.size := Nat.le_refl _
      obtain ⟨z, hzz⟩ : ∃ z, z = u3.heap.size := ⟨_, rfl⟩
      have HZ : Hid (z = u3.heap.size) := hzz
      have HGZ : Hid (g < z) := by have h1 := hD.gl; have h2 := hD.gro.size; show g < z; omega
      have HD : Hid _ := hD
      clear hz hzz s0 s1 s2 s3 s4 hD y0 y1
      obtain ⟨svv, hsv⟩ : ∃ v : Value, v = .agg #[.int .i64 sg, .slice lo ll lc, .slice co cl cc, .slice no nl nc, .slice oo ol oc] := ⟨_, rfl⟩
      rw [← hsv]
      clear hsv
      refine wp_region_last 10 8 dsD13 coD13 (mkD13 g rb sb svv) (RD13 g sb z (.slice no nl nc) (PA3 w g rb sb ⟨sg, lo, ll, lc, co, cl, cc, no, nl, nc, oo, ol, oc⟩)) (CD w g rb sb z ⟨sg, lo, ll, lc, co, cl, cc, no, nl, nc, oo, ol, oc⟩ m B 8) ?_ (by kernel_rfl) (by kernel_rfl) (by kernel_rfl) (by kernel_rfl) (by decide) (by kernel_rfl) (dst_of (by kernel_rfl)) (by kernel_rfl) (fun _ => undef) rfl ?_ ?_
      · exact CD.mk (HD.out.fr (Fr.drew u3)) (HO.out.fr (Fr.drew u3)) (by rw [HZ.out]; exact (Fr.drew u3).size)
      · intro i o X u L hi ho FC hL hLc hq1 hq2 hX
        rcases i with _ | _ | _ | _ | _ | _ | _ | _ | _ | _ | i
        · simp only [List.getElem?_toArray, List.getElem?_cons_zero, Option.some.injEq] at ho
          subst ho
          refine ⟨by simp [Region.wanted], ?_⟩
          simp only [mkD13]
          obtain ⟨D, O, hz⟩ := FC (hq1 (by decide))
          go_simp
          exact ⟨.pointer (some ⟨sb, 3, none⟩), by simp [upd, dsD13], CD.mk D O hz, rfl⟩
        · simp only [List.getElem?_toArray, List.getElem?_cons_succ, List.getElem?_cons_zero, Option.some.injEq] at ho
          subst ho
          refine ⟨by simp [Region.wanted], ?_⟩
          simp only [mkD13]
          obtain ⟨D, O, hz⟩ := FC (hq1 (by decide))
          have e0 : X 58 = _ := hX 0 (by decide) rfl
          have c0 := D.sc.at.c3
          simp only at c0
          go_simp
          exact ⟨.slice no nl nc, by simp [upd, dsD13, e0], CD.mk D O hz, rfl⟩
        · simp only [List.getElem?_toArray, List.getElem?_cons_succ, List.getElem?_cons_zero, Option.some.injEq] at ho
          subst ho
          refine ⟨by simp [Region.wanted], ?_⟩
          simp only [mkD13]
          obtain ⟨D, O, hz⟩ := FC (hq1 (by decide))
          go_simp
          exact ⟨.pointer (some ⟨g, 0, none⟩), by simp [upd, dsD13], CD.mk D O hz, rfl⟩
        · simp only [List.getElem?_toArray, List.getElem?_cons_succ, List.getElem?_cons_zero, Option.some.injEq] at ho
          subst ho
          refine ⟨by simp [Region.wanted], ?_⟩
          simp only [mkD13]
          obtain ⟨D, O, hz⟩ := FC (hq1 (by decide))
          have e0 : X 60 = _ := hX 2 (by decide) rfl
          have q := l1Below_any g 17 u D.cur
          go_simp
          refine q.mono ?_
          rintro y u' ⟨x, rfl, x0, -, x2, c1, k1⟩
          exact ⟨.int .i64 x, by simp [upd, dsD13, e0], CD.mk (D.draw c1 k1) (D.own O k1) (Nat.le_trans hz k1.size), ⟨x, rfl, ⟨by omega, by omega⟩⟩, fun q x _ _ _ _ h => RD13_keep h k1 (fun j hj => by cases hj; exact HGZ.out) (PA3.draw c1 k1)⟩
        · simp only [List.getElem?_toArray, List.getElem?_cons_succ, List.getElem?_cons_zero, Option.some.injEq] at ho
          subst ho
          refine ⟨by simp [Region.wanted], ?_⟩
          simp only [mkD13]
          obtain ⟨D, O, hz⟩ := FC (hq1 (by decide))
          go_simp
          exact ⟨.pointer (some ⟨g, 0, none⟩), by simp [upd, dsD13], CD.mk D O hz, rfl⟩
        · simp only [List.getElem?_toArray, List.getElem?_cons_succ, List.getElem?_cons_zero, Option.some.injEq] at ho
          subst ho
          refine ⟨by simp [Region.wanted], ?_⟩
          simp only [mkD13]
          obtain ⟨D, O, hz⟩ := FC (hq1 (by decide))
          have e0 : X 62 = _ := hX 4 (by decide) rfl
          have q := l1Num_any g 1000000 u D.cur (by decide) (by decide)
          go_simp
          refine q.mono ?_
          rintro y u' ⟨x, rfl, x0, c1, k1⟩
          exact ⟨.int .i64 x, by simp [upd, dsD13, e0], CD.mk (D.draw c1 k1) (D.own O k1) (Nat.le_trans hz k1.size), ⟨x, rfl, x0⟩, fun q x _ _ _ _ h => RD13_keep h k1 (fun j hj => by cases hj; exact HGZ.out) (PA3.draw c1 k1)⟩
        · simp only [List.getElem?_toArray, List.getElem?_cons_succ, List.getElem?_cons_zero, Option.some.injEq] at ho
          subst ho
          refine ⟨by simp [Region.wanted], ?_⟩
          simp only [mkD13]
          obtain ⟨D, O, hz⟩ := FC (hq1 (by decide))
          obtain ⟨x0, e0, h0⟩ : PInt (X 61) := hX 3 (by decide) rfl
          obtain ⟨x1, e1, h1⟩ : PInt (X 63) := hX 5 (by decide) rfl
          go_simp
          exact ⟨.agg #[.int .i64 x0, .int .i64 x1], by simp [upd, dsD13, e0, e1], CD.mk D O hz, ⟨⟨x0, x1⟩, rfl, h0, h1⟩⟩
        · simp only [List.getElem?_toArray, List.getElem?_cons_succ, List.getElem?_cons_zero, Option.some.injEq] at ho
          subst ho
          refine ⟨by simp [Region.wanted], ?_⟩
          simp only [mkD13]
          obtain ⟨D, O, hz⟩ := FC (hq1 (by decide))
          obtain ⟨el, e0, h0⟩ : PEl layN PPcount z (X 64) u := hX 6 (by decide) rfl
          obtain ⟨p0, p1⟩ := el
          simp only [layN] at e0
          go_simp
          have f := Fr.alloc u (.cells #[.int .i64 p0, .int .i64 p1] 92)
          exact ⟨.slice (some ⟨u.heap.size, 0, none⟩) 1 1, by simp [upd, dsD13, e0], CD.mk (D.fr f) (O.fr f) (Nat.le_trans hz f.size), ⟨u.heap.size, ⟨p0, p1⟩, rfl, hz, newG layN (heap_alloc_new u _), PPcount_keep (row := none) (by simp) _ _ h0 f⟩, fun q x _ _ _ _ h => RD13_keep h f (by simp) (PA3.fr f)⟩
        · simp only [List.getElem?_toArray, List.getElem?_cons_succ, List.getElem?_cons_zero, Option.some.injEq] at ho
          subst ho
          refine ⟨by simp [Region.wanted], ?_⟩
          simp only [mkD13]
          have FCX := FC
          clear FC hLc hq1
          have hall := hq2 rfl
          have FC : DA w g rb sb ⟨sg, lo, ll, lc, co, cl, cc, no, nl, nc, oo, ol, oc⟩ ⟨sg, lo, ll, lc, co, cl, cc, no, nl, nc, oo, ol, oc⟩ m B u ∧ OwR u ⟨sg, lo, ll, lc, co, cl, cc, no, nl, nc, oo, ol, oc⟩ ∧ z ≤ u.heap.size := FCX hL
          obtain ⟨D, O, hz⟩ := FC
          have e0 : X 59 = _ := hX 1 (by decide) rfl
          obtain ⟨b1, el, e1, hb1, hn, he⟩ : PSl layN PPcount z (X 65) u := hX 7 (by decide) rfl
          clear hX
          obtain ⟨xs, hown⟩ := O.n
          have hlen : xs.length ≤ 16 := by have h1 := hown.reads.2; have h2 := D.scr.nl; have := HW.out.2.2.1; simp only at h1 h2; omega
          refine op_appH layN (.tmp 59) (.tmp 65) 26 _ 16 rfl Tryz.underlying26 Tryz.infoN rfl (by decide) no nl nc xs el e0 hown b1 1 e1 hn (by omega) ?_
          intro g' c' u' own gr hat
          obtain ⟨B', D'⟩ := D.counts O HW.out.2.2.1 hown he own (cts_one hown.reads.1 D.scr.cts (by rw [← hown.reads.2]; exact D.scr.nl)) gr hat
          refine ⟨.slice (some ⟨g', 0, none⟩) (xs.length + 1) c', ?_, CD.no, ⟨_, _, _, _, B', rfl, D'⟩, fun q x h1 h2 h3 h4 h => RD13_past h1 h2 h3 h4 hall h⟩
          simp [Act.put, upd, dsD13, e0, e1]
        · simp only [List.getElem?_toArray, List.getElem?_cons_succ, List.getElem?_cons_zero, Option.some.injEq] at ho
          subst ho
          refine ⟨by simp [Region.wanted], ?_⟩
          simp only [mkD13]
          go_simp
          exact ⟨.pointer (some ⟨sb, 3, none⟩), by simp [upd, dsD13], CD.up FC (by decide), rfl⟩
        · omega
      · intro o X u L ho FC hall hX
        simp only [List.getElem?_toArray, List.getElem?_cons_succ, List.getElem?_cons_zero, Option.some.injEq] at ho
        subst ho
        refine ⟨by simp [Region.wanted], ?_⟩
        obtain ⟨ao, n, c, m', B', e0, D⟩ := (show (PA3 w g rb sb ⟨sg, lo, ll, lc, co, cl, cc, no, nl, nc, oo, ol, oc⟩) (X 66) u from hX 8 (by decide) rfl)
        have e1 : X 67 = .pointer (some ⟨sb, 3, none⟩) := hX 9 (by decide) rfl
        clear FC hall hX HD HO
        have hE := D.boxed (D.sc.setN ao n c)
        have hfz := D.sc.free 3
        have hlo := D.sc.at.c3
        simp only at hlo
        obtain ⟨t0, t1, t2, t3, t4⟩ := hE.sc.at
        obtain ⟨j0, j1, j2, j3, j4⟩ := hE.rk.at
        simp only at t0 t1 t2 t3 t4 j0 j1 j2 j3 j4
        have jf := fun i => hE.rk.free i
        simp only [mkD13]
        go_simp
        go_wp2_with fail
        refine bodyPost_ret (v := .agg #[.int .i64 sg, .slice lo ll lc, .slice co cl cc, .slice ao n c, .slice oo ol oc]) (by simp [results, Tryz.results90, go_sem, j0, j1, j2, j3, j4]) rfl (by first | exact ⟨⟨sg, lo, ll, lc, co, cl, cc, ao, n, c, oo, ol, oc⟩, m', B', rfl, hE.fin _ _ _ _ _ rfl⟩ | exact ⟨⟨sg, lo, ll, lc, co, cl, cc, ao, n, c, oo, ol, oc⟩, rfl, m', B', hE.fin _ _ _ _ _ rfl⟩)
    · go_wp2_with fail
      have hz : u3.heap.size ≤ u3.heap.size := Nat.le_refl _
      obtain ⟨z, hzz⟩ : ∃ z, z = u3.heap.size := ⟨_, rfl⟩
      have HZ : Hid (z = u3.heap.size) := hzz
      have HGZ : Hid (g < z) := by have h1 := hD.gl; have h2 := hD.gro.size; show g < z; omega
      have HD : Hid _ := hD
      clear hz hzz s0 s1 s2 s3 s4 hD y0 y1
      obtain ⟨svv, hsv⟩ : ∃ v : Value, v = .agg #[.int .i64 sg, .slice lo ll lc, .slice co cl cc, .slice no nl nc, .slice oo ol oc] := ⟨_, rfl⟩
      rw [← hsv]
      clear hsv
      refine wp_region_last 7 5 dsD15 coD15 (mkD15 g rb sb svv) (RD15 g sb z (.slice oo ol oc) (PA4 w g rb sb ⟨sg, lo, ll, lc, co, cl, cc, no, nl, nc, oo, ol, oc⟩)) (CD w g rb sb z ⟨sg, lo, ll, lc, co, cl, cc, no, nl, nc, oo, ol, oc⟩ m B 5) ?_ (by kernel_rfl) (by kernel_rfl) (by kernel_rfl) (by kernel_rfl) (by decide) (by kernel_rfl) (dst_of (by kernel_rfl)) (by kernel_rfl) (fun _ => undef) rfl ?_ ?_
      · exact CD.mk (HD.out.fr (Fr.drew u3)) (HO.out.fr (Fr.drew u3)) (by rw [HZ.out]; exact (Fr.drew u3).size)
      · intro i o X u L hi ho FC hL hLc hq1 hq2 hX
        rcases i with _ | _ | _ | _ | _ | _ | _ | i
        · simp only [List.getElem?_toArray, List.getElem?_cons_zero, Option.some.injEq] at ho
          subst ho
          refine ⟨by simp [Region.wanted], ?_⟩
          simp only [mkD15]
          obtain ⟨D, O, hz⟩ := FC (hq1 (by decide))
          go_simp
          exact ⟨.pointer (some ⟨sb, 4, none⟩), by simp [upd, dsD15], CD.mk D O hz, rfl⟩
        · simp only [List.getElem?_toArray, List.getElem?_cons_succ, List.getElem?_cons_zero, Option.some.injEq] at ho
          subst ho
          refine ⟨by simp [Region.wanted], ?_⟩
          simp only [mkD15]
          obtain ⟨D, O, hz⟩ := FC (hq1 (by decide))
          have e0 : X 70 = _ := hX 0 (by decide) rfl
          have c0 := D.sc.at.c4
          simp only at c0
          go_simp
          exact ⟨.slice oo ol oc, by simp [upd, dsD15, e0], CD.mk D O hz, rfl⟩
        · simp only [List.getElem?_toArray, List.getElem?_cons_succ, List.getElem?_cons_zero, Option.some.injEq] at ho
          subst ho
          refine ⟨by simp [Region.wanted], ?_⟩
          simp only [mkD15]
          obtain ⟨D, O, hz⟩ := FC (hq1 (by decide))
          go_simp
          exact ⟨.pointer (some ⟨g, 0, none⟩), by simp [upd, dsD15], CD.mk D O hz, rfl⟩
        · simp only [List.getElem?_toArray, List.getElem?_cons_succ, List.getElem?_cons_zero, Option.some.injEq] at ho
          subst ho
          refine ⟨by simp [Region.wanted], ?_⟩
          simp only [mkD15]
          obtain ⟨D, O, hz⟩ := FC (hq1 (by decide))
          have e0 : X 72 = _ := hX 2 (by decide) rfl
          have q := l1Below_any g 17 u D.cur
          go_simp
          refine q.mono ?_
          rintro y u' ⟨x, rfl, x0, -, x2, c1, k1⟩
          exact ⟨.int .i64 x, by simp [upd, dsD15, e0], CD.mk (D.draw c1 k1) (D.own O k1) (Nat.le_trans hz k1.size), ⟨x, rfl, ⟨by omega, by omega⟩⟩, fun q x _ _ _ _ h => RD15_keep h k1 (fun j hj => by cases hj; exact HGZ.out) (PA4.draw c1 k1)⟩
        · simp only [List.getElem?_toArray, List.getElem?_cons_succ, List.getElem?_cons_zero, Option.some.injEq] at ho
          subst ho
          refine ⟨by simp [Region.wanted], ?_⟩
          simp only [mkD15]
          obtain ⟨D, O, hz⟩ := FC (hq1 (by decide))
          obtain ⟨x0, e0, h0⟩ : PInt (X 73) := hX 3 (by decide) rfl
          go_simp
          have f := Fr.alloc u (.cells #[.int .i64 x0] 2)
          exact ⟨.slice (some ⟨u.heap.size, 0, none⟩) 1 1, by simp [upd, dsD15, e0], CD.mk (D.fr f) (O.fr f) (Nat.le_trans hz f.size), ⟨u.heap.size, x0, rfl, hz, newG layI (heap_alloc_new u _), h0⟩, fun q x _ _ _ _ h => RD15_keep h f (by simp) (PA4.fr f)⟩
        · simp only [List.getElem?_toArray, List.getElem?_cons_succ, List.getElem?_cons_zero, Option.some.injEq] at ho
          subst ho
          refine ⟨by simp [Region.wanted], ?_⟩
          simp only [mkD15]
          have FCX := FC
          clear FC hLc hq1
          have hall := hq2 rfl
          have FC : DA w g rb sb ⟨sg, lo, ll, lc, co, cl, cc, no, nl, nc, oo, ol, oc⟩ ⟨sg, lo, ll, lc, co, cl, cc, no, nl, nc, oo, ol, oc⟩ m B u ∧ OwR u ⟨sg, lo, ll, lc, co, cl, cc, no, nl, nc, oo, ol, oc⟩ ∧ z ≤ u.heap.size := FCX hL
          obtain ⟨D, O, hz⟩ := FC
          have e0 : X 71 = _ := hX 1 (by decide) rfl
          obtain ⟨b1, el, e1, hb1, hn, he⟩ : PSl layI PPonce z (X 74) u := hX 4 (by decide) rfl
          clear hX
          obtain ⟨xs, hown, hn4, hx4⟩ := O.o.own (by have := D.scr.ol; have := HW.out.2.2.2; omega)
          have hlen : xs.length ≤ 16 := by have h2 := D.scr.ol; have := HW.out.2.2.2; simp only at hn4 h2; omega
          refine op_appH layI (.tmp 71) (.tmp 74) 27 _ 8 rfl Tryz.underlying27 Tryz.info2 rfl (by decide) oo ol oc xs el e0 hown b1 1 e1 hn (by omega) ?_
          intro g' c' u' own gr hat
          obtain ⟨B', D'⟩ := D.onces O HW.out.2.2.2 hown he hx4 own gr hat
          refine ⟨.slice (some ⟨g', 0, none⟩) (xs.length + 1) c', ?_, CD.no, ⟨_, _, _, _, B', rfl, D'⟩, fun q x h1 h2 h3 h4 h => RD15_past h1 h2 h3 h4 hall h⟩
          simp [Act.put, upd, dsD15, e0, e1]
        · simp only [List.getElem?_toArray, List.getElem?_cons_succ, List.getElem?_cons_zero, Option.some.injEq] at ho
          subst ho
          refine ⟨by simp [Region.wanted], ?_⟩
          simp only [mkD15]
          go_simp
          exact ⟨.pointer (some ⟨sb, 4, none⟩), by simp [upd, dsD15], CD.up FC (by decide), rfl⟩
        · omega
      · intro o X u L ho FC hall hX
        simp only [List.getElem?_toArray, List.getElem?_cons_succ, List.getElem?_cons_zero, Option.some.injEq] at ho
        subst ho
        refine ⟨by simp [Region.wanted], ?_⟩
        obtain ⟨ao, n, c, m', B', e0, D⟩ := (show (PA4 w g rb sb ⟨sg, lo, ll, lc, co, cl, cc, no, nl, nc, oo, ol, oc⟩) (X 75) u from hX 5 (by decide) rfl)
        have e1 : X 76 = .pointer (some ⟨sb, 4, none⟩) := hX 6 (by decide) rfl
        clear FC hall hX HD HO
        have hE := D.boxed (D.sc.setO ao n c)
        have hfz := D.sc.free 4
        have hlo := D.sc.at.c4
        simp only at hlo
        obtain ⟨t0, t1, t2, t3, t4⟩ := hE.sc.at
        obtain ⟨j0, j1, j2, j3, j4⟩ := hE.rk.at
        simp only at t0 t1 t2 t3 t4 j0 j1 j2 j3 j4
        have jf := fun i => hE.rk.free i
        simp only [mkD15]
        go_simp
        go_wp2_with fail
        refine bodyPost_ret (v := .agg #[.int .i64 sg, .slice lo ll lc, .slice co cl cc, .slice no nl nc, .slice ao n c]) (by simp [results, Tryz.results90, go_sem, j0, j1, j2, j3, j4]) rfl (by first | exact ⟨⟨sg, lo, ll, lc, co, cl, cc, no, nl, nc, ao, n, c⟩, m', B', rfl, hE.fin _ _ _ _ _ rfl⟩ | exact ⟨⟨sg, lo, ll, lc, co, cl, cc, no, nl, nc, ao, n, c⟩, rfl, m', B', hE.fin _ _ _ _ _ rfl⟩)
    · go_wp2_with fail
      refine (l1Below_any g 2 _ hD.cur).mono ?_
      rintro x u4 ⟨p, rfl, p0, p1, -, c4, k4⟩
      have p1 := p1 (by decide)
      have hwp : IntKind.i64.wrap (1000000 - p) = 1000000 - p := by rw [IntKind.wrap_i64]; omega
      have hD := hD.draw c4 k4
      have hfz := hD.sc.free 2
      clear s0 s1 s2 s3 s4 c4 k4 HO
      obtain ⟨s0, s1, s2, s3, s4⟩ := hD.sc.at
      simp only at s0 s1 s2 s3 s4
      have hE := (hD.boxed (hD.sc.setC (some ⟨u4.heap.size, 0, none⟩) 1 1)).chanNew (k := u4.heap.size) (by simp) ⟨1, 2, 1000000, 1000000 - p, false⟩ (by refine ⟨⟨?_, ?_⟩, ⟨?_, ?_⟩, ⟨?_, ?_⟩, ?_, ?_⟩ <;> (try simp only) <;> omega)
      simp only at hE
      have hsl := hD.sc.lt
      have hne1 : sb ≠ u4.heap.size := by omega
      clear p0 p1
      go_wp2_with fail
      obtain ⟨V, hV⟩ : ∃ V, V = (u4.setCell ⟨sb, 2, none⟩ (.slice (some ⟨u4.heap.size, 0, none⟩) 1 1)).alloc (.cells #[.int .i64 1, .int .i64 2, .int .i64 1000000, .int .i64 (1000000 - p), .bool false] 89) := ⟨_, rfl⟩
      rw [← hV] at hE ⊢
      clear hV hD s0 s1 s2 s3 s4 hfz hsl hne1 hwp
      refine (l1Below_any g 3 _ hE.cur).mono ?_
      rintro x u5 ⟨q, rfl, q0, q1, -, c5, k5⟩
      have q1 := q1 (by decide)
      have hwq : IntKind.i64.wrap (1000000 - q) = 1000000 - q := by rw [IntKind.wrap_i64]; omega
      have hD := hE.draw c5 k5
      have hfz := hD.sc.free 3
      clear c5 k5 hE
      obtain ⟨s0, s1, s2, s3, s4⟩ := hD.sc.at
      simp only at s0 s1 s2 s3 s4
      have hE := (hD.boxed (hD.sc.setN (some ⟨u5.heap.size, 0, none⟩) 1 1)).countNew (k := u5.heap.size) (by simp) ⟨1, 1000000 - q⟩ (by refine ⟨⟨?_, ?_⟩, ?_, ?_⟩ <;> (try simp only) <;> omega)
      simp only at hE
      have hsl := hD.sc.lt
      have hsr := hD.rk.lt
      have hne1 : sb ≠ u5.heap.size := by omega
      have hne2 : rb ≠ u5.heap.size := by omega
      clear q0 q1
      go_upto_region 19 with fail
      obtain ⟨V2, hV⟩ : ∃ V, V = (u5.setCell ⟨sb, 3, none⟩ (.slice (some ⟨u5.heap.size, 0, none⟩) 1 1)).alloc (.cells #[.int .i64 1, .int .i64 (1000000 - q)] 92) := ⟨_, rfl⟩
      rw [← hV] at hE ⊢
      clear hV hD s0 s1 s2 s3 s4 hfz hsl hsr hne1 hne2 hwq
      obtain ⟨t0, t1, t2, t3, t4⟩ := hE.sc.at
      obtain ⟨j0, j1, j2, j3, j4⟩ := hE.rk.at
      simp only at t0 t1 t2 t3 t4 j0 j1 j2 j3 j4
      have jf := fun i => hE.rk.free i
      go_wp2_with fail
      refine bodyPost_ret (v := .agg #[.int .i64 sg, .slice lo ll lc, .slice (some ⟨u4.heap.size, 0, none⟩) 1 1, .slice (some ⟨u5.heap.size, 0, none⟩) 1 1, .slice oo ol oc]) (by simp [results, Tryz.results90, go_sem, j0, j1, j2, j3, j4]) rfl ⟨⟨sg, lo, ll, lc, some ⟨u4.heap.size, 0, none⟩, 1, 1, some ⟨u5.heap.size, 0, none⟩, 1, 1, oo, ol, oc⟩, _, _, rfl, hE.fin _ _ _ _ _ rfl⟩
end Go.Proofs.YtcofhmikdkkigaaGreatDoor
