/-
  Pack BO: EvDraw2, ScNext, EvDraw3.
-/
import Derived.Test.YtcofhmikdkkigaaGreatDoorPfBM
import Derived.Test.YtcofhmikdkkigaaGreatDoorPfAM
import Derived.Test.YtcofhmikdkkigaaGreatDoorPfBN
import Derived.Deep.DeepCutAuto
import Derived.RegionTactic
import Derived.BigRegion
namespace Go.Proofs.YtcofhmikdkkigaaGreatDoor
open Go.RowKit

set_option maxHeartbeats 4000000 in
theorem l2DrawAny_any (g : Nat) (w : World) (hc : Cur w g) :
    Calls Tryz.prog 94 #[.pointer (some ⟨g, 0, none⟩)] w fun x w' => ∃ e : Ev, x = .returned (.agg #[.int .i64 e.k, .int .i64 e.g, .int .i64 e.o, .int .i64 e.w, .int .i64 e.l, .int .i64 e.s, .int .i64 e.f, .int .i64 e.t]) ∧ EvI e ∧ Cur w' g ∧ w.grownBy w' (some g) := by
  have hgl := hc.lt
  go_enter Tryz.func94, Tryz.ntmps94
  have hr0 := EvB.new w ⟨0, 0, 0, 0, 0, 0, 0, 0⟩
  go_wp2_with fail
  refine (l2Draw_any _ _ (hc.fr (Fr.alloc _ _))).mono ?_
  rintro e w1 ⟨⟨k, gr, o, wi, l, sz, f, t⟩, rfl, ⟨i0, i1, i2, i3, i4, i5, i6, i7⟩, c1, g1⟩
  simp only at i0 i1 i2 i3 i4 i5 i6 i7 ⊢
  have h : DS w g w.heap.size w1.heap.size ⟨k, gr, o, wi, l, sz, f, t⟩ (w1.alloc (.cells #[.int .i64 k, .int .i64 gr, .int .i64 o, .int .i64 wi, .int .i64 l, .int .i64 sz, .int .i64 f, .int .i64 t] 31)) := by
    have hlt := (hr0.keep g1 (by simp; omega)).lt
    exact ⟨c1.fr (Fr.alloc _ _), grown_then (grown_then (Fr.alloc w _).wide g1 (row_some (.inr rfl))) (Fr.alloc _ _) (by simp), EvB.new _ ⟨k, gr, o, wi, l, sz, f, t⟩, (hr0.keep g1 (by simp; omega)).keep (Fr.alloc _ _) (by simp), hgl, Nat.le_refl _, hlt⟩
  obtain ⟨r, hr⟩ : ∃ r, r = w.heap.size := ⟨_, rfl⟩
  simp only [← hr] at h ⊢
  clear hr hr0 c1 g1 hc hgl
  go_wp2_with fail
  refine (l1Once_any _ _ _ h.cur).mono ?_
  rintro e w3 ⟨once, rfl, c3, g3⟩
  have h0 := h.draw c3 g3
  clear h
  obtain ⟨b, hb⟩ : ∃ b, b = w1.heap.size := ⟨_, rfl⟩
  simp only [← hb] at h0 ⊢
  clear hb c3 g3 w1
  cases once
  · obtain ⟨e0, e1, e2, e3, e4, e5, e6, e7⟩ := h0.ev.at
    obtain ⟨u0, u1, u2, u3, u4, u5, u6, u7⟩ := h0.res.at
    have hbr := h0.bl
    have v0 := h0.res.free 0
    have v1 := h0.res.free 1
    have v2 := h0.res.free 2
    have v3 := h0.res.free 3
    have v4 := h0.res.free 4
    have v5 := h0.res.free 5
    have v6 := h0.res.free 6
    have v7 := h0.res.free 7
    simp only at e0 e1 e2 e3 e4 e5 e6 e7 u0 u1 u2 u3 u4 u5 u6 u7
    have hfin := fun v0 v1 v2 v3 v4 v5 v6 v7 => h0.fin (put8 _ r v0 v1 v2 v3 v4 v5 v6 v7)
    clear h0
    go_wp2_with fail
    refine bodyPost_ret (v := .agg #[.int .i64 k, .int .i64 gr, .int .i64 o, .int .i64 wi, .int .i64 l, .int .i64 sz, .int .i64 f, .int .i64 t]) (by simp [results, Tryz.results94, go_sem, u0, u1, u2, u3, u4, u5, u6, u7]) rfl ⟨⟨k, gr, o, wi, l, sz, f, t⟩, rfl, ?_, (hfin _ _ _ _ _ _ _ _).1, (hfin _ _ _ _ _ _ _ _).2⟩
    exact ⟨i0, i1, i2, i3, i4, i5, i6, i7⟩
  · go_wp2_with fail
    refine (l1Odd_any _ _ h0.cur).mono ?_
    rintro e w4 ⟨od, rfl, hod, c4, g4⟩
    have h1 := h0.draw c4 g4
    clear h0 c4 g4
    have h2 := h1.fr (Fr.alloc w4 (.cells #[.int .i64 (-1), .int .i64 0, .int .i64 1, .int .i64 8, .int .i64 9, .int .i64 15, .int .i64 16, .int .i64 64, .int .i64 65, .int .i64 65535, .int .i64 65536, .int .i64 999, .int .i64 1000, .int .i64 od] 2))
    have hgl := h1.cur.lt
    clear h1
    go_wp2_with fail
    refine (l1Below_any _ _ _ h2.cur).mono ?_
    rintro e w5 ⟨x, rfl, x0, x1, x2, c5, g5⟩
    have x3 : x < 14 := x1 (by omega)
    clear x1 x2
    obtain ⟨j, rfl⟩ := Int.eq_ofNat_of_zero_le x0
    obtain ⟨z, ix, hcell⟩ := lit_cell (w := w4) (t := 2) [-1, 0, 1, 8, 9, 15, 16, 64, 65, 65535, 65536, 999, 1000, od] (by intro z hz; simp at hz; rcases hz with rfl | rfl | rfl | rfl | rfl | rfl | rfl | rfl | rfl | rfl | rfl | rfl | rfl | rfl <;> first | exact hod | exact ⟨by decide, by decide⟩) j (by simp; omega)
    have hcell2 := g5.cell hcell (by simp; omega)
    have hj : j < 14 := by omega
    have h3 := h2.draw c5 g5
    clear hcell h2 c5 g5 hgl hod x0
    go_wp2_with fail
    refine (l1Below_any _ _ _ h3.cur).mono ?_
    rintro e w6 ⟨y, rfl, y0, y1, y2, c6, g6⟩
    have y3 : y < 8 := y1 (by omega)
    have h4 := h3.draw c6 g6
    clear h3 c6 g6 y1 y2 hcell2 hj x3
    have hy : y = 0 ∨ y = 1 ∨ y = 2 ∨ y = 3 ∨ y = 4 ∨ y = 5 ∨ y = 6 ∨ y = 7 := by omega
    clear y0 y3
    rcases hy with rfl | rfl | rfl | rfl | rfl | rfl | rfl | rfl
    · go_wp2_with fail
      refine (l1From_any _ _ _ _ h4.cur (by decide) (by decide) (by decide)).mono ?_
      rintro e w7 ⟨kk, rfl, k0, k1, c7, g7⟩
      have h5 := h4.draw c7 g7
      have ix : I64 kk := ⟨by omega, by omega⟩
      clear h4 c7 g7 k0 k1
      have cc : w7.cell? ⟨b, 0, none⟩ = some (.int .i64 k) := h5.ev.at.1
      have zz := h5.ev.free 0
      have h6 := h5.setK kk
      clear cc
      obtain ⟨e0, e1, e2, e3, e4, e5, e6, e7⟩ := h5.ev.at
      obtain ⟨u0, u1, u2, u3, u4, u5, u6, u7⟩ := h5.res.at
      have hbr := h5.bl
      have v0 := h5.res.free 0
      have v1 := h5.res.free 1
      have v2 := h5.res.free 2
      have v3 := h5.res.free 3
      have v4 := h5.res.free 4
      have v5 := h5.res.free 5
      have v6 := h5.res.free 6
      have v7 := h5.res.free 7
      simp only at e0 e1 e2 e3 e4 e5 e6 e7 u0 u1 u2 u3 u4 u5 u6 u7
      have hfin := fun v0 v1 v2 v3 v4 v5 v6 v7 => h6.fin (put8 _ r v0 v1 v2 v3 v4 v5 v6 v7)
      clear h6 h5
      go_wp2_with fail
      refine bodyPost_ret (v := .agg #[.int .i64 kk, .int .i64 gr, .int .i64 o, .int .i64 wi, .int .i64 l, .int .i64 sz, .int .i64 f, .int .i64 t]) (by simp [results, Tryz.results94, go_sem, u0, u1, u2, u3, u4, u5, u6, u7]) rfl ⟨⟨kk, gr, o, wi, l, sz, f, t⟩, rfl, ?_, (hfin _ _ _ _ _ _ _ _).1, (hfin _ _ _ _ _ _ _ _).2⟩
      exact ⟨ix, i1, i2, i3, i4, i5, i6, i7⟩
    · have cc : w6.cell? ⟨b, 1, none⟩ = some (.int .i64 gr) := h4.ev.at.2.1
      have zz := h4.ev.free 1
      have h6 := h4.setG z
      clear cc
      obtain ⟨e0, e1, e2, e3, e4, e5, e6, e7⟩ := h4.ev.at
      obtain ⟨u0, u1, u2, u3, u4, u5, u6, u7⟩ := h4.res.at
      have hbr := h4.bl
      have v0 := h4.res.free 0
      have v1 := h4.res.free 1
      have v2 := h4.res.free 2
      have v3 := h4.res.free 3
      have v4 := h4.res.free 4
      have v5 := h4.res.free 5
      have v6 := h4.res.free 6
      have v7 := h4.res.free 7
      simp only at e0 e1 e2 e3 e4 e5 e6 e7 u0 u1 u2 u3 u4 u5 u6 u7
      have hfin := fun v0 v1 v2 v3 v4 v5 v6 v7 => h6.fin (put8 _ r v0 v1 v2 v3 v4 v5 v6 v7)
      clear h6 h4
      go_wp2_with fail
      refine bodyPost_ret (v := .agg #[.int .i64 k, .int .i64 z, .int .i64 o, .int .i64 wi, .int .i64 l, .int .i64 sz, .int .i64 f, .int .i64 t]) (by simp [results, Tryz.results94, go_sem, u0, u1, u2, u3, u4, u5, u6, u7]) rfl ⟨⟨k, z, o, wi, l, sz, f, t⟩, rfl, ?_, (hfin _ _ _ _ _ _ _ _).1, (hfin _ _ _ _ _ _ _ _).2⟩
      exact ⟨i0, ix, i2, i3, i4, i5, i6, i7⟩
    · have cc : w6.cell? ⟨b, 2, none⟩ = some (.int .i64 o) := h4.ev.at.2.2.1
      have zz := h4.ev.free 2
      have h6 := h4.setO z
      clear cc
      obtain ⟨e0, e1, e2, e3, e4, e5, e6, e7⟩ := h4.ev.at
      obtain ⟨u0, u1, u2, u3, u4, u5, u6, u7⟩ := h4.res.at
      have hbr := h4.bl
      have v0 := h4.res.free 0
      have v1 := h4.res.free 1
      have v2 := h4.res.free 2
      have v3 := h4.res.free 3
      have v4 := h4.res.free 4
      have v5 := h4.res.free 5
      have v6 := h4.res.free 6
      have v7 := h4.res.free 7
      simp only at e0 e1 e2 e3 e4 e5 e6 e7 u0 u1 u2 u3 u4 u5 u6 u7
      have hfin := fun v0 v1 v2 v3 v4 v5 v6 v7 => h6.fin (put8 _ r v0 v1 v2 v3 v4 v5 v6 v7)
      clear h6 h4
      go_wp2_with fail
      refine bodyPost_ret (v := .agg #[.int .i64 k, .int .i64 gr, .int .i64 z, .int .i64 wi, .int .i64 l, .int .i64 sz, .int .i64 f, .int .i64 t]) (by simp [results, Tryz.results94, go_sem, u0, u1, u2, u3, u4, u5, u6, u7]) rfl ⟨⟨k, gr, z, wi, l, sz, f, t⟩, rfl, ?_, (hfin _ _ _ _ _ _ _ _).1, (hfin _ _ _ _ _ _ _ _).2⟩
      exact ⟨i0, i1, ix, i3, i4, i5, i6, i7⟩
    · have cc : w6.cell? ⟨b, 3, none⟩ = some (.int .i64 wi) := h4.ev.at.2.2.2.1
      have zz := h4.ev.free 3
      have h6 := h4.setW z
      clear cc
      obtain ⟨e0, e1, e2, e3, e4, e5, e6, e7⟩ := h4.ev.at
      obtain ⟨u0, u1, u2, u3, u4, u5, u6, u7⟩ := h4.res.at
      have hbr := h4.bl
      have v0 := h4.res.free 0
      have v1 := h4.res.free 1
      have v2 := h4.res.free 2
      have v3 := h4.res.free 3
      have v4 := h4.res.free 4
      have v5 := h4.res.free 5
      have v6 := h4.res.free 6
      have v7 := h4.res.free 7
      simp only at e0 e1 e2 e3 e4 e5 e6 e7 u0 u1 u2 u3 u4 u5 u6 u7
      have hfin := fun v0 v1 v2 v3 v4 v5 v6 v7 => h6.fin (put8 _ r v0 v1 v2 v3 v4 v5 v6 v7)
      clear h6 h4
      go_wp2_with fail
      refine bodyPost_ret (v := .agg #[.int .i64 k, .int .i64 gr, .int .i64 o, .int .i64 z, .int .i64 l, .int .i64 sz, .int .i64 f, .int .i64 t]) (by simp [results, Tryz.results94, go_sem, u0, u1, u2, u3, u4, u5, u6, u7]) rfl ⟨⟨k, gr, o, z, l, sz, f, t⟩, rfl, ?_, (hfin _ _ _ _ _ _ _ _).1, (hfin _ _ _ _ _ _ _ _).2⟩
      exact ⟨i0, i1, i2, ix, i4, i5, i6, i7⟩
    · have cc : w6.cell? ⟨b, 4, none⟩ = some (.int .i64 l) := h4.ev.at.2.2.2.2.1
      have zz := h4.ev.free 4
      have h6 := h4.setL z
      clear cc
      obtain ⟨e0, e1, e2, e3, e4, e5, e6, e7⟩ := h4.ev.at
      obtain ⟨u0, u1, u2, u3, u4, u5, u6, u7⟩ := h4.res.at
      have hbr := h4.bl
      have v0 := h4.res.free 0
      have v1 := h4.res.free 1
      have v2 := h4.res.free 2
      have v3 := h4.res.free 3
      have v4 := h4.res.free 4
      have v5 := h4.res.free 5
      have v6 := h4.res.free 6
      have v7 := h4.res.free 7
      simp only at e0 e1 e2 e3 e4 e5 e6 e7 u0 u1 u2 u3 u4 u5 u6 u7
      have hfin := fun v0 v1 v2 v3 v4 v5 v6 v7 => h6.fin (put8 _ r v0 v1 v2 v3 v4 v5 v6 v7)
      clear h6 h4
      go_wp2_with fail
      refine bodyPost_ret (v := .agg #[.int .i64 k, .int .i64 gr, .int .i64 o, .int .i64 wi, .int .i64 z, .int .i64 sz, .int .i64 f, .int .i64 t]) (by simp [results, Tryz.results94, go_sem, u0, u1, u2, u3, u4, u5, u6, u7]) rfl ⟨⟨k, gr, o, wi, z, sz, f, t⟩, rfl, ?_, (hfin _ _ _ _ _ _ _ _).1, (hfin _ _ _ _ _ _ _ _).2⟩
      exact ⟨i0, i1, i2, i3, ix, i5, i6, i7⟩
    · have cc : w6.cell? ⟨b, 5, none⟩ = some (.int .i64 sz) := h4.ev.at.2.2.2.2.2.1
      have zz := h4.ev.free 5
      have h6 := h4.setS z
      clear cc
      obtain ⟨e0, e1, e2, e3, e4, e5, e6, e7⟩ := h4.ev.at
      obtain ⟨u0, u1, u2, u3, u4, u5, u6, u7⟩ := h4.res.at
      have hbr := h4.bl
      have v0 := h4.res.free 0
      have v1 := h4.res.free 1
      have v2 := h4.res.free 2
      have v3 := h4.res.free 3
      have v4 := h4.res.free 4
      have v5 := h4.res.free 5
      have v6 := h4.res.free 6
      have v7 := h4.res.free 7
      simp only at e0 e1 e2 e3 e4 e5 e6 e7 u0 u1 u2 u3 u4 u5 u6 u7
      have hfin := fun v0 v1 v2 v3 v4 v5 v6 v7 => h6.fin (put8 _ r v0 v1 v2 v3 v4 v5 v6 v7)
      clear h6 h4
      go_wp2_with fail
      refine bodyPost_ret (v := .agg #[.int .i64 k, .int .i64 gr, .int .i64 o, .int .i64 wi, .int .i64 l, .int .i64 z, .int .i64 f, .int .i64 t]) (by simp [results, Tryz.results94, go_sem, u0, u1, u2, u3, u4, u5, u6, u7]) rfl ⟨⟨k, gr, o, wi, l, z, f, t⟩, rfl, ?_, (hfin _ _ _ _ _ _ _ _).1, (hfin _ _ _ _ _ _ _ _).2⟩
      exact ⟨i0, i1, i2, i3, i4, ix, i6, i7⟩
    · have cc : w6.cell? ⟨b, 6, none⟩ = some (.int .i64 f) := h4.ev.at.2.2.2.2.2.2.1
      have zz := h4.ev.free 6
      have h6 := h4.setF z
      clear cc
      obtain ⟨e0, e1, e2, e3, e4, e5, e6, e7⟩ := h4.ev.at
      obtain ⟨u0, u1, u2, u3, u4, u5, u6, u7⟩ := h4.res.at
      have hbr := h4.bl
      have v0 := h4.res.free 0
      have v1 := h4.res.free 1
      have v2 := h4.res.free 2
      have v3 := h4.res.free 3
      have v4 := h4.res.free 4
      have v5 := h4.res.free 5
      have v6 := h4.res.free 6
      have v7 := h4.res.free 7
      simp only at e0 e1 e2 e3 e4 e5 e6 e7 u0 u1 u2 u3 u4 u5 u6 u7
      have hfin := fun v0 v1 v2 v3 v4 v5 v6 v7 => h6.fin (put8 _ r v0 v1 v2 v3 v4 v5 v6 v7)
      clear h6 h4
      go_wp2_with fail
      refine bodyPost_ret (v := .agg #[.int .i64 k, .int .i64 gr, .int .i64 o, .int .i64 wi, .int .i64 l, .int .i64 sz, .int .i64 z, .int .i64 t]) (by simp [results, Tryz.results94, go_sem, u0, u1, u2, u3, u4, u5, u6, u7]) rfl ⟨⟨k, gr, o, wi, l, sz, z, t⟩, rfl, ?_, (hfin _ _ _ _ _ _ _ _).1, (hfin _ _ _ _ _ _ _ _).2⟩
      exact ⟨i0, i1, i2, i3, i4, i5, ix, i7⟩
    · have cc : w6.cell? ⟨b, 7, none⟩ = some (.int .i64 t) := h4.ev.at.2.2.2.2.2.2.2
      have zz := h4.ev.free 7
      have h6 := h4.setT z
      clear cc
      obtain ⟨e0, e1, e2, e3, e4, e5, e6, e7⟩ := h4.ev.at
      obtain ⟨u0, u1, u2, u3, u4, u5, u6, u7⟩ := h4.res.at
      have hbr := h4.bl
      have v0 := h4.res.free 0
      have v1 := h4.res.free 1
      have v2 := h4.res.free 2
      have v3 := h4.res.free 3
      have v4 := h4.res.free 4
      have v5 := h4.res.free 5
      have v6 := h4.res.free 6
      have v7 := h4.res.free 7
      simp only at e0 e1 e2 e3 e4 e5 e6 e7 u0 u1 u2 u3 u4 u5 u6 u7
      have hfin := fun v0 v1 v2 v3 v4 v5 v6 v7 => h6.fin (put8 _ r v0 v1 v2 v3 v4 v5 v6 v7)
      clear h6 h4
      go_wp2_with fail
      refine bodyPost_ret (v := .agg #[.int .i64 k, .int .i64 gr, .int .i64 o, .int .i64 wi, .int .i64 l, .int .i64 sz, .int .i64 f, .int .i64 z]) (by simp [results, Tryz.results94, go_sem, u0, u1, u2, u3, u4, u5, u6, u7]) rfl ⟨⟨k, gr, o, wi, l, sz, f, z⟩, rfl, ?_, (hfin _ _ _ _ _ _ _ _).1, (hfin _ _ _ _ _ _ _ _).2⟩
      exact ⟨i0, i1, i2, i3, i4, i5, i6, ix⟩
end Go.Proofs.YtcofhmikdkkigaaGreatDoor
namespace Go.Proofs.YtcofhmikdkkigaaGreatDoor
open Go.RowKit

theorem l1Max_any2 (a b : Int) (w : World) :
    Calls Tryz.prog 147 #[.int .i64 a, .int .i64 b] w fun e w' => e = .returned (.int .i64 (max a b)) ∧ w' = w := by
  by_cases h : b < a
  · go_enter Tryz.func147, Tryz.ntmps147
    go_wp2
    go_ret
    exact ⟨ret_int (by omega), rfl⟩
  · go_enter Tryz.func147, Tryz.ntmps147
    go_wp2
    go_ret
    exact ⟨ret_int (by omega), rfl⟩

structure NX (B : Nat → Prop) (w0 : World) (g sb rb eb : Nat) (s : Sv) (m : Scn) (e : Ev) (wr : World) : Prop where
  cur : Cur wr g
  gro : w0.grownBy wr (some g)
  sc : ScK wr sb s
  rs : EvB wr rb ⟨0, 0, 0, 0, 0, 0, 0, 0⟩
  ev : EvB wr eb e
  scr : ScR B wr s m
  gl : g < w0.heap.size
  sl : w0.heap.size ≤ sb
  rl : sb < rb
  el : rb < eb
  bB : ∀ b, B b → b < w0.heap.size ∧ b ≠ g
theorem NX.draw {B : Nat → Prop} {w0 wr w' : World} {g sb rb eb : Nat} {s : Sv} {m : Scn} {e : Ev} (h : NX B w0 g sb rb eb s m e wr) (c : Cur w' g) (k : wr.grownBy w' (some g)) : NX B w0 g sb rb eb s m e w' := by
  have h1 := h.gl; have h2 := h.sl; have h3 := h.rl; have h4 := h.el
  exact { h with cur := c, gro := grown_trans h.gro k, sc := h.sc.keep k (by simp; omega), rs := h.rs.keep k (by simp; omega), ev := h.ev.keep k (by simp; omega), scr := h.scr.keep k (fun j hj => by cases hj; exact fun q => (h.bB _ q).2 rfl) }
theorem NX.fr {B : Nat → Prop} {w0 wr w' : World} {g sb rb eb : Nat} {s : Sv} {m : Scn} {e : Ev} (h : NX B w0 g sb rb eb s m e wr) (k : Fr wr w') : NX B w0 g sb rb eb s m e w' :=
  { h with cur := h.cur.fr k, gro := grown_trans h.gro k.wide, sc := h.sc.fr k, rs := h.rs.keep k (by simp), ev := h.ev.keep k (by simp), scr := h.scr.fr k }
theorem NX.wrote {B : Nat → Prop} {w0 wr w' : World} {g sb rb eb : Nat} {s : Sv} {m : Scn} {e e' : Ev} (h : NX B w0 g sb rb eb s m e wr) (k : wr.grownBy w' (some eb)) (hb : EvB w' eb e') : NX B w0 g sb rb eb s m e' w' := by
  have h1 := h.gl; have h2 := h.sl; have h3 := h.rl; have h4 := h.el
  exact { h with cur := h.cur.other k (by intro j hj; simp only [Option.some.injEq] at hj; omega), gro := grown_then h.gro k (by intro j hj; simp only [Option.some.injEq] at hj; omega), sc := h.sc.keep k (by simp; omega), rs := h.rs.keep k (by simp; omega), ev := hb, scr := h.scr.keep k (fun j hj => by cases hj; intro q; have := (h.bB _ q).1; omega) }

theorem NX.fin {B : Nat → Prop} {w0 wr : World} {g sb rb eb : Nat} {s : Sv} {m : Scn} {e : Ev} (h : NX B w0 g sb rb eb s m e wr) (v0 v1 v2 v3 v4 v5 v6 v7 : Value) :
    Cur ((((((((wr.setCell ⟨rb, 0, none⟩ v0).setCell ⟨rb, 1, none⟩ v1).setCell ⟨rb, 2, none⟩ v2).setCell ⟨rb, 3, none⟩ v3).setCell ⟨rb, 4, none⟩ v4).setCell ⟨rb, 5, none⟩ v5).setCell ⟨rb, 6, none⟩ v6).setCell ⟨rb, 7, none⟩ v7) g ∧
    w0.grownBy ((((((((wr.setCell ⟨rb, 0, none⟩ v0).setCell ⟨rb, 1, none⟩ v1).setCell ⟨rb, 2, none⟩ v2).setCell ⟨rb, 3, none⟩ v3).setCell ⟨rb, 4, none⟩ v4).setCell ⟨rb, 5, none⟩ v5).setCell ⟨rb, 6, none⟩ v6).setCell ⟨rb, 7, none⟩ v7) (some g) := by
  have k := grown_st8 wr rb v0 v1 v2 v3 v4 v5 v6 v7
  have h1 := h.gl; have h2 := h.sl; have h3 := h.rl
  exact ⟨h.cur.other k (by intro j hj; simp only [Option.some.injEq] at hj; omega), grown_then h.gro k (by intro j hj; simp only [Option.some.injEq] at hj; omega)⟩

set_option maxRecDepth 20000 in
set_option maxHeartbeats 8000000 in
theorem l5Next_any {B : Nat → Prop} (g : Nat) (s : Sv) (m : Scn) (w : World) (hc : Cur w g) (hB : ∀ b, B b → b < w.heap.size ∧ b ≠ g) (h : ScR B w s m) :
    Calls Tryz.prog 93 #[.pointer (some ⟨g, 0, none⟩), .agg #[.int .i64 s.g, .slice s.lo s.ll s.lc, .slice s.co s.cl s.cc, .slice s.no s.nl s.nc, .slice s.oo s.ol s.oc]] w fun x w' => ∃ e : Ev, x = .returned (.agg #[.int .i64 e.k, .int .i64 e.g, .int .i64 e.o, .int .i64 e.w, .int .i64 e.l, .int .i64 e.s, .int .i64 e.f, .int .i64 e.t]) ∧ EvI e ∧ Cur w' g ∧ w.grownBy w' (some g) := by
  have hgl := hc.lt
  have f1 := Fr.alloc w (.cells #[.int .i64 s.g, .slice s.lo s.ll s.lc, .slice s.co s.cl s.cc, .slice s.no s.nl s.nc, .slice s.oo s.ol s.oc] 29)
  have f2 := Fr.alloc (w.alloc (.cells #[.int .i64 s.g, .slice s.lo s.ll s.lc, .slice s.co s.cl s.cc, .slice s.no s.nl s.nc, .slice s.oo s.ol s.oc] 29)) (.cells #[.int .i64 0, .int .i64 0, .int .i64 0, .int .i64 0, .int .i64 0, .int .i64 0, .int .i64 0, .int .i64 0] 31)
  have f3 := Fr.alloc ((w.alloc (.cells #[.int .i64 s.g, .slice s.lo s.ll s.lc, .slice s.co s.cl s.cc, .slice s.no s.nl s.nc, .slice s.oo s.ol s.oc] 29)).alloc (.cells #[.int .i64 0, .int .i64 0, .int .i64 0, .int .i64 0, .int .i64 0, .int .i64 0, .int .i64 0, .int .i64 0] 31)) (.cells #[.int .i64 20, .int .i64 0, .int .i64 0, .int .i64 0, .int .i64 0, .int .i64 0, .int .i64 0, .int .i64 0] 31)
  have hN : NX B w g w.heap.size (w.heap.size + 1) (w.heap.size + 1 + 1) s m ⟨20, 0, 0, 0, 0, 0, 0, 0⟩ (((w.alloc (.cells #[.int .i64 s.g, .slice s.lo s.ll s.lc, .slice s.co s.cl s.cc, .slice s.no s.nl s.nc, .slice s.oo s.ol s.oc] 29)).alloc (.cells #[.int .i64 0, .int .i64 0, .int .i64 0, .int .i64 0, .int .i64 0, .int .i64 0, .int .i64 0, .int .i64 0] 31)).alloc (.cells #[.int .i64 20, .int .i64 0, .int .i64 0, .int .i64 0, .int .i64 0, .int .i64 0, .int .i64 0, .int .i64 0] 31)) := by
    have fA := (f1.trans f2).trans f3
    have r1 := (EvB.new (w.alloc (.cells #[.int .i64 s.g, .slice s.lo s.ll s.lc, .slice s.co s.cl s.cc, .slice s.no s.nl s.nc, .slice s.oo s.ol s.oc] 29)) ⟨0, 0, 0, 0, 0, 0, 0, 0⟩).keep f3 (by simp)
    have r2 := EvB.new ((w.alloc (.cells #[.int .i64 s.g, .slice s.lo s.ll s.lc, .slice s.co s.cl s.cc, .slice s.no s.nl s.nc, .slice s.oo s.ol s.oc] 29)).alloc (.cells #[.int .i64 0, .int .i64 0, .int .i64 0, .int .i64 0, .int .i64 0, .int .i64 0, .int .i64 0, .int .i64 0] 31)) ⟨20, 0, 0, 0, 0, 0, 0, 0⟩
    simp only [World.size_alloc] at r1 r2
    exact ⟨hc.fr fA, fA.wide, (ScK.new w s).fr (f2.trans f3), r1, r2, h.fr fA, hgl, Nat.le_refl _, by omega, by omega, hB⟩
  have hsg : I64 s.g := by rw [h.g]; exact h.ig
  obtain ⟨sg, lo, ll, lc, co, cl, cc, no, nl, nc, oo, ol, oc⟩ := s
  simp only at hN hsg ⊢
  clear h hB hc f1 f2 f3 hgl
  go_enter Tryz.func93, Tryz.ntmps93
  go_wp2_with fail
  obtain ⟨W, hW⟩ : ∃ W, W = (((w.alloc (.cells #[.int .i64 sg, .slice lo ll lc, .slice co cl cc, .slice no nl nc, .slice oo ol oc] 29)).alloc (.cells #[.int .i64 0, .int .i64 0, .int .i64 0, .int .i64 0, .int .i64 0, .int .i64 0, .int .i64 0, .int .i64 0] 31)).alloc (.cells #[.int .i64 20, .int .i64 0, .int .i64 0, .int .i64 0, .int .i64 0, .int .i64 0, .int .i64 0, .int .i64 0] 31)) := ⟨_, rfl⟩
  rw [← hW] at hN ⊢
  obtain ⟨sb, hsb⟩ : ∃ sb, sb = w.heap.size := ⟨_, rfl⟩
  obtain ⟨rb, hrb⟩ : ∃ rb, rb = w.heap.size + 1 := ⟨_, rfl⟩
  obtain ⟨eb, heb⟩ : ∃ eb, eb = w.heap.size + 1 + 1 := ⟨_, rfl⟩
  rw [← heb] at hN ⊢
  rw [← hrb] at hN ⊢
  rw [← hsb] at hN ⊢
  clear hW hsb hrb heb
  go_loopw [6] (fun i wr => ∃ (k : Nat) (e : Ev), k ≤ 12 ∧ i = .int .i64 k ∧ EvI e ∧ NX B w g sb rb eb ⟨sg, lo, ll, lc, co, cl, cc, no, nl, nc, oo, ol, oc⟩ m e wr) (fun i _ => 12 - (intOf i).toNat)
  case atStart => exact ⟨0, _, by omega, rfl, ⟨⟨by decide, by decide⟩, ⟨by decide, by decide⟩, ⟨by decide, by decide⟩, ⟨by decide, by decide⟩, ⟨by decide, by decide⟩, ⟨by decide, by decide⟩, ⟨by decide, by decide⟩, ⟨by decide, by decide⟩⟩, hN⟩
  case round =>
    clear hN
    obtain ⟨i, e, hi, rfl, hE, hN⟩ := hrel
    by_cases hlt : i < 12
    · go_wp2_with fail
      refine (l2Draw_any _ _ hN.cur).mono ?_
      rintro x w1 ⟨⟨k, gr, o, wi, l, sz, f, t⟩, rfl, ⟨i0, i1, i2, i3, i4, i5, i6, i7⟩, c1, g1⟩
      simp only at i0 i1 i2 i3 i4 i5 i6 i7 ⊢
      have h1 := hN.draw c1 g1
      clear hN hE c1 g1
      obtain ⟨a0, a1, a2, a3, a4, a5, a6, a7⟩ := h1.ev.at
      have af := fun i => h1.ev.free i
      have h2 := h1.wrote (grown_st8 w1 eb (.int .i64 k) (.int .i64 gr) (.int .i64 o) (.int .i64 wi) (.int .i64 l) (.int .i64 sz) (.int .i64 f) (.int .i64 t)) (h1.ev.set8 ⟨k, gr, o, wi, l, sz, f, t⟩)
      clear h1
      go_upto_region 6 with fail
      clear a0 a1 a2 a3 a4 a5 a6 a7 af
      obtain ⟨w2, hw2⟩ : ∃ w2, w2 = ((((((((w1.setCell ⟨eb, 0, none⟩ (.int .i64 k)).setCell ⟨eb, 1, none⟩ (.int .i64 gr)).setCell ⟨eb, 2, none⟩ (.int .i64 o)).setCell ⟨eb, 3, none⟩ (.int .i64 wi)).setCell ⟨eb, 4, none⟩ (.int .i64 l)).setCell ⟨eb, 5, none⟩ (.int .i64 sz)).setCell ⟨eb, 6, none⟩ (.int .i64 f)).setCell ⟨eb, 7, none⟩ (.int .i64 t)) := ⟨_, rfl⟩
      rw [← hw2] at h2 ⊢
      clear hw2
      have c0 := h2.sc.at.c0
      simp only at c0
      go_wp2_with fail
      refine (l1Min_any _ _ _).mono ?_
      rintro e y ⟨rfl, rfl⟩
      obtain ⟨q, hq⟩ : ∃ q, q = min sg 16 := ⟨_, rfl⟩
      simp only [← hq]
      clear hq
      go_wp2_with fail
      refine (l1Max_any2 _ _ _).mono ?_
      rintro e y ⟨rfl, rfl⟩
      obtain ⟨q2, hq2⟩ : ∃ q2, q2 = max 1 q := ⟨_, rfl⟩
      simp only [← hq2]
      clear hq2
      go_wp2_with fail
      refine (l1Below_any _ _ _ h2.cur).mono ?_
      rintro e w3 ⟨x, rfl, x0, -, x2, c3, g3⟩
      have h3 := h2.draw c3 g3
      have xf := h3.ev.free 1
      have xc := h3.ev.at.2.1
      simp only at xc
      have h4 := h3.wrote (grown_set w3 eb 1 (.int .i64 x)) (h3.ev.setG x)
      simp only at h4
      clear h2 h3 c3 g3 c0 y
      go_upto_region 7 with fail
      clear xf xc
      obtain ⟨w4, hw4⟩ : ∃ w4, w4 = w3.setCell ⟨eb, 1, none⟩ (.int .i64 x) := ⟨_, rfl⟩
      rw [← hw4] at h4 ⊢
      clear hw4
      have n0 := h4.ev.at.1
      simp only at n0
      have ix : I64 x := ⟨by omega, by omega⟩
      by_cases hk1 : k = 1
      · subst hk1
        by_cases h5g : 5 ≤ sg
        · have hd : decide (5 ≤ sg) = true := decide_eq_true h5g
          obtain ⟨a0, a1, a2, a3, a4, a5, a6, a7⟩ := h4.ev.at
          have af := fun i => h4.ev.free i
          have cg := h4.sc.at.c0
          have h5 := h4.wrote (grown_st8 w4 eb (.int .i64 17) (.int .i64 x) (.int .i64 0) (.int .i64 0) (.int .i64 0) (.int .i64 0) (.int .i64 0) (.int .i64 0)) (h4.ev.set8 ⟨17, x, 0, 0, 0, 0, 0, 0⟩)
          simp only at a0 a1 a2 a3 a4 a5 a6 a7 cg h5
          clear h4 n0
          go_upto_region 14 with fail
          clear a0 a1 a2 a3 a4 a5 a6 a7 af cg
          obtain ⟨w5, hw5⟩ : ∃ w5, w5 = ((((((((w4.setCell ⟨eb, 0, none⟩ (.int .i64 17)).setCell ⟨eb, 1, none⟩ (.int .i64 x)).setCell ⟨eb, 2, none⟩ (.int .i64 0)).setCell ⟨eb, 3, none⟩ (.int .i64 0)).setCell ⟨eb, 4, none⟩ (.int .i64 0)).setCell ⟨eb, 5, none⟩ (.int .i64 0)).setCell ⟨eb, 6, none⟩ (.int .i64 0)).setCell ⟨eb, 7, none⟩ (.int .i64 0)) := ⟨_, rfl⟩
          rw [← hw5] at h5 ⊢
          clear hw5
          have ho2 : I64 0 := ⟨by decide, by decide⟩
          have cI := fun u (hs : ScR B u ⟨sg, lo, ll, lc, co, cl, cc, no, nl, nc, oo, ol, oc⟩ m) => codeIn_any ⟨sg, lo, ll, lc, co, cl, cc, no, nl, nc, oo, ol, oc⟩ m ⟨17, x, 0, 0, 0, 0, 0, 0⟩ u ho2 hs
          simp only at cI
          have hE : EvI ⟨17, x, 0, 0, 0, 0, 0, 0⟩ := ⟨(show I64 17 from ⟨by decide, by decide⟩), ix, ho2, ho2, ho2, ho2, ho2, ho2⟩
          obtain ⟨R, hR⟩ : ∃ R, R = codeIn m ⟨17, x, 0, 0, 0, 0, 0, 0⟩ := ⟨_, rfl⟩
          simp only [← hR] at cI
          clear hR
          obtain ⟨s0, s1, s2, s3, s4⟩ := h5.sc.at
          obtain ⟨e0, e1, e2, e3, e4, e5, e6, e7⟩ := h5.ev.at
          simp only at s0 s1 s2 s3 s4 e0 e1 e2 e3 e4 e5 e6 e7
          go_wp2_with fail
          refine (cI _ h5.scr).mono ?_
          rintro y w6 ⟨rfl, f6⟩
          have h6 := h5.fr f6
          clear cI s0 s1 s2 s3 s4 e0 e1 e2 e3 e4 e5 e6 e7 h5 f6
          cases hr : (R == 0)
          · go_wp2_with fail
            go_roundw
            case rel => exact ⟨i + 1, _, by omega, by go_num, hE, h6⟩
            case measure => simp [intOf]; omega
          · obtain ⟨e0, e1, e2, e3, e4, e5, e6, e7⟩ := h6.ev.at
            obtain ⟨u0, u1, u2, u3, u4, u5, u6, u7⟩ := h6.rs.at
            simp only at e0 e1 e2 e3 e4 e5 e6 e7 u0 u1 u2 u3 u4 u5 u6 u7
            have uf := fun i => h6.rs.free i
            have HF : Hid (Cur (((((((((w6.setCell ⟨rb, 0, none⟩ (.int .i64 17)).setCell ⟨rb, 1, none⟩ (.int .i64 x)).setCell ⟨rb, 2, none⟩ (.int .i64 0)).setCell ⟨rb, 3, none⟩ (.int .i64 0)).setCell ⟨rb, 4, none⟩ (.int .i64 0)).setCell ⟨rb, 5, none⟩ (.int .i64 0)).setCell ⟨rb, 6, none⟩ (.int .i64 0)).setCell ⟨rb, 7, none⟩ (.int .i64 0))) g ∧ w.grownBy (((((((((w6.setCell ⟨rb, 0, none⟩ (.int .i64 17)).setCell ⟨rb, 1, none⟩ (.int .i64 x)).setCell ⟨rb, 2, none⟩ (.int .i64 0)).setCell ⟨rb, 3, none⟩ (.int .i64 0)).setCell ⟨rb, 4, none⟩ (.int .i64 0)).setCell ⟨rb, 5, none⟩ (.int .i64 0)).setCell ⟨rb, 6, none⟩ (.int .i64 0)).setCell ⟨rb, 7, none⟩ (.int .i64 0))) (some g)) := h6.fin _ _ _ _ _ _ _ _
            clear h6
            go_wp2_with fail
            refine bodyPost_ret (v := .agg #[.int .i64 17, .int .i64 x, .int .i64 0, .int .i64 0, .int .i64 0, .int .i64 0, .int .i64 0, .int .i64 0]) (by simp [results, Tryz.results93, go_sem, u0, u1, u2, u3, u4, u5, u6, u7]) rfl ⟨⟨17, x, 0, 0, 0, 0, 0, 0⟩, rfl, hE, HF.out.1, HF.out.2⟩
        · have hd : decide (5 ≤ sg) = false := decide_eq_false h5g
          have h5g' : sg < 5 := by omega
          have a2 := h4.ev.at.2.2.1
          have af := h4.ev.free 2
          have cg := h4.sc.at.c0
          have h5 := h4.wrote (grown_set w4 eb 2 (.int .i64 sg)) (h4.ev.setO sg)
          simp only at a2 cg h5
          clear h4
          go_upto_region 14 with fail
          clear a2 af cg n0
          obtain ⟨w5, hw5⟩ : ∃ w5, w5 = w4.setCell ⟨eb, 2, none⟩ (.int .i64 sg) := ⟨_, rfl⟩
          rw [← hw5] at h5 ⊢
          clear hw5
          have ho2 : I64 sg := hsg
          have cI := fun u (hs : ScR B u ⟨sg, lo, ll, lc, co, cl, cc, no, nl, nc, oo, ol, oc⟩ m) => codeIn_any ⟨sg, lo, ll, lc, co, cl, cc, no, nl, nc, oo, ol, oc⟩ m ⟨1, x, sg, wi, l, sz, f, t⟩ u ho2 hs
          simp only at cI
          have hE : EvI ⟨1, x, sg, wi, l, sz, f, t⟩ := ⟨i0, ix, hsg, i3, i4, i5, i6, i7⟩
          obtain ⟨R, hR⟩ : ∃ R, R = codeIn m ⟨1, x, sg, wi, l, sz, f, t⟩ := ⟨_, rfl⟩
          simp only [← hR] at cI
          clear hR
          obtain ⟨s0, s1, s2, s3, s4⟩ := h5.sc.at
          obtain ⟨e0, e1, e2, e3, e4, e5, e6, e7⟩ := h5.ev.at
          simp only at s0 s1 s2 s3 s4 e0 e1 e2 e3 e4 e5 e6 e7
          go_wp2_with fail
          refine (cI _ h5.scr).mono ?_
          rintro y w6 ⟨rfl, f6⟩
          have h6 := h5.fr f6
          clear cI s0 s1 s2 s3 s4 e0 e1 e2 e3 e4 e5 e6 e7 h5 f6
          cases hr : (R == 0)
          · go_wp2_with fail
            go_roundw
            case rel => exact ⟨i + 1, _, by omega, by go_num, hE, h6⟩
            case measure => simp [intOf]; omega
          · obtain ⟨e0, e1, e2, e3, e4, e5, e6, e7⟩ := h6.ev.at
            obtain ⟨u0, u1, u2, u3, u4, u5, u6, u7⟩ := h6.rs.at
            simp only at e0 e1 e2 e3 e4 e5 e6 e7 u0 u1 u2 u3 u4 u5 u6 u7
            have uf := fun i => h6.rs.free i
            have HF : Hid (Cur (((((((((w6.setCell ⟨rb, 0, none⟩ (.int .i64 1)).setCell ⟨rb, 1, none⟩ (.int .i64 x)).setCell ⟨rb, 2, none⟩ (.int .i64 sg)).setCell ⟨rb, 3, none⟩ (.int .i64 wi)).setCell ⟨rb, 4, none⟩ (.int .i64 l)).setCell ⟨rb, 5, none⟩ (.int .i64 sz)).setCell ⟨rb, 6, none⟩ (.int .i64 f)).setCell ⟨rb, 7, none⟩ (.int .i64 t))) g ∧ w.grownBy (((((((((w6.setCell ⟨rb, 0, none⟩ (.int .i64 1)).setCell ⟨rb, 1, none⟩ (.int .i64 x)).setCell ⟨rb, 2, none⟩ (.int .i64 sg)).setCell ⟨rb, 3, none⟩ (.int .i64 wi)).setCell ⟨rb, 4, none⟩ (.int .i64 l)).setCell ⟨rb, 5, none⟩ (.int .i64 sz)).setCell ⟨rb, 6, none⟩ (.int .i64 f)).setCell ⟨rb, 7, none⟩ (.int .i64 t))) (some g)) := h6.fin _ _ _ _ _ _ _ _
            clear h6
            go_wp2_with fail
            refine bodyPost_ret (v := .agg #[.int .i64 1, .int .i64 x, .int .i64 sg, .int .i64 wi, .int .i64 l, .int .i64 sz, .int .i64 f, .int .i64 t]) (by simp [results, Tryz.results93, go_sem, u0, u1, u2, u3, u4, u5, u6, u7]) rfl ⟨⟨1, x, sg, wi, l, sz, f, t⟩, rfl, hE, HF.out.1, HF.out.2⟩
      · have ek1 : (k == 1) = false := beq_eq_false_iff_ne.2 hk1
        by_cases hk9 : k = 9
        · subst hk9
          have cg := h4.sc.at.c0
          simp only at cg
          go_wp2_with fail
          refine (l1Min_any _ _ _).mono ?_
          rintro e y ⟨rfl, rfl⟩
          obtain ⟨q, hq⟩ : ∃ q, q = min sg 16 := ⟨_, rfl⟩
          simp only [← hq]
          clear hq
          go_wp2_with fail
          refine (l1Max_any2 _ _ _).mono ?_
          rintro e y ⟨rfl, rfl⟩
          obtain ⟨q2, hq2⟩ : ∃ q2, q2 = max 1 q := ⟨_, rfl⟩
          simp only [← hq2]
          clear hq2
          go_wp2_with fail
          refine (l1Below_any _ _ _ h4.cur).mono ?_
          rintro e w5 ⟨x5, rfl, x50, -, x52, c5, g5⟩
          have h5 := h4.draw c5 g5
          have xf := h5.ev.free 3
          have xc := h5.ev.at.2.2.2.1
          have h5 := h5.wrote (grown_set w5 eb 3 (.int .i64 x5)) (h5.ev.setW x5)
          simp only at xc h5
          clear h4 c5 g5 cg n0
          go_upto_region 14 with fail
          clear xf xc
          obtain ⟨w8, hw8⟩ : ∃ w8, w8 = w5.setCell ⟨eb, 3, none⟩ (.int .i64 x5) := ⟨_, rfl⟩
          rw [← hw8] at h5 ⊢
          clear hw8
          have ho2 : I64 o := i2
          have cI := fun u (hs : ScR B u ⟨sg, lo, ll, lc, co, cl, cc, no, nl, nc, oo, ol, oc⟩ m) => codeIn_any ⟨sg, lo, ll, lc, co, cl, cc, no, nl, nc, oo, ol, oc⟩ m ⟨9, x, o, x5, l, sz, f, t⟩ u ho2 hs
          simp only at cI
          have hE : EvI ⟨9, x, o, x5, l, sz, f, t⟩ := ⟨i0, ix, i2, (show I64 x5 from ⟨by omega, by omega⟩), i4, i5, i6, i7⟩
          obtain ⟨R, hR⟩ : ∃ R, R = codeIn m ⟨9, x, o, x5, l, sz, f, t⟩ := ⟨_, rfl⟩
          simp only [← hR] at cI
          clear hR
          obtain ⟨s0, s1, s2, s3, s4⟩ := h5.sc.at
          obtain ⟨e0, e1, e2, e3, e4, e5, e6, e7⟩ := h5.ev.at
          simp only at s0 s1 s2 s3 s4 e0 e1 e2 e3 e4 e5 e6 e7
          go_wp2_with fail
          refine (cI _ h5.scr).mono ?_
          rintro y w6 ⟨rfl, f6⟩
          have h6 := h5.fr f6
          clear cI s0 s1 s2 s3 s4 e0 e1 e2 e3 e4 e5 e6 e7 h5 f6
          cases hr : (R == 0)
          · go_wp2_with fail
            go_roundw
            case rel => exact ⟨i + 1, _, by omega, by go_num, hE, h6⟩
            case measure => simp [intOf]; omega
          · obtain ⟨e0, e1, e2, e3, e4, e5, e6, e7⟩ := h6.ev.at
            obtain ⟨u0, u1, u2, u3, u4, u5, u6, u7⟩ := h6.rs.at
            simp only at e0 e1 e2 e3 e4 e5 e6 e7 u0 u1 u2 u3 u4 u5 u6 u7
            have uf := fun i => h6.rs.free i
            have HF : Hid (Cur (((((((((w6.setCell ⟨rb, 0, none⟩ (.int .i64 9)).setCell ⟨rb, 1, none⟩ (.int .i64 x)).setCell ⟨rb, 2, none⟩ (.int .i64 o)).setCell ⟨rb, 3, none⟩ (.int .i64 x5)).setCell ⟨rb, 4, none⟩ (.int .i64 l)).setCell ⟨rb, 5, none⟩ (.int .i64 sz)).setCell ⟨rb, 6, none⟩ (.int .i64 f)).setCell ⟨rb, 7, none⟩ (.int .i64 t))) g ∧ w.grownBy (((((((((w6.setCell ⟨rb, 0, none⟩ (.int .i64 9)).setCell ⟨rb, 1, none⟩ (.int .i64 x)).setCell ⟨rb, 2, none⟩ (.int .i64 o)).setCell ⟨rb, 3, none⟩ (.int .i64 x5)).setCell ⟨rb, 4, none⟩ (.int .i64 l)).setCell ⟨rb, 5, none⟩ (.int .i64 sz)).setCell ⟨rb, 6, none⟩ (.int .i64 f)).setCell ⟨rb, 7, none⟩ (.int .i64 t))) (some g)) := h6.fin _ _ _ _ _ _ _ _
            clear h6
            go_wp2_with fail
            refine bodyPost_ret (v := .agg #[.int .i64 9, .int .i64 x, .int .i64 o, .int .i64 x5, .int .i64 l, .int .i64 sz, .int .i64 f, .int .i64 t]) (by simp [results, Tryz.results93, go_sem, u0, u1, u2, u3, u4, u5, u6, u7]) rfl ⟨⟨9, x, o, x5, l, sz, f, t⟩, rfl, hE, HF.out.1, HF.out.2⟩
        · have ek9 : (k == 9) = false := beq_eq_false_iff_ne.2 hk9
          clear hk1 hk9
          go_upto_region 14 with fail
          have h5 := h4
          clear h4 n0
          have ho2 : I64 o := i2
          have cI := fun u (hs : ScR B u ⟨sg, lo, ll, lc, co, cl, cc, no, nl, nc, oo, ol, oc⟩ m) => codeIn_any ⟨sg, lo, ll, lc, co, cl, cc, no, nl, nc, oo, ol, oc⟩ m ⟨k, x, o, wi, l, sz, f, t⟩ u ho2 hs
          simp only at cI
          have hE : EvI ⟨k, x, o, wi, l, sz, f, t⟩ := ⟨i0, ix, i2, i3, i4, i5, i6, i7⟩
          obtain ⟨R, hR⟩ : ∃ R, R = codeIn m ⟨k, x, o, wi, l, sz, f, t⟩ := ⟨_, rfl⟩
          simp only [← hR] at cI
          clear hR
          obtain ⟨s0, s1, s2, s3, s4⟩ := h5.sc.at
          obtain ⟨e0, e1, e2, e3, e4, e5, e6, e7⟩ := h5.ev.at
          simp only at s0 s1 s2 s3 s4 e0 e1 e2 e3 e4 e5 e6 e7
          go_wp2_with fail
          refine (cI _ h5.scr).mono ?_
          rintro y w6 ⟨rfl, f6⟩
          have h6 := h5.fr f6
          clear cI s0 s1 s2 s3 s4 e0 e1 e2 e3 e4 e5 e6 e7 h5 f6
          cases hr : (R == 0)
          · go_wp2_with fail
            go_roundw
            case rel => exact ⟨i + 1, _, by omega, by go_num, hE, h6⟩
            case measure => simp [intOf]; omega
          · obtain ⟨e0, e1, e2, e3, e4, e5, e6, e7⟩ := h6.ev.at
            obtain ⟨u0, u1, u2, u3, u4, u5, u6, u7⟩ := h6.rs.at
            simp only at e0 e1 e2 e3 e4 e5 e6 e7 u0 u1 u2 u3 u4 u5 u6 u7
            have uf := fun i => h6.rs.free i
            have HF : Hid (Cur (((((((((w6.setCell ⟨rb, 0, none⟩ (.int .i64 k)).setCell ⟨rb, 1, none⟩ (.int .i64 x)).setCell ⟨rb, 2, none⟩ (.int .i64 o)).setCell ⟨rb, 3, none⟩ (.int .i64 wi)).setCell ⟨rb, 4, none⟩ (.int .i64 l)).setCell ⟨rb, 5, none⟩ (.int .i64 sz)).setCell ⟨rb, 6, none⟩ (.int .i64 f)).setCell ⟨rb, 7, none⟩ (.int .i64 t))) g ∧ w.grownBy (((((((((w6.setCell ⟨rb, 0, none⟩ (.int .i64 k)).setCell ⟨rb, 1, none⟩ (.int .i64 x)).setCell ⟨rb, 2, none⟩ (.int .i64 o)).setCell ⟨rb, 3, none⟩ (.int .i64 wi)).setCell ⟨rb, 4, none⟩ (.int .i64 l)).setCell ⟨rb, 5, none⟩ (.int .i64 sz)).setCell ⟨rb, 6, none⟩ (.int .i64 f)).setCell ⟨rb, 7, none⟩ (.int .i64 t))) (some g)) := h6.fin _ _ _ _ _ _ _ _
            clear h6
            go_wp2_with fail
            refine bodyPost_ret (v := .agg #[.int .i64 k, .int .i64 x, .int .i64 o, .int .i64 wi, .int .i64 l, .int .i64 sz, .int .i64 f, .int .i64 t]) (by simp [results, Tryz.results93, go_sem, u0, u1, u2, u3, u4, u5, u6, u7]) rfl ⟨⟨k, x, o, wi, l, sz, f, t⟩, rfl, hE, HF.out.1, HF.out.2⟩
    · have et : i = 12 := by omega
      subst et
      obtain ⟨k, gr, o, wi, l, sz, f, t⟩ := e
      obtain ⟨e0, e1, e2, e3, e4, e5, e6, e7⟩ := hN.ev.at
      obtain ⟨u0, u1, u2, u3, u4, u5, u6, u7⟩ := hN.rs.at
      simp only at e0 e1 e2 e3 e4 e5 e6 e7 u0 u1 u2 u3 u4 u5 u6 u7
      have uf := fun i => hN.rs.free i
      have HF : Hid (Cur (((((((((wr.setCell ⟨rb, 0, none⟩ (.int .i64 k)).setCell ⟨rb, 1, none⟩ (.int .i64 gr)).setCell ⟨rb, 2, none⟩ (.int .i64 o)).setCell ⟨rb, 3, none⟩ (.int .i64 wi)).setCell ⟨rb, 4, none⟩ (.int .i64 l)).setCell ⟨rb, 5, none⟩ (.int .i64 sz)).setCell ⟨rb, 6, none⟩ (.int .i64 f)).setCell ⟨rb, 7, none⟩ (.int .i64 t))) g ∧ w.grownBy ((((((((wr.setCell ⟨rb, 0, none⟩ (.int .i64 k)).setCell ⟨rb, 1, none⟩ (.int .i64 gr)).setCell ⟨rb, 2, none⟩ (.int .i64 o)).setCell ⟨rb, 3, none⟩ (.int .i64 wi)).setCell ⟨rb, 4, none⟩ (.int .i64 l)).setCell ⟨rb, 5, none⟩ (.int .i64 sz)).setCell ⟨rb, 6, none⟩ (.int .i64 f)).setCell ⟨rb, 7, none⟩ (.int .i64 t)) (some g)) := hN.fin _ _ _ _ _ _ _ _
      clear hN
      go_wp2_with fail
      refine bodyPost_ret (v := .agg #[.int .i64 k, .int .i64 gr, .int .i64 o, .int .i64 wi, .int .i64 l, .int .i64 sz, .int .i64 f, .int .i64 t]) (by simp [results, Tryz.results93, go_sem, u0, u1, u2, u3, u4, u5, u6, u7]) rfl ⟨⟨k, gr, o, wi, l, sz, f, t⟩, rfl, hE, HF.out.1, HF.out.2⟩
end Go.Proofs.YtcofhmikdkkigaaGreatDoor
namespace Go.Proofs.YtcofhmikdkkigaaGreatDoor
open Go.RowKit

structure D2 (w0 : World) (g r q a b : Nat) (ea eb : Ev) (wr : World) : Prop where
  cur : Cur wr g
  gro : Fr w0 wr
  eva : EvB wr a ea
  evb : EvB wr b eb
  resr : EvB wr r ⟨0, 0, 0, 0, 0, 0, 0, 0⟩
  resq : EvB wr q ⟨0, 0, 0, 0, 0, 0, 0, 0⟩
  rl : w0.heap.size ≤ r
  rq : r < q
  qg : q < g
  ga : g < a
  ab : a < b

theorem D2.draw {w0 wr w' : World} {g r q a b : Nat} {ea eb : Ev} (h : D2 w0 g r q a b ea eb wr) (c : Cur w' g) (k : wr.grownBy w' (some g)) : D2 w0 g r q a b ea eb w' := by
  obtain ⟨h1, h2, h3, h4, h5, h6, h7, h8, h9, ha, hb⟩ := h
  exact ⟨c, h2.then k (by intro j hj; simp only [Option.some.injEq] at hj; omega), h3.keep k (by simp; omega), h4.keep k (by simp; omega), h5.keep k (by simp; omega), h6.keep k (by simp; omega), h7, h8, h9, ha, hb⟩
theorem D2.wrote {w0 wr w' : World} {g r q a b : Nat} {ea ea' eb : Ev} (h : D2 w0 g r q a b ea eb wr) (k : wr.grownBy w' (some a)) (hb : EvB w' a ea') : D2 w0 g r q a b ea' eb w' := by
  obtain ⟨h1, h2, h3, h4, h5, h6, h7, h8, h9, ha, hab⟩ := h
  exact ⟨h1.other k (by intro j hj; simp only [Option.some.injEq] at hj; omega), h2.then k (by intro j hj; simp only [Option.some.injEq] at hj; omega), hb, h4.keep k (by simp; omega), h5.keep k (by simp; omega), h6.keep k (by simp; omega), h7, h8, h9, ha, hab⟩

theorem D2.setK {w0 wr : World} {g r q a b : Nat} {k gr o wi l sz f t : Int} {eb : Ev} (h : D2 w0 g r q a b ⟨k, gr, o, wi, l, sz, f, t⟩ eb wr) (x : Int) : D2 w0 g r q a b ⟨x, gr, o, wi, l, sz, f, t⟩ eb (wr.setCell ⟨a, 0, none⟩ (.int .i64 x)) :=
  h.wrote (grown_set wr a 0 _) (h.eva.setK x)
theorem D2.setO {w0 wr : World} {g r q a b : Nat} {k gr o wi l sz f t : Int} {eb : Ev} (h : D2 w0 g r q a b ⟨k, gr, o, wi, l, sz, f, t⟩ eb wr) (x : Int) : D2 w0 g r q a b ⟨k, gr, x, wi, l, sz, f, t⟩ eb (wr.setCell ⟨a, 2, none⟩ (.int .i64 x)) :=
  h.wrote (grown_set wr a 2 _) (h.eva.setO x)
theorem D2.setW {w0 wr : World} {g r q a b : Nat} {k gr o wi l sz f t : Int} {eb : Ev} (h : D2 w0 g r q a b ⟨k, gr, o, wi, l, sz, f, t⟩ eb wr) (x : Int) : D2 w0 g r q a b ⟨k, gr, o, x, l, sz, f, t⟩ eb (wr.setCell ⟨a, 3, none⟩ (.int .i64 x)) :=
  h.wrote (grown_set wr a 3 _) (h.eva.setW x)
theorem D2.setS {w0 wr : World} {g r q a b : Nat} {k gr o wi l sz f t : Int} {eb : Ev} (h : D2 w0 g r q a b ⟨k, gr, o, wi, l, sz, f, t⟩ eb wr) (x : Int) : D2 w0 g r q a b ⟨k, gr, o, wi, l, x, f, t⟩ eb (wr.setCell ⟨a, 5, none⟩ (.int .i64 x)) :=
  h.wrote (grown_set wr a 5 _) (h.eva.setS x)
theorem D2.fin {w0 wr w1 w2 : World} {g r q a b : Nat} {ea eb : Ev} (h : D2 w0 g r q a b ea eb wr) (k1 : wr.grownBy w1 (some r)) (k2 : w1.grownBy w2 (some q)) : Fr w0 w2.drew := by
  have hr := h.rl
  have hq := h.rq
  exact ((h.gro.then k1 (by intro j hj; simp only [Option.some.injEq] at hj; omega)).then k2 (by intro j hj; simp only [Option.some.injEq] at hj; omega)).trans (Fr.drew _)

end Go.Proofs.YtcofhmikdkkigaaGreatDoor
