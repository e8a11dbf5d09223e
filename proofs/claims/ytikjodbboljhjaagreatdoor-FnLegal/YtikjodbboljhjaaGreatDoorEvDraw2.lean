/-
  The drawing of events that may be wrong in one field.
-/
import Derived.Test.YtikjodbboljhjaaGreatDoorEvDraw
namespace Go.Proofs.YtikjodbboljhjaaGreatDoor
open Go.RowKit

set_option maxHeartbeats 4000000 in
theorem l2DrawAny_any (g : Nat) (w : World) (hc : Cur w g) :
    Calls Tryz.prog 91 #[.pointer (some ⟨g, 0, none⟩)] w fun x w' => ∃ e : Ev, x = .returned (.agg #[.int .i64 e.k, .int .i64 e.g, .int .i64 e.o, .int .i64 e.w, .int .i64 e.l, .int .i64 e.s, .int .i64 e.f, .int .i64 e.t]) ∧ EvI e ∧ Cur w' g ∧ w.grownBy w' (some g) := by
  have hgl := hc.lt
  go_enter Tryz.func91, Tryz.ntmps91
  have hr0 := EvB.new w ⟨0, 0, 0, 0, 0, 0, 0, 0⟩
  go_wp2_with fail
  refine (l2Draw_any _ _ (hc.fr (Fr.alloc _ _))).mono ?_
  rintro e w1 ⟨⟨k, gr, o, wi, l, sz, f, t⟩, rfl, ⟨i0, i1, i2, i3, i4, i5, i6, i7⟩, c1, g1⟩
  simp only at i0 i1 i2 i3 i4 i5 i6 i7 ⊢
  have h : DS w g w.heap.size w1.heap.size ⟨k, gr, o, wi, l, sz, f, t⟩ (w1.alloc (.cells #[.int .i64 k, .int .i64 gr, .int .i64 o, .int .i64 wi, .int .i64 l, .int .i64 sz, .int .i64 f, .int .i64 t] 31)) := by
    have hlt := (hr0.keep g1 (by simp; omega)).lt
    exact ⟨c1.fr (Fr.alloc _ _), grown_then (grown_then (Fr.alloc w _).wide g1 (row_some (.inr rfl))) (Fr.alloc _ _) (by simp), EvB.new _ ⟨k, gr, o, wi, l, sz, f, t⟩, (hr0.keep g1 (by simp; omega)).keep (Fr.alloc _ _) (by simp), hgl, Nat.le_refl _, hlt⟩
  obtain ⟨r, hr⟩ : ∃ r, r = w.heap.size := ⟨_, rfl⟩
  simp only [← hr] at h ⊢
  clear hr hr0 c1 g1 hc hgl
  go_wp2_with fail
  refine (l1Once_any _ _ _ h.cur).mono ?_
  rintro e w3 ⟨once, rfl, c3, g3⟩
  have h0 := h.draw c3 g3
  clear h
  obtain ⟨b, hb⟩ : ∃ b, b = w1.heap.size := ⟨_, rfl⟩
  simp only [← hb] at h0 ⊢
  clear hb c3 g3 w1
  cases once
  · obtain ⟨e0, e1, e2, e3, e4, e5, e6, e7⟩ := h0.ev.at
    obtain ⟨u0, u1, u2, u3, u4, u5, u6, u7⟩ := h0.res.at
    have hbr := h0.bl
    have v0 := h0.res.free 0
    have v1 := h0.res.free 1
    have v2 := h0.res.free 2
    have v3 := h0.res.free 3
    have v4 := h0.res.free 4
    have v5 := h0.res.free 5
    have v6 := h0.res.free 6
    have v7 := h0.res.free 7
    simp only at e0 e1 e2 e3 e4 e5 e6 e7 u0 u1 u2 u3 u4 u5 u6 u7
    have hfin := fun v0 v1 v2 v3 v4 v5 v6 v7 => h0.fin (put8 _ r v0 v1 v2 v3 v4 v5 v6 v7)
    clear h0
    go_wp2_with fail
    refine bodyPost_ret (v := .agg #[.int .i64 k, .int .i64 gr, .int .i64 o, .int .i64 wi, .int .i64 l, .int .i64 sz, .int .i64 f, .int .i64 t]) (by simp [results, Tryz.results91, go_sem, u0, u1, u2, u3, u4, u5, u6, u7]) rfl ⟨⟨k, gr, o, wi, l, sz, f, t⟩, rfl, ?_, (hfin _ _ _ _ _ _ _ _).1, (hfin _ _ _ _ _ _ _ _).2⟩
    exact ⟨i0, i1, i2, i3, i4, i5, i6, i7⟩
  · go_wp2_with fail
    refine (l1Odd_any _ _ h0.cur).mono ?_
    rintro e w4 ⟨od, rfl, hod, c4, g4⟩
    have h1 := h0.draw c4 g4
    clear h0 c4 g4
    have h2 := h1.fr (Fr.alloc w4 (.cells #[.int .i64 (-1), .int .i64 0, .int .i64 1, .int .i64 8, .int .i64 9, .int .i64 15, .int .i64 16, .int .i64 64, .int .i64 65, .int .i64 65535, .int .i64 65536, .int .i64 999, .int .i64 1000, .int .i64 od] 2))
    have hgl := h1.cur.lt
    clear h1
    go_wp2_with fail
    refine (l1Below_any _ _ _ h2.cur).mono ?_
    rintro e w5 ⟨x, rfl, x0, x1, x2, c5, g5⟩
    have x3 : x < 14 := x1 (by omega)
    clear x1 x2
    obtain ⟨j, rfl⟩ := Int.eq_ofNat_of_zero_le x0
    obtain ⟨z, ix, hcell⟩ := lit_cell (w := w4) (t := 2) [-1, 0, 1, 8, 9, 15, 16, 64, 65, 65535, 65536, 999, 1000, od] (by intro z hz; simp at hz; rcases hz with rfl | rfl | rfl | rfl | rfl | rfl | rfl | rfl | rfl | rfl | rfl | rfl | rfl | rfl <;> first | exact hod | exact ⟨by decide, by decide⟩) j (by simp; omega)
    have hcell2 := g5.cell hcell (by simp; omega)
    have hj : j < 14 := by omega
    have h3 := h2.draw c5 g5
    clear hcell h2 c5 g5 hgl hod x0
    go_wp2_with fail
    refine (l1Below_any _ _ _ h3.cur).mono ?_
    rintro e w6 ⟨y, rfl, y0, y1, y2, c6, g6⟩
    have y3 : y < 8 := y1 (by omega)
    have h4 := h3.draw c6 g6
    clear h3 c6 g6 y1 y2 hcell2 hj x3
    have hy : y = 0 ∨ y = 1 ∨ y = 2 ∨ y = 3 ∨ y = 4 ∨ y = 5 ∨ y = 6 ∨ y = 7 := by omega
    clear y0 y3
    rcases hy with rfl | rfl | rfl | rfl | rfl | rfl | rfl | rfl
    · go_wp2_with fail
      refine (l1From_any _ _ _ _ h4.cur (by decide) (by decide) (by decide)).mono ?_
      rintro e w7 ⟨kk, rfl, k0, k1, c7, g7⟩
      have h5 := h4.draw c7 g7
      have ix : I64 kk := ⟨by omega, by omega⟩
      clear h4 c7 g7 k0 k1
      have cc : w7.cell? ⟨b, 0, none⟩ = some (.int .i64 k) := h5.ev.at.1
      have zz := h5.ev.free 0
      have h6 := h5.setK kk
      clear cc
      obtain ⟨e0, e1, e2, e3, e4, e5, e6, e7⟩ := h5.ev.at
      obtain ⟨u0, u1, u2, u3, u4, u5, u6, u7⟩ := h5.res.at
      have hbr := h5.bl
      have v0 := h5.res.free 0
      have v1 := h5.res.free 1
      have v2 := h5.res.free 2
      have v3 := h5.res.free 3
      have v4 := h5.res.free 4
      have v5 := h5.res.free 5
      have v6 := h5.res.free 6
      have v7 := h5.res.free 7
      simp only at e0 e1 e2 e3 e4 e5 e6 e7 u0 u1 u2 u3 u4 u5 u6 u7
      have hfin := fun v0 v1 v2 v3 v4 v5 v6 v7 => h6.fin (put8 _ r v0 v1 v2 v3 v4 v5 v6 v7)
      clear h6 h5
      go_wp2_with fail
      refine bodyPost_ret (v := .agg #[.int .i64 kk, .int .i64 gr, .int .i64 o, .int .i64 wi, .int .i64 l, .int .i64 sz, .int .i64 f, .int .i64 t]) (by simp [results, Tryz.results91, go_sem, u0, u1, u2, u3, u4, u5, u6, u7]) rfl ⟨⟨kk, gr, o, wi, l, sz, f, t⟩, rfl, ?_, (hfin _ _ _ _ _ _ _ _).1, (hfin _ _ _ _ _ _ _ _).2⟩
      exact ⟨ix, i1, i2, i3, i4, i5, i6, i7⟩
    · have cc : w6.cell? ⟨b, 1, none⟩ = some (.int .i64 gr) := h4.ev.at.2.1
      have zz := h4.ev.free 1
      have h6 := h4.setG z
      clear cc
      obtain ⟨e0, e1, e2, e3, e4, e5, e6, e7⟩ := h4.ev.at
      obtain ⟨u0, u1, u2, u3, u4, u5, u6, u7⟩ := h4.res.at
      have hbr := h4.bl
      have v0 := h4.res.free 0
      have v1 := h4.res.free 1
      have v2 := h4.res.free 2
      have v3 := h4.res.free 3
      have v4 := h4.res.free 4
      have v5 := h4.res.free 5
      have v6 := h4.res.free 6
      have v7 := h4.res.free 7
      simp only at e0 e1 e2 e3 e4 e5 e6 e7 u0 u1 u2 u3 u4 u5 u6 u7
      have hfin := fun v0 v1 v2 v3 v4 v5 v6 v7 => h6.fin (put8 _ r v0 v1 v2 v3 v4 v5 v6 v7)
      clear h6 h4
      go_wp2_with fail
      refine bodyPost_ret (v := .agg #[.int .i64 k, .int .i64 z, .int .i64 o, .int .i64 wi, .int .i64 l, .int .i64 sz, .int .i64 f, .int .i64 t]) (by simp [results, Tryz.results91, go_sem, u0, u1, u2, u3, u4, u5, u6, u7]) rfl ⟨⟨k, z, o, wi, l, sz, f, t⟩, rfl, ?_, (hfin _ _ _ _ _ _ _ _).1, (hfin _ _ _ _ _ _ _ _).2⟩
      exact ⟨i0, ix, i2, i3, i4, i5, i6, i7⟩
    · have cc : w6.cell? ⟨b, 2, none⟩ = some (.int .i64 o) := h4.ev.at.2.2.1
      have zz := h4.ev.free 2
      have h6 := h4.setO z
      clear cc
      obtain ⟨e0, e1, e2, e3, e4, e5, e6, e7⟩ := h4.ev.at
      obtain ⟨u0, u1, u2, u3, u4, u5, u6, u7⟩ := h4.res.at
      have hbr := h4.bl
      have v0 := h4.res.free 0
      have v1 := h4.res.free 1
      have v2 := h4.res.free 2
      have v3 := h4.res.free 3
      have v4 := h4.res.free 4
      have v5 := h4.res.free 5
      have v6 := h4.res.free 6
      have v7 := h4.res.free 7
      simp only at e0 e1 e2 e3 e4 e5 e6 e7 u0 u1 u2 u3 u4 u5 u6 u7
      have hfin := fun v0 v1 v2 v3 v4 v5 v6 v7 => h6.fin (put8 _ r v0 v1 v2 v3 v4 v5 v6 v7)
      clear h6 h4
      go_wp2_with fail
      refine bodyPost_ret (v := .agg #[.int .i64 k, .int .i64 gr, .int .i64 z, .int .i64 wi, .int .i64 l, .int .i64 sz, .int .i64 f, .int .i64 t]) (by simp [results, Tryz.results91, go_sem, u0, u1, u2, u3, u4, u5, u6, u7]) rfl ⟨⟨k, gr, z, wi, l, sz, f, t⟩, rfl, ?_, (hfin _ _ _ _ _ _ _ _).1, (hfin _ _ _ _ _ _ _ _).2⟩
      exact ⟨i0, i1, ix, i3, i4, i5, i6, i7⟩
    · have cc : w6.cell? ⟨b, 3, none⟩ = some (.int .i64 wi) := h4.ev.at.2.2.2.1
      have zz := h4.ev.free 3
      have h6 := h4.setW z
      clear cc
      obtain ⟨e0, e1, e2, e3, e4, e5, e6, e7⟩ := h4.ev.at
      obtain ⟨u0, u1, u2, u3, u4, u5, u6, u7⟩ := h4.res.at
      have hbr := h4.bl
      have v0 := h4.res.free 0
      have v1 := h4.res.free 1
      have v2 := h4.res.free 2
      have v3 := h4.res.free 3
      have v4 := h4.res.free 4
      have v5 := h4.res.free 5
      have v6 := h4.res.free 6
      have v7 := h4.res.free 7
      simp only at e0 e1 e2 e3 e4 e5 e6 e7 u0 u1 u2 u3 u4 u5 u6 u7
      have hfin := fun v0 v1 v2 v3 v4 v5 v6 v7 => h6.fin (put8 _ r v0 v1 v2 v3 v4 v5 v6 v7)
      clear h6 h4
      go_wp2_with fail
      refine bodyPost_ret (v := .agg #[.int .i64 k, .int .i64 gr, .int .i64 o, .int .i64 z, .int .i64 l, .int .i64 sz, .int .i64 f, .int .i64 t]) (by simp [results, Tryz.results91, go_sem, u0, u1, u2, u3, u4, u5, u6, u7]) rfl ⟨⟨k, gr, o, z, l, sz, f, t⟩, rfl, ?_, (hfin _ _ _ _ _ _ _ _).1, (hfin _ _ _ _ _ _ _ _).2⟩
      exact ⟨i0, i1, i2, ix, i4, i5, i6, i7⟩
    · have cc : w6.cell? ⟨b, 4, none⟩ = some (.int .i64 l) := h4.ev.at.2.2.2.2.1
      have zz := h4.ev.free 4
      have h6 := h4.setL z
      clear cc
      obtain ⟨e0, e1, e2, e3, e4, e5, e6, e7⟩ := h4.ev.at
      obtain ⟨u0, u1, u2, u3, u4, u5, u6, u7⟩ := h4.res.at
      have hbr := h4.bl
      have v0 := h4.res.free 0
      have v1 := h4.res.free 1
      have v2 := h4.res.free 2
      have v3 := h4.res.free 3
      have v4 := h4.res.free 4
      have v5 := h4.res.free 5
      have v6 := h4.res.free 6
      have v7 := h4.res.free 7
      simp only at e0 e1 e2 e3 e4 e5 e6 e7 u0 u1 u2 u3 u4 u5 u6 u7
      have hfin := fun v0 v1 v2 v3 v4 v5 v6 v7 => h6.fin (put8 _ r v0 v1 v2 v3 v4 v5 v6 v7)
      clear h6 h4
      go_wp2_with fail
      refine bodyPost_ret (v := .agg #[.int .i64 k, .int .i64 gr, .int .i64 o, .int .i64 wi, .int .i64 z, .int .i64 sz, .int .i64 f, .int .i64 t]) (by simp [results, Tryz.results91, go_sem, u0, u1, u2, u3, u4, u5, u6, u7]) rfl ⟨⟨k, gr, o, wi, z, sz, f, t⟩, rfl, ?_, (hfin _ _ _ _ _ _ _ _).1, (hfin _ _ _ _ _ _ _ _).2⟩
      exact ⟨i0, i1, i2, i3, ix, i5, i6, i7⟩
    · have cc : w6.cell? ⟨b, 5, none⟩ = some (.int .i64 sz) := h4.ev.at.2.2.2.2.2.1
      have zz := h4.ev.free 5
      have h6 := h4.setS z
      clear cc
      obtain ⟨e0, e1, e2, e3, e4, e5, e6, e7⟩ := h4.ev.at
      obtain ⟨u0, u1, u2, u3, u4, u5, u6, u7⟩ := h4.res.at
      have hbr := h4.bl
      have v0 := h4.res.free 0
      have v1 := h4.res.free 1
      have v2 := h4.res.free 2
      have v3 := h4.res.free 3
      have v4 := h4.res.free 4
      have v5 := h4.res.free 5
      have v6 := h4.res.free 6
      have v7 := h4.res.free 7
      simp only at e0 e1 e2 e3 e4 e5 e6 e7 u0 u1 u2 u3 u4 u5 u6 u7
      have hfin := fun v0 v1 v2 v3 v4 v5 v6 v7 => h6.fin (put8 _ r v0 v1 v2 v3 v4 v5 v6 v7)
      clear h6 h4
      go_wp2_with fail
      refine bodyPost_ret (v := .agg #[.int .i64 k, .int .i64 gr, .int .i64 o, .int .i64 wi, .int .i64 l, .int .i64 z, .int .i64 f, .int .i64 t]) (by simp [results, Tryz.results91, go_sem, u0, u1, u2, u3, u4, u5, u6, u7]) rfl ⟨⟨k, gr, o, wi, l, z, f, t⟩, rfl, ?_, (hfin _ _ _ _ _ _ _ _).1, (hfin _ _ _ _ _ _ _ _).2⟩
      exact ⟨i0, i1, i2, i3, i4, ix, i6, i7⟩
    · have cc : w6.cell? ⟨b, 6, none⟩ = some (.int .i64 f) := h4.ev.at.2.2.2.2.2.2.1
      have zz := h4.ev.free 6
      have h6 := h4.setF z
      clear cc
      obtain ⟨e0, e1, e2, e3, e4, e5, e6, e7⟩ := h4.ev.at
      obtain ⟨u0, u1, u2, u3, u4, u5, u6, u7⟩ := h4.res.at
      have hbr := h4.bl
      have v0 := h4.res.free 0
      have v1 := h4.res.free 1
      have v2 := h4.res.free 2
      have v3 := h4.res.free 3
      have v4 := h4.res.free 4
      have v5 := h4.res.free 5
      have v6 := h4.res.free 6
      have v7 := h4.res.free 7
      simp only at e0 e1 e2 e3 e4 e5 e6 e7 u0 u1 u2 u3 u4 u5 u6 u7
      have hfin := fun v0 v1 v2 v3 v4 v5 v6 v7 => h6.fin (put8 _ r v0 v1 v2 v3 v4 v5 v6 v7)
      clear h6 h4
      go_wp2_with fail
      refine bodyPost_ret (v := .agg #[.int .i64 k, .int .i64 gr, .int .i64 o, .int .i64 wi, .int .i64 l, .int .i64 sz, .int .i64 z, .int .i64 t]) (by simp [results, Tryz.results91, go_sem, u0, u1, u2, u3, u4, u5, u6, u7]) rfl ⟨⟨k, gr, o, wi, l, sz, z, t⟩, rfl, ?_, (hfin _ _ _ _ _ _ _ _).1, (hfin _ _ _ _ _ _ _ _).2⟩
      exact ⟨i0, i1, i2, i3, i4, i5, ix, i7⟩
    · have cc : w6.cell? ⟨b, 7, none⟩ = some (.int .i64 t) := h4.ev.at.2.2.2.2.2.2.2
      have zz := h4.ev.free 7
      have h6 := h4.setT z
      clear cc
      obtain ⟨e0, e1, e2, e3, e4, e5, e6, e7⟩ := h4.ev.at
      obtain ⟨u0, u1, u2, u3, u4, u5, u6, u7⟩ := h4.res.at
      have hbr := h4.bl
      have v0 := h4.res.free 0
      have v1 := h4.res.free 1
      have v2 := h4.res.free 2
      have v3 := h4.res.free 3
      have v4 := h4.res.free 4
      have v5 := h4.res.free 5
      have v6 := h4.res.free 6
      have v7 := h4.res.free 7
      simp only at e0 e1 e2 e3 e4 e5 e6 e7 u0 u1 u2 u3 u4 u5 u6 u7
      have hfin := fun v0 v1 v2 v3 v4 v5 v6 v7 => h6.fin (put8 _ r v0 v1 v2 v3 v4 v5 v6 v7)
      clear h6 h4
      go_wp2_with fail
      refine bodyPost_ret (v := .agg #[.int .i64 k, .int .i64 gr, .int .i64 o, .int .i64 wi, .int .i64 l, .int .i64 sz, .int .i64 f, .int .i64 z]) (by simp [results, Tryz.results91, go_sem, u0, u1, u2, u3, u4, u5, u6, u7]) rfl ⟨⟨k, gr, o, wi, l, sz, f, z⟩, rfl, ?_, (hfin _ _ _ _ _ _ _ _).1, (hfin _ _ _ _ _ _ _ _).2⟩
      exact ⟨i0, i1, i2, i3, i4, i5, i6, ix⟩
end Go.Proofs.YtikjodbboljhjaaGreatDoor
