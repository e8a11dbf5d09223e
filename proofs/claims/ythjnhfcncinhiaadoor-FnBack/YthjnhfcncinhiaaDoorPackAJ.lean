/-
  The drawing of events that may be wrong in one field.
-/
import Derived.Test.YthjnhfcncinhiaaDoorPackAI
import Derived.Test.YthjnhfcncinhiaaDoorPackAB
import Derived.Laws.AppendOwnNone
import Derived.Test.YthjnhfcncinhiaaDoorPackAA
import Derived.Maps.AppendAt
import Derived.Test.YthjnhfcncinhiaaDoorPackAE
import Derived.Test.YthjnhfcncinhiaaDoorPackAD
namespace Go.Proofs.YthjnhfcncinhiaaDoor
open Go.RowKit

set_option maxHeartbeats 4000000 in
theorem l2DrawAny_any (g : Nat) (w : World) (hc : Cur w g) :
    Calls Tryd.prog 17 #[.pointer (some ⟨g, 0, none⟩)] w fun x w' => ∃ e : Ev, x = .returned (.agg #[.int .i64 e.k, .int .i64 e.g, .int .i64 e.o, .int .i64 e.w, .int .i64 e.l, .int .i64 e.s, .int .i64 e.f, .int .i64 e.t]) ∧ EvI e ∧ Cur w' g ∧ w.grownBy w' (some g) := by
  have hgl := hc.lt
  go_enter Tryd.func17, Tryd.ntmps17
  have hr0 := EvB.new w ⟨0, 0, 0, 0, 0, 0, 0, 0⟩
  go_wp2_with fail
  refine (l2Draw_any _ _ (hc.fr (Fr.alloc _ _))).mono ?_
  rintro e w1 ⟨⟨k, gr, o, wi, l, sz, f, t⟩, rfl, ⟨i0, i1, i2, i3, i4, i5, i6, i7⟩, c1, g1⟩
  simp only at i0 i1 i2 i3 i4 i5 i6 i7 ⊢
  have h : DS w g w.heap.size w1.heap.size ⟨k, gr, o, wi, l, sz, f, t⟩ (w1.alloc (.cells #[.int .i64 k, .int .i64 gr, .int .i64 o, .int .i64 wi, .int .i64 l, .int .i64 sz, .int .i64 f, .int .i64 t] 38)) := by
    have hlt := (hr0.keep g1 (by simp; omega)).lt
    exact ⟨c1.fr (Fr.alloc _ _), grown_then (grown_then (Fr.alloc w _).wide g1 (row_some (.inr rfl))) (Fr.alloc _ _) (by simp), EvB.new _ ⟨k, gr, o, wi, l, sz, f, t⟩, (hr0.keep g1 (by simp; omega)).keep (Fr.alloc _ _) (by simp), hgl, Nat.le_refl _, hlt⟩
  obtain ⟨r, hr⟩ : ∃ r, r = w.heap.size := ⟨_, rfl⟩
  simp only [← hr] at h ⊢
  clear hr hr0 c1 g1 hc hgl
  go_wp2_with fail
  refine (l1Once_any _ _ _ h.cur).mono ?_
  rintro e w3 ⟨once, rfl, c3, g3⟩
  have h0 := h.draw c3 g3
  clear h
  obtain ⟨b, hb⟩ : ∃ b, b = w1.heap.size := ⟨_, rfl⟩
  simp only [← hb] at h0 ⊢
  clear hb c3 g3 w1
  cases once
  · obtain ⟨e0, e1, e2, e3, e4, e5, e6, e7⟩ := h0.ev.at
    obtain ⟨u0, u1, u2, u3, u4, u5, u6, u7⟩ := h0.res.at
    have hbr := h0.bl
    have v0 := h0.res.free 0
    have v1 := h0.res.free 1
    have v2 := h0.res.free 2
    have v3 := h0.res.free 3
    have v4 := h0.res.free 4
    have v5 := h0.res.free 5
    have v6 := h0.res.free 6
    have v7 := h0.res.free 7
    simp only at e0 e1 e2 e3 e4 e5 e6 e7 u0 u1 u2 u3 u4 u5 u6 u7
    have hfin := fun v0 v1 v2 v3 v4 v5 v6 v7 => h0.fin (put8 _ r v0 v1 v2 v3 v4 v5 v6 v7)
    clear h0
    go_wp2_with fail
    refine bodyPost_ret (v := .agg #[.int .i64 k, .int .i64 gr, .int .i64 o, .int .i64 wi, .int .i64 l, .int .i64 sz, .int .i64 f, .int .i64 t]) (by simp [results, Tryd.results17, go_sem, u0, u1, u2, u3, u4, u5, u6, u7]) rfl ⟨⟨k, gr, o, wi, l, sz, f, t⟩, rfl, ?_, (hfin _ _ _ _ _ _ _ _).1, (hfin _ _ _ _ _ _ _ _).2⟩
    exact ⟨i0, i1, i2, i3, i4, i5, i6, i7⟩
  · go_wp2_with fail
    refine (l1Odd_any _ _ h0.cur).mono ?_
    rintro e w4 ⟨od, rfl, hod, c4, g4⟩
    have h1 := h0.draw c4 g4
    clear h0 c4 g4
    have h2 := h1.fr (Fr.alloc w4 (.cells #[.int .i64 (-1), .int .i64 0, .int .i64 1, .int .i64 8, .int .i64 9, .int .i64 15, .int .i64 16, .int .i64 64, .int .i64 65, .int .i64 65535, .int .i64 65536, .int .i64 999, .int .i64 1000, .int .i64 od] 2))
    have hgl := h1.cur.lt
    clear h1
    go_wp2_with fail
    refine (l1Below_any _ _ _ h2.cur).mono ?_
    rintro e w5 ⟨x, rfl, x0, x1, x2, c5, g5⟩
    have x3 : x < 14 := x1 (by omega)
    clear x1 x2
    obtain ⟨j, rfl⟩ := Int.eq_ofNat_of_zero_le x0
    obtain ⟨z, ix, hcell⟩ := lit_cell (w := w4) (t := 2) [-1, 0, 1, 8, 9, 15, 16, 64, 65, 65535, 65536, 999, 1000, od] (by intro z hz; simp at hz; rcases hz with rfl | rfl | rfl | rfl | rfl | rfl | rfl | rfl | rfl | rfl | rfl | rfl | rfl | rfl <;> first | exact hod | exact ⟨by decide, by decide⟩) j (by simp; omega)
    have hcell2 := g5.cell hcell (by simp; omega)
    have hj : j < 14 := by omega
    have h3 := h2.draw c5 g5
    clear hcell h2 c5 g5 hgl hod x0
    go_wp2_with fail
    refine (l1Below_any _ _ _ h3.cur).mono ?_
    rintro e w6 ⟨y, rfl, y0, y1, y2, c6, g6⟩
    have y3 : y < 8 := y1 (by omega)
    have h4 := h3.draw c6 g6
    clear h3 c6 g6 y1 y2 hcell2 hj x3
    have hy : y = 0 ∨ y = 1 ∨ y = 2 ∨ y = 3 ∨ y = 4 ∨ y = 5 ∨ y = 6 ∨ y = 7 := by omega
    clear y0 y3
    rcases hy with rfl | rfl | rfl | rfl | rfl | rfl | rfl | rfl
    · go_wp2_with fail
      refine (l1From_any _ _ _ _ h4.cur (by decide) (by decide) (by decide)).mono ?_
      rintro e w7 ⟨kk, rfl, k0, k1, c7, g7⟩
      have h5 := h4.draw c7 g7
      have ix : I64 kk := ⟨by omega, by omega⟩
      clear h4 c7 g7 k0 k1
      have cc : w7.cell? ⟨b, 0, none⟩ = some (.int .i64 k) := h5.ev.at.1
      have zz := h5.ev.free 0
      have h6 := h5.setK kk
      clear cc
      obtain ⟨e0, e1, e2, e3, e4, e5, e6, e7⟩ := h5.ev.at
      obtain ⟨u0, u1, u2, u3, u4, u5, u6, u7⟩ := h5.res.at
      have hbr := h5.bl
      have v0 := h5.res.free 0
      have v1 := h5.res.free 1
      have v2 := h5.res.free 2
      have v3 := h5.res.free 3
      have v4 := h5.res.free 4
      have v5 := h5.res.free 5
      have v6 := h5.res.free 6
      have v7 := h5.res.free 7
      simp only at e0 e1 e2 e3 e4 e5 e6 e7 u0 u1 u2 u3 u4 u5 u6 u7
      have hfin := fun v0 v1 v2 v3 v4 v5 v6 v7 => h6.fin (put8 _ r v0 v1 v2 v3 v4 v5 v6 v7)
      clear h6 h5
      go_wp2_with fail
      refine bodyPost_ret (v := .agg #[.int .i64 kk, .int .i64 gr, .int .i64 o, .int .i64 wi, .int .i64 l, .int .i64 sz, .int .i64 f, .int .i64 t]) (by simp [results, Tryd.results17, go_sem, u0, u1, u2, u3, u4, u5, u6, u7]) rfl ⟨⟨kk, gr, o, wi, l, sz, f, t⟩, rfl, ?_, (hfin _ _ _ _ _ _ _ _).1, (hfin _ _ _ _ _ _ _ _).2⟩
      exact ⟨ix, i1, i2, i3, i4, i5, i6, i7⟩
    · have cc : w6.cell? ⟨b, 1, none⟩ = some (.int .i64 gr) := h4.ev.at.2.1
      have zz := h4.ev.free 1
      have h6 := h4.setG z
      clear cc
      obtain ⟨e0, e1, e2, e3, e4, e5, e6, e7⟩ := h4.ev.at
      obtain ⟨u0, u1, u2, u3, u4, u5, u6, u7⟩ := h4.res.at
      have hbr := h4.bl
      have v0 := h4.res.free 0
      have v1 := h4.res.free 1
      have v2 := h4.res.free 2
      have v3 := h4.res.free 3
      have v4 := h4.res.free 4
      have v5 := h4.res.free 5
      have v6 := h4.res.free 6
      have v7 := h4.res.free 7
      simp only at e0 e1 e2 e3 e4 e5 e6 e7 u0 u1 u2 u3 u4 u5 u6 u7
      have hfin := fun v0 v1 v2 v3 v4 v5 v6 v7 => h6.fin (put8 _ r v0 v1 v2 v3 v4 v5 v6 v7)
      clear h6 h4
      go_wp2_with fail
      refine bodyPost_ret (v := .agg #[.int .i64 k, .int .i64 z, .int .i64 o, .int .i64 wi, .int .i64 l, .int .i64 sz, .int .i64 f, .int .i64 t]) (by simp [results, Tryd.results17, go_sem, u0, u1, u2, u3, u4, u5, u6, u7]) rfl ⟨⟨k, z, o, wi, l, sz, f, t⟩, rfl, ?_, (hfin _ _ _ _ _ _ _ _).1, (hfin _ _ _ _ _ _ _ _).2⟩
      exact ⟨i0, ix, i2, i3, i4, i5, i6, i7⟩
    · have cc : w6.cell? ⟨b, 2, none⟩ = some (.int .i64 o) := h4.ev.at.2.2.1
      have zz := h4.ev.free 2
      have h6 := h4.setO z
      clear cc
      obtain ⟨e0, e1, e2, e3, e4, e5, e6, e7⟩ := h4.ev.at
      obtain ⟨u0, u1, u2, u3, u4, u5, u6, u7⟩ := h4.res.at
      have hbr := h4.bl
      have v0 := h4.res.free 0
      have v1 := h4.res.free 1
      have v2 := h4.res.free 2
      have v3 := h4.res.free 3
      have v4 := h4.res.free 4
      have v5 := h4.res.free 5
      have v6 := h4.res.free 6
      have v7 := h4.res.free 7
      simp only at e0 e1 e2 e3 e4 e5 e6 e7 u0 u1 u2 u3 u4 u5 u6 u7
      have hfin := fun v0 v1 v2 v3 v4 v5 v6 v7 => h6.fin (put8 _ r v0 v1 v2 v3 v4 v5 v6 v7)
      clear h6 h4
      go_wp2_with fail
      refine bodyPost_ret (v := .agg #[.int .i64 k, .int .i64 gr, .int .i64 z, .int .i64 wi, .int .i64 l, .int .i64 sz, .int .i64 f, .int .i64 t]) (by simp [results, Tryd.results17, go_sem, u0, u1, u2, u3, u4, u5, u6, u7]) rfl ⟨⟨k, gr, z, wi, l, sz, f, t⟩, rfl, ?_, (hfin _ _ _ _ _ _ _ _).1, (hfin _ _ _ _ _ _ _ _).2⟩
      exact ⟨i0, i1, ix, i3, i4, i5, i6, i7⟩
    · have cc : w6.cell? ⟨b, 3, none⟩ = some (.int .i64 wi) := h4.ev.at.2.2.2.1
      have zz := h4.ev.free 3
      have h6 := h4.setW z
      clear cc
      obtain ⟨e0, e1, e2, e3, e4, e5, e6, e7⟩ := h4.ev.at
      obtain ⟨u0, u1, u2, u3, u4, u5, u6, u7⟩ := h4.res.at
      have hbr := h4.bl
      have v0 := h4.res.free 0
      have v1 := h4.res.free 1
      have v2 := h4.res.free 2
      have v3 := h4.res.free 3
      have v4 := h4.res.free 4
      have v5 := h4.res.free 5
      have v6 := h4.res.free 6
      have v7 := h4.res.free 7
      simp only at e0 e1 e2 e3 e4 e5 e6 e7 u0 u1 u2 u3 u4 u5 u6 u7
      have hfin := fun v0 v1 v2 v3 v4 v5 v6 v7 => h6.fin (put8 _ r v0 v1 v2 v3 v4 v5 v6 v7)
      clear h6 h4
      go_wp2_with fail
      refine bodyPost_ret (v := .agg #[.int .i64 k, .int .i64 gr, .int .i64 o, .int .i64 z, .int .i64 l, .int .i64 sz, .int .i64 f, .int .i64 t]) (by simp [results, Tryd.results17, go_sem, u0, u1, u2, u3, u4, u5, u6, u7]) rfl ⟨⟨k, gr, o, z, l, sz, f, t⟩, rfl, ?_, (hfin _ _ _ _ _ _ _ _).1, (hfin _ _ _ _ _ _ _ _).2⟩
      exact ⟨i0, i1, i2, ix, i4, i5, i6, i7⟩
    · have cc : w6.cell? ⟨b, 4, none⟩ = some (.int .i64 l) := h4.ev.at.2.2.2.2.1
      have zz := h4.ev.free 4
      have h6 := h4.setL z
      clear cc
      obtain ⟨e0, e1, e2, e3, e4, e5, e6, e7⟩ := h4.ev.at
      obtain ⟨u0, u1, u2, u3, u4, u5, u6, u7⟩ := h4.res.at
      have hbr := h4.bl
      have v0 := h4.res.free 0
      have v1 := h4.res.free 1
      have v2 := h4.res.free 2
      have v3 := h4.res.free 3
      have v4 := h4.res.free 4
      have v5 := h4.res.free 5
      have v6 := h4.res.free 6
      have v7 := h4.res.free 7
      simp only at e0 e1 e2 e3 e4 e5 e6 e7 u0 u1 u2 u3 u4 u5 u6 u7
      have hfin := fun v0 v1 v2 v3 v4 v5 v6 v7 => h6.fin (put8 _ r v0 v1 v2 v3 v4 v5 v6 v7)
      clear h6 h4
      go_wp2_with fail
      refine bodyPost_ret (v := .agg #[.int .i64 k, .int .i64 gr, .int .i64 o, .int .i64 wi, .int .i64 z, .int .i64 sz, .int .i64 f, .int .i64 t]) (by simp [results, Tryd.results17, go_sem, u0, u1, u2, u3, u4, u5, u6, u7]) rfl ⟨⟨k, gr, o, wi, z, sz, f, t⟩, rfl, ?_, (hfin _ _ _ _ _ _ _ _).1, (hfin _ _ _ _ _ _ _ _).2⟩
      exact ⟨i0, i1, i2, i3, ix, i5, i6, i7⟩
    · have cc : w6.cell? ⟨b, 5, none⟩ = some (.int .i64 sz) := h4.ev.at.2.2.2.2.2.1
      have zz := h4.ev.free 5
      have h6 := h4.setS z
      clear cc
      obtain ⟨e0, e1, e2, e3, e4, e5, e6, e7⟩ := h4.ev.at
      obtain ⟨u0, u1, u2, u3, u4, u5, u6, u7⟩ := h4.res.at
      have hbr := h4.bl
      have v0 := h4.res.free 0
      have v1 := h4.res.free 1
      have v2 := h4.res.free 2
      have v3 := h4.res.free 3
      have v4 := h4.res.free 4
      have v5 := h4.res.free 5
      have v6 := h4.res.free 6
      have v7 := h4.res.free 7
      simp only at e0 e1 e2 e3 e4 e5 e6 e7 u0 u1 u2 u3 u4 u5 u6 u7
      have hfin := fun v0 v1 v2 v3 v4 v5 v6 v7 => h6.fin (put8 _ r v0 v1 v2 v3 v4 v5 v6 v7)
      clear h6 h4
      go_wp2_with fail
      refine bodyPost_ret (v := .agg #[.int .i64 k, .int .i64 gr, .int .i64 o, .int .i64 wi, .int .i64 l, .int .i64 z, .int .i64 f, .int .i64 t]) (by simp [results, Tryd.results17, go_sem, u0, u1, u2, u3, u4, u5, u6, u7]) rfl ⟨⟨k, gr, o, wi, l, z, f, t⟩, rfl, ?_, (hfin _ _ _ _ _ _ _ _).1, (hfin _ _ _ _ _ _ _ _).2⟩
      exact ⟨i0, i1, i2, i3, i4, ix, i6, i7⟩
    · have cc : w6.cell? ⟨b, 6, none⟩ = some (.int .i64 f) := h4.ev.at.2.2.2.2.2.2.1
      have zz := h4.ev.free 6
      have h6 := h4.setF z
      clear cc
      obtain ⟨e0, e1, e2, e3, e4, e5, e6, e7⟩ := h4.ev.at
      obtain ⟨u0, u1, u2, u3, u4, u5, u6, u7⟩ := h4.res.at
      have hbr := h4.bl
      have v0 := h4.res.free 0
      have v1 := h4.res.free 1
      have v2 := h4.res.free 2
      have v3 := h4.res.free 3
      have v4 := h4.res.free 4
      have v5 := h4.res.free 5
      have v6 := h4.res.free 6
      have v7 := h4.res.free 7
      simp only at e0 e1 e2 e3 e4 e5 e6 e7 u0 u1 u2 u3 u4 u5 u6 u7
      have hfin := fun v0 v1 v2 v3 v4 v5 v6 v7 => h6.fin (put8 _ r v0 v1 v2 v3 v4 v5 v6 v7)
      clear h6 h4
      go_wp2_with fail
      refine bodyPost_ret (v := .agg #[.int .i64 k, .int .i64 gr, .int .i64 o, .int .i64 wi, .int .i64 l, .int .i64 sz, .int .i64 z, .int .i64 t]) (by simp [results, Tryd.results17, go_sem, u0, u1, u2, u3, u4, u5, u6, u7]) rfl ⟨⟨k, gr, o, wi, l, sz, z, t⟩, rfl, ?_, (hfin _ _ _ _ _ _ _ _).1, (hfin _ _ _ _ _ _ _ _).2⟩
      exact ⟨i0, i1, i2, i3, i4, i5, ix, i7⟩
    · have cc : w6.cell? ⟨b, 7, none⟩ = some (.int .i64 t) := h4.ev.at.2.2.2.2.2.2.2
      have zz := h4.ev.free 7
      have h6 := h4.setT z
      clear cc
      obtain ⟨e0, e1, e2, e3, e4, e5, e6, e7⟩ := h4.ev.at
      obtain ⟨u0, u1, u2, u3, u4, u5, u6, u7⟩ := h4.res.at
      have hbr := h4.bl
      have v0 := h4.res.free 0
      have v1 := h4.res.free 1
      have v2 := h4.res.free 2
      have v3 := h4.res.free 3
      have v4 := h4.res.free 4
      have v5 := h4.res.free 5
      have v6 := h4.res.free 6
      have v7 := h4.res.free 7
      simp only at e0 e1 e2 e3 e4 e5 e6 e7 u0 u1 u2 u3 u4 u5 u6 u7
      have hfin := fun v0 v1 v2 v3 v4 v5 v6 v7 => h6.fin (put8 _ r v0 v1 v2 v3 v4 v5 v6 v7)
      clear h6 h4
      go_wp2_with fail
      refine bodyPost_ret (v := .agg #[.int .i64 k, .int .i64 gr, .int .i64 o, .int .i64 wi, .int .i64 l, .int .i64 sz, .int .i64 f, .int .i64 z]) (by simp [results, Tryd.results17, go_sem, u0, u1, u2, u3, u4, u5, u6, u7]) rfl ⟨⟨k, gr, o, wi, l, sz, f, z⟩, rfl, ?_, (hfin _ _ _ _ _ _ _ _).1, (hfin _ _ _ _ _ _ _ _).2⟩
      exact ⟨i0, i1, i2, i3, i4, i5, i6, ix⟩
end Go.Proofs.YthjnhfcncinhiaaDoor
/-
  Slices of events in memory: reading one, owning one.
-/
namespace Go.Proofs.YthjnhfcncinhiaaDoor
open Go.RowKit

/-- An event's eight cells. -/
def evCells (e : Ev) : List Value := [.int .i64 e.k, .int .i64 e.g, .int .i64 e.o, .int .i64 e.w, .int .i64 e.l, .int .i64 e.s, .int .i64 e.f, .int .i64 e.t]

/-- An event lies at the place o of the block b. -/
structure EvC (w : World) (b o : Nat) (e : Ev) : Prop where
  c0 : w.cell? ⟨b, o, none⟩ = some (.int .i64 e.k)
  c1 : w.cell? ⟨b, o + 1, none⟩ = some (.int .i64 e.g)
  c2 : w.cell? ⟨b, o + 2, none⟩ = some (.int .i64 e.o)
  c3 : w.cell? ⟨b, o + 3, none⟩ = some (.int .i64 e.w)
  c4 : w.cell? ⟨b, o + 4, none⟩ = some (.int .i64 e.l)
  c5 : w.cell? ⟨b, o + 5, none⟩ = some (.int .i64 e.s)
  c6 : w.cell? ⟨b, o + 6, none⟩ = some (.int .i64 e.f)
  c7 : w.cell? ⟨b, o + 7, none⟩ = some (.int .i64 e.t)

theorem EvC.of {w : World} {b o : Nat} {e : Ev} (h : ∀ k, k < 8 → w.cell? ⟨b, o + k, none⟩ = (evCells e)[k]?) : EvC w b o e :=
  ⟨h 0 (by omega), h 1 (by omega), h 2 (by omega), h 3 (by omega), h 4 (by omega), h 5 (by omega), h 6 (by omega), h 7 (by omega)⟩
theorem EvC.keep {w w' : World} {b o : Nat} {e : Ev} {row : Option Nat} (h : EvC w b o e) (k : w.grownBy w' row) (hr : some b ≠ row) : EvC w' b o e :=
  ⟨k.cell h.c0 hr, k.cell h.c1 hr, k.cell h.c2 hr, k.cell h.c3 hr, k.cell h.c4 hr, k.cell h.c5 hr, k.cell h.c6 hr, k.cell h.c7 hr⟩

/-- A slice at the address ao reads as the events es. -/
structure ReadsE (w : World) (ao : Option Addr) (es : List Ev) : Prop where
  len : es.length ≤ 16777216
  at_ : ∀ i, i < es.length → ∃ b off, ao = some ⟨b, off, none⟩ ∧ ∀ j (hj : j < es.length), EvC w b (off + j * 8) es[j]

theorem ReadsE.nil (w : World) (ao : Option Addr) : ReadsE w ao [] := ⟨by simp, by simp⟩
theorem ReadsE.keep {w w' : World} {ao : Option Addr} {es : List Ev} {row : Option Nat} (h : ReadsE w ao es) (k : w.grownBy w' row) (hne : row = none ∨ blk ao ≠ row) : ReadsE w' ao es := by
  refine ⟨h.len, fun i hi => ?_⟩
  obtain ⟨b, off, e, hc⟩ := h.at_ i hi
  refine ⟨b, off, e, fun j hj => (hc j hj).keep k ?_⟩
  rcases hne with rfl | hne
  · simp
  · intro hh
    apply hne
    rw [e, ← hh]
    rfl
theorem ReadsE.fr {w w' : World} {ao : Option Addr} {es : List Ev} (h : ReadsE w ao es) (k : Fr w w') : ReadsE w' ao es := h.keep k (.inl rfl)

theorem cells_len (es : List Ev) : (es.flatMap evCells).length = es.length * 8 := by
  induction es with
  | nil => rfl
  | cons e es ih => rw [List.flatMap_cons, List.length_append, ih]; simp [evCells]; omega
theorem cells_at (es : List Ev) (j k : Nat) (hj : j < es.length) (hk : k < 8) : (es.flatMap evCells)[j * 8 + k]? = (evCells es[j])[k]? := by
  induction es generalizing j with
  | nil => simp at hj
  | cons e es ih =>
    have h8 : (evCells e).length = 8 := rfl
    cases j with
    | zero => rw [List.flatMap_cons, Nat.zero_mul, Nat.zero_add, List.getElem?_append_left (by omega)]; rfl
    | succ j =>
      rw [List.flatMap_cons, List.getElem?_append_right (by omega), h8, show (j + 1) * 8 + k - 8 = j * 8 + k by omega, ih j (by simpa using hj)]
      rfl

/-- The slice of the events es that a call owns: it begins at the head of a block from base on. -/
def OwnE (w : World) (base : Nat) (v : Value) (es : List Ev) : Prop :=
  ∃ g cap, v = .slice (some ⟨g, 0, none⟩) es.length cap ∧ w.ownsRow base 38 8 (.slice (some ⟨g, 0, none⟩) es.length cap) es.length (es.flatMap evCells) ∧ es.length ≤ 16777216

theorem own_readsE {w : World} {base g cap : Nat} {es : List Ev} (h : w.ownsRow base 38 8 (.slice (some ⟨g, 0, none⟩) es.length cap) es.length (es.flatMap evCells)) (hl : es.length ≤ 16777216) : ReadsE w (some ⟨g, 0, none⟩) es := by
  refine ⟨hl, fun i hi => ⟨g, 0, rfl, fun j hj => EvC.of fun k hk => ?_⟩⟩
  have := h.cellAt (j * 8 + k) (by omega)
  rw [Nat.zero_add, this, cells_at es j k hj hk]
theorem OwnE.keep {w w' : World} {base : Nat} {v : Value} {es : List Ev} {row : Option Nat} (h : OwnE w base v es) (k : w.grownBy w' row) (hne : v.ownBlock ≠ row) : OwnE w' base v es := by
  obtain ⟨g, cap, rfl, ho, hl⟩ := h
  exact ⟨g, cap, rfl, ho.kept k (.inr hne), hl⟩
theorem OwnE.fr {w w' : World} {base : Nat} {v : Value} {es : List Ev} (h : OwnE w base v es) (k : Fr w w') : OwnE w' base v es := by
  obtain ⟨g, cap, rfl, ho, hl⟩ := h
  exact ⟨g, cap, rfl, ho.kept k (by simp [Value.ownBlock]), hl⟩
theorem OwnE.blk {w : World} {base : Nat} {v : Value} {es : List Ev} (h : OwnE w base v es) : ∀ j, v.ownBlock = some j → base ≤ j := by
  obtain ⟨g, cap, rfl, ho, hl⟩ := h
  intro j hj
  exact (ho.lt j hj).1
theorem OwnE.lower {w : World} {base base' : Nat} {v : Value} {es : List Ev} (h : OwnE w base v es) (hb : base' ≤ base) : OwnE w base' v es := by
  obtain ⟨g, cap, rfl, ho, hl⟩ := h
  refine ⟨g, cap, rfl, ⟨ho.1, ?_⟩, hl⟩
  rcases ho.2 with e | ⟨g, cap, cur, e, hg, r⟩
  · exact .inl e
  · exact .inr ⟨g, cap, cur, e, by omega, r⟩

/-- The specification's test of a whole list. -/
def okL (es : List Ev) : Bool := es.all evOk
theorem okL_take (es : List Ev) (k : Nat) (hk : k < es.length) (h : okL (es.take k) = true) (h2 : evOk es[k] = true) : okL (es.take (k + 1)) = true := by
  rw [okL, List.take_succ_eq_append_getElem hk, List.all_append]
  simp only [okL] at h
  rw [h]
  simp [h2]
theorem okL_not (es : List Ev) (k : Nat) (hk : k < es.length) (h2 : evOk es[k] = false) : okL es = false := by
  rw [okL, List.all_eq_false]
  exact ⟨es[k], List.getElem_mem hk, by simp [h2]⟩
end Go.Proofs.YthjnhfcncinhiaaDoor
/-
  'append' on a slice of int64 that the call owns.
-/
namespace Go.Proofs.YthjnhfcncinhiaaDoor
open Go.RowKit

/-- A slice that a call owns, not nil: it begins at the head of a block from base on. -/
def OwnBS (w : World) (base : Nat) (v : Value) (xs : List Int) : Prop :=
  ∃ g cap, v = .slice (some ⟨g, 0, none⟩) xs.length cap ∧ OwnB w base (.slice (some ⟨g, 0, none⟩) xs.length cap) xs

theorem OwnB.keep {w w' : World} {base : Nat} {v : Value} {xs : List Int} {row : Option Nat} (h : OwnB w base v xs) (k : w.grownBy w' row) (hne : v.ownBlock = none ∨ v.ownBlock ≠ row) : OwnB w' base v xs :=
  ⟨h.1.kept k hne, h.2⟩
theorem OwnB.fr {w w' : World} {base : Nat} {v : Value} {xs : List Int} (h : OwnB w base v xs) (k : Fr w w') : OwnB w' base v xs :=
  h.keep k (by cases v.ownBlock <;> simp)
theorem OwnBS.keep {w w' : World} {base : Nat} {v : Value} {xs : List Int} {row : Option Nat} (h : OwnBS w base v xs) (k : w.grownBy w' row) (hne : v.ownBlock ≠ row) : OwnBS w' base v xs := by
  obtain ⟨g, cap, rfl, ho⟩ := h
  exact ⟨g, cap, rfl, ho.keep k (.inr hne)⟩
theorem OwnBS.fr {w w' : World} {base : Nat} {v : Value} {xs : List Int} (h : OwnBS w base v xs) (k : Fr w w') : OwnBS w' base v xs := by
  obtain ⟨g, cap, rfl, ho⟩ := h
  exact ⟨g, cap, rfl, ho.fr k⟩
theorem OwnB.lower {w : World} {base base' : Nat} {v : Value} {xs : List Int} (h : OwnB w base v xs) (hb : base' ≤ base) : OwnB w base' v xs := by
  refine ⟨⟨h.1.1, ?_⟩, h.2⟩
  rcases h.1.2 with e | ⟨g, cap, cur, e, hg, r⟩
  · exact .inl e
  · exact .inr ⟨g, cap, cur, e, by omega, r⟩
theorem OwnBS.lower {w : World} {base base' : Nat} {v : Value} {xs : List Int} (h : OwnBS w base v xs) (hb : base' ≤ base) : OwnBS w base' v xs := by
  obtain ⟨g, cap, rfl, ho⟩ := h
  exact ⟨g, cap, rfl, ho.lower hb⟩
theorem OwnBS.blk {w : World} {base : Nat} {v : Value} {xs : List Int} (h : OwnBS w base v xs) : ∀ j, v.ownBlock = some j → base ≤ j := by
  obtain ⟨g, cap, rfl, ho⟩ := h
  intro j hj
  exact (ho.1.lt j hj).1
theorem OwnBS.len {w : World} {base : Nat} {v : Value} {xs : List Int} (h : OwnBS w base v xs) : xs.length ≤ 4294967296 := by
  obtain ⟨g, cap, rfl, ho⟩ := h
  exact ho.2.1

/-- '[]int64{}' -/
theorem ownB_empty (w : World) (base : Nat) (hb : base ≤ w.heap.size) : OwnBS (w.alloc (.cells #[] 5)) base (.slice (some ⟨w.heap.size, 0, none⟩) 0 0) [] :=
  ⟨w.heap.size, 0, rfl, World.ownsRow_made w #[] 0 hb (by unfold maxLen; omega) rfl, by simp, by simp⟩

/-- The one new element of 'append(l, x)' lies in a block of its own. -/
theorem readsB_one (w : World) (x : Int) (h : U8 x) : ReadsB (w.alloc (.cells #[.int .u8 x] 5)) (some ⟨w.heap.size, 0, none⟩) [x] := by
  refine ⟨by simp, by simpa using h, fun i _ => ⟨w.heap.size, 0, rfl, fun j hj => ?_⟩⟩
  have : j = 0 := by simpa using hj
  subst this
  rw [cell_of_row _ _ _ _ _ _ (heap_alloc_new w _)]
  rfl

theorem shapeB_of {w : World} {base : Nat} {v : Value} {xs : List Int} (h : w.ownsRow base 5 1 v xs.length (xs.map (Value.int .u8))) (hn : v ≠ .slice none 0 0) (hl : xs.length ≤ 4294967296) (hb : ∀ x ∈ xs, U8 x) : OwnBS w base v xs := by
  rcases h.2 with ⟨e, _⟩ | ⟨g, cap, cur, e, r⟩
  · exact absurd e hn
  · subst e; exact ⟨g, cap, rfl, h, hl, hb⟩

theorem appB (w : World) {ops : Array Oper} {rest : List Oper} {o : Oper} {a : Act} {Q : Exit → Act → World → Prop} (hgd : o.guard = none) (s x : Operand)
    (ho : o.op = .call { callee := .builtin .append, args := #[s, x], argTypes := #[22, 22] })
    (base : Nat) (v : Value) (xs news : List Int) (hs : a.eval s = v) (hown : OwnBS w base v xs)
    (ao : Option Addr) (m c : Nat) (hx : a.eval x = .slice ao m c) (hm : news.length = m) (hc : ao = none → c = 0) (hnews : ReadsB w ao news)
    (hlen : xs.length + news.length ≤ 4294967296) (hbase : base ≤ w.heap.size)
    (h : ∀ v' w', OwnBS w' base v' (xs ++ news) → w.grownBy w' v.ownBlock → wpList Tryd.prog ops Q rest (a.put o.dst v') w') : wpList Tryd.prog ops Q (o :: rest) a w := by
  obtain ⟨i0, hi, hz0, hz1, hz2⟩ := info_parts Tryd.info5
  subst hm
  have hbd : ∀ x ∈ xs ++ news, U8 x := by
    obtain ⟨g, cap, rfl, ho⟩ := hown
    intro x hx
    rcases List.mem_append.1 hx with hx | hx
    · exact ho.2.2 x hx
    · exact hnews.bd x hx
  cases ao with
  | none =>
    have hnil : news = [] := by
      cases news with
      | nil => rfl
      | cons y ys => obtain ⟨b, off, e, _⟩ := hnews.at_ 0 (by simp); cases e
    subst hnil
    have := hc rfl
    subst this
    obtain ⟨g, cap, rfl, ho'⟩ := hown
    refine wpList_append_own_none hgd s x 22 ho base 5 i0 1 Tryd.underlying22 hi _ _ _ hs ho'.1 hx ?_
    refine h _ w ?_ ⟨rfl, rfl, rfl, Nat.le_refl _, fun _ _ _ => rfl⟩
    rw [List.append_nil]
    exact ⟨g, cap, rfl, ho'⟩
  | some ad =>
    have hcell : ∀ j u, (news.map (Value.int .u8))[j]? = some u → w.cell? (ad.add j) = some u := by
      intro j u hu
      have hj : j < news.length := by
        have := (List.getElem?_eq_some_iff.1 hu).1
        simpa using this
      obtain ⟨b, off, e, hcc⟩ := hnews.at_ j hj
      simp only [Option.some.injEq] at e
      subst e
      rw [Addr.add_lit, hcc j hj]
      rw [List.getElem?_map, List.getElem?_eq_getElem hj] at hu
      rw [getD_at hj]
      simpa using hu
    obtain ⟨g, cap, rfl, ho'⟩ := hown
    refine wpList_append_own w hgd s x 22 ho base 5 i0 (.int .u8 0) 1 1 Tryd.underlying22 hi hz0 hz1 hz2 rfl (by decide) _ _ _ hs ho'.1 ad news.length c (news.map (Value.int .u8)) hx (by simp) hcell (ints_oneCell _ _) (by unfold maxLen; omega) (by omega) hbase ?_
    intro v' w' hv hg hnz
    refine h v' w' (shapeB_of ?_ ?_ (by simp; omega) hbd) hg
    · simpa using hv
    · intro e
      have := (hnz.1 e).1
      simp at this

/-- Where the block of an owned slice lies. -/
theorem ownB_lt {w : World} {base g n cap : Nat} {xs : List Int} (h : OwnB w base (.slice (some ⟨g, 0, none⟩) n cap) xs) : base ≤ g ∧ g < w.heap.size := h.1.lt g rfl
theorem own_neB {g g' n cap : Nat} (h : g ≠ g') : (Value.slice (some ⟨g, 0, none⟩) n cap).ownBlock = none ∨ (Value.slice (some ⟨g, 0, none⟩) n cap).ownBlock ≠ some g' := .inr (by simpa [Value.ownBlock] using h)
theorem one_blkB {a g : Nat} (h : a ≤ g) : ∀ j, some g = some j → a ≤ j := by
  intro j hj
  simp only [Option.some.injEq] at hj
  omega
end Go.Proofs.YthjnhfcncinhiaaDoor
/-
  PutNumber, of the program and of its specification: what is put, in new memory.
-/
namespace Go.Proofs.YthjnhfcncinhiaaDoor
open Go.RowKit

/-- A block of bytes. -/
def isB (w : World) (b : Nat) : Prop := ∃ cur fz, w.heap[b]? = some (.cells cur 5 fz)
/-- What lies below base, and what is no block of bytes, stays. -/
structure FrB (base : Nat) (w w' : World) : Prop where
  os : w'.os = w.os
  tape : w'.tape = w.tape
  output : w'.output = w.output
  size : w.heap.size ≤ w'.heap.size
  block : ∀ b, b < w.heap.size → (b < base ∨ ¬ isB w b) → w'.heap[b]? = w.heap[b]?

theorem FrB.refl (base : Nat) (w : World) : FrB base w w := ⟨rfl, rfl, rfl, Nat.le_refl _, fun _ _ _ => rfl⟩
theorem Fr.toB {w w' : World} (base : Nat) (h : Fr w w') : FrB base w w' := ⟨h.os, h.tape, h.output, h.size, fun b hb _ => h.block b hb (by simp)⟩
theorem FrB.trans {base : Nat} {a b c : World} (h : FrB base a b) (k : FrB base b c) : FrB base a c := by
  refine ⟨k.os.trans h.os, k.tape.trans h.tape, k.output.trans h.output, Nat.le_trans h.size k.size, fun i hi hb => ?_⟩
  have h1 := h.block i hi hb
  rw [← h1]
  refine k.block i (Nat.lt_of_lt_of_le hi h.size) (hb.imp id fun hn => ?_)
  rintro ⟨cur, fz, e⟩
  exact hn ⟨cur, fz, by rw [← h1]; exact e⟩
theorem FrB.lower {base base' : Nat} {w w' : World} (h : FrB base w w') (hb : base' ≤ base) : FrB base' w w' :=
  ⟨h.os, h.tape, h.output, h.size, fun i hi hx => h.block i hi (hx.imp (fun q => by omega) id)⟩
/-- Where all that was there lies below base. -/
theorem Fr.thenB {a b c : World} {base : Nat} (h : Fr a b) (k : FrB base b c) (hb : a.heap.size ≤ base) : Fr a c :=
  ⟨k.os.trans h.os, k.tape.trans h.tape, k.output.trans h.output, Nat.le_trans h.size k.size, fun i hi _ => (k.block i (Nat.lt_of_lt_of_le hi h.size) (.inl (by omega))).trans (h.block i hi (by simp))⟩

theorem OwnBS.isB {w : World} {base : Nat} {v : Value} {xs : List Int} (h : OwnBS w base v xs) : ∃ g, v.ownBlock = some g ∧ base ≤ g ∧ isB w g := by
  obtain ⟨g, cap, rfl, ho⟩ := h
  rcases ho.1.2 with ⟨e, _⟩ | ⟨g', c', cur, e, hg, h1, h2⟩
  · simp at e
  · simp only [Value.slice.injEq, Option.some.injEq, Addr.mk.injEq, and_true] at e
    obtain ⟨rfl, -, rfl⟩ := e
    exact ⟨g, rfl, hg, cur, _, h1⟩
theorem OwnBS.frB {w w' : World} {base : Nat} {v : Value} {xs : List Int} (h : OwnBS w base v xs) (k : w.grownBy w' v.ownBlock) : FrB base w w' := by
  obtain ⟨g, e, hb, hg⟩ := h.isB
  refine ⟨k.os, k.tape, k.output, k.size, fun i hi hx => k.block i hi ?_⟩
  rw [e]
  intro q
  simp only [Option.some.injEq] at q
  subst q
  rcases hx with hx | hx
  · omega
  · exact hx hg

theorem ReadsB.take {w : World} {ao : Option Addr} {xs : List Int} (h : ReadsB w ao xs) (k : Nat) : ReadsB w ao (xs.take k) := by
  refine ⟨by have := h.len; simp; omega, fun x hx => h.bd x (List.mem_of_mem_take hx), fun i hi => ?_⟩
  simp only [List.length_take] at hi
  obtain ⟨b, off, e, hc⟩ := h.at_ i (by omega)
  refine ⟨b, off, e, fun j hj => ?_⟩
  simp only [List.length_take] at hj
  rw [hc j (by omega)]
  simp [List.getD, show j < k by omega]
theorem ownB_cap {w : World} {base g n cap : Nat} {xs : List Int} (h : OwnB w base (.slice (some ⟨g, 0, none⟩) n cap) xs) : n = xs.length ∧ n ≤ cap := by
  rcases h.1.2 with ⟨e, _⟩ | ⟨g', c', cur, e, _, _, h4, _⟩
  · simp at e
  · simp only [Value.slice.injEq] at e
    obtain ⟨-, rfl, rfl⟩ := e
    exact ⟨rfl, h4⟩
/-- '[]byte{..}' -/
theorem ownB_lit (w : World) (xs : List Int) (hl : xs.length ≤ 4294967296) (hb : ∀ x ∈ xs, U8 x) : OwnBS (w.alloc (.cells (xs.map (Value.int .u8)).toArray 5)) w.heap.size (.slice (some ⟨w.heap.size, 0, none⟩) xs.length xs.length) xs :=
  ⟨w.heap.size, xs.length, rfl, ⟨by simp, .inr ⟨w.heap.size, xs.length, _, rfl, Nat.le_refl _, heap_alloc_new w _, Nat.le_refl _, by unfold maxLen; omega, by simp, by rw [Nat.mul_one]; exact List.take_of_length_le (by simp)⟩⟩, hl, hb⟩
/-- '[]byte{}' -/
theorem ownB_new (w : World) : OwnBS (w.alloc (.cells #[] 5)) w.heap.size (.slice (some ⟨w.heap.size, 0, none⟩) 0 0) [] := ownB_empty w _ (Nat.le_refl _)

set_option maxHeartbeats 400000 in
theorem withNumber_any (n : Int) (v : Value) (base : Nat) (xs : List Int) (w : World) (h0 : 0 ≤ n) (h1 : n ≤ 4398046511103) (h : OwnBS w base v xs) (hl : xs.length ≤ 4294960000) (hb : base ≤ w.heap.size) :
    Calls Tryd.prog 36 #[v, .int .i64 n] w fun e w' => ∃ v', e = .returned v' ∧ OwnBS w' base v' (xs ++ putL n) ∧ FrB base w w' := by
  go_enter Tryd.func36, Tryd.ntmps36
  go_wp2_with fail
  go_loopw [0, 1] (fun u i wr => ∃ f m ys, f ≤ 5 ∧ i = .int .i64 m ∧ 0 ≤ m ∧ Hid (m < 128 ^ (f + 1)) ∧ m ≤ 4398046511103 ∧ OwnBS wr base u ys ∧ ys.length + f ≤ 4294960010 ∧ Hid (ys ++ putF f m = xs ++ putL n) ∧ FrB base w wr) (fun _ i _ => (intOf i).toNat)
  case atStart => exact ⟨5, n, xs, by omega, rfl, h0, (show n < 128 ^ 6 by simpa using (by omega : n < 4398046511104)), h1, h, by omega, rfl, FrB.refl _ _⟩
  case round =>
    obtain ⟨f, m, ys, hf, rfl, m0, HM, m1, ho, hyl, HE, hfr⟩ := hrel
    rename_i u _
    have hsz := hfr.size
    by_cases hlt : 128 ≤ m
    · have hm := readsB_one wr (m % 128 + 128) ⟨by omega, by omega⟩
      obtain ⟨f', rfl⟩ : ∃ f', f = f' + 1 := by
        cases f with
        | zero => have := HM.out; simp at this; omega
        | succ f => exact ⟨f, rfl⟩
      have HE' : Hid ((ys ++ [m % 128 + 128]) ++ putF f' (m / 128) = xs ++ putL n) := by
        show _ = _
        rw [← HE.out, putF_big (by omega)]; simp
      have HM' : Hid (m / 128 < 128 ^ (f' + 1)) := by
        have := HM.out
        show _ < _
        rw [Int.pow_succ] at this; omega
      have hd0 : 0 ≤ m / 128 ∧ m / 128 < m := by omega
      clear HE HM h
      go_wp2_with (at_builtin; refine appB _ rfl _ _ rfl base _ ys [m % 128 + 128] rfl (ho.fr (Fr.alloc _ _)) _ _ _ rfl rfl (by simp) hm (by simp; omega) (by simp; omega) ?_; intro v1 w4 hv1 hg1)
      refine ⟨⟨f', m / 128, ys ++ [m % 128 + 128], by omega, rfl, hd0.1, HM', by omega, hv1, by simp; omega, HE', hfr.trans ((Fr.alloc wr _).toB base |>.trans ((ho.fr (Fr.alloc _ _)).frB hg1))⟩, ?_⟩
      simp only [intOf]
      omega
    · have hm := readsB_one wr m ⟨by omega, by omega⟩
      have e : Hid (ys ++ [m] = xs ++ putL n) := by
        show _ = _
        rw [← HE.out, putF_small (by omega)]
      clear HE HM h
      go_wp2_with (at_builtin; refine appB _ rfl _ _ rfl base _ ys [m] rfl (ho.fr (Fr.alloc _ _)) _ _ _ rfl rfl (by simp) hm (by simp; omega) (by simp; omega) ?_; intro v1 w4 hv1 hg1)
      go_ret
      refine ⟨v1, rfl, ?_, hfr.trans ((Fr.alloc wr _).toB base |>.trans ((ho.fr (Fr.alloc _ _)).frB hg1))⟩
      rw [← e.out]
      exact hv1

/-- What PutNumber answers. -/
def putA (n : Int) : List Int := if inB 0 4398046511103 n then putL n else []

set_option maxHeartbeats 400000 in
theorem specPut_any (n : Int) (w : World) :
    Calls Tryd.prog 41 #[.int .i64 n] w fun e w' => ∃ v, e = .returned (.tuple #[v, .bool (inB 0 4398046511103 n)]) ∧ OwnBS w' w.heap.size v (putA n) ∧ Fr w w' := by
  have c1 := fun w => l1In_any n 0 4398046511103 w
  rw [putA]
  cases hk : inB 0 4398046511103 n
  · simp only [hk] at c1
    clear hk
    go_enter Tryd.func41, Tryd.ntmps41
    go_wp2_with fail
    refine (c1 _).mono ?_
    rintro e w1 ⟨rfl, rfl⟩
    go_wp2_with fail
    go_ret2
    exact ⟨_, rfl, ownB_new w, Fr.alloc w _⟩
  · simp only [hk] at c1
    obtain ⟨h0, h1⟩ := inB_true hk
    clear hk
    go_enter Tryd.func41, Tryd.ntmps41
    go_wp2_with fail
    refine (c1 _).mono ?_
    rintro e w1 ⟨rfl, rfl⟩
    go_wp2_with fail
    go_loopw [0, 4] (fun i u wr => ∃ f m ys, f ≤ 5 ∧ i = .int .i64 m ∧ 0 ≤ m ∧ Hid (m < 128 ^ (f + 1)) ∧ m ≤ 4398046511103 ∧ OwnBS wr w.heap.size u ys ∧ ys.length + f ≤ 4294960010 ∧ Hid (ys ++ putF f m = putL n) ∧ Fr w wr) (fun i _ _ => (intOf i).toNat)
    case atStart => exact ⟨5, n, [], by omega, rfl, h0, (show n < 128 ^ 6 by simpa using (by omega : n < 4398046511104)), h1, ownB_new w, by simp, rfl, Fr.alloc w _⟩
    case round =>
      obtain ⟨f, m, ys, hf, rfl, m0, HM, m1, ho, hyl, HE, hfr⟩ := hrel
      have hsz := hfr.size
      by_cases hlt : 128 ≤ m
      · have hm := readsB_one wr (m % 128 + 128) ⟨by omega, by omega⟩
        obtain ⟨f', rfl⟩ : ∃ f', f = f' + 1 := by
          cases f with
          | zero => have := HM.out; simp at this; omega
          | succ f => exact ⟨f, rfl⟩
        have HE' : Hid ((ys ++ [m % 128 + 128]) ++ putF f' (m / 128) = putL n) := by
          show _ = _
          rw [← HE.out, putF_big (by omega)]; simp
        have HM' : Hid (m / 128 < 128 ^ (f' + 1)) := by
          have := HM.out
          show _ < _
          rw [Int.pow_succ] at this; omega
        have hd0 : 0 ≤ m / 128 ∧ m / 128 < m := by omega
        clear HE HM
        go_wp2_with (at_builtin; refine appB _ rfl _ _ rfl w.heap.size _ ys [m % 128 + 128] rfl (ho.fr (Fr.alloc _ _)) _ _ _ rfl rfl (by simp) hm (by simp; omega) (by simp; omega) ?_; intro v1 w4 hv1 hg1)
        refine ⟨⟨f', m / 128, ys ++ [m % 128 + 128], by omega, rfl, hd0.1, HM', by omega, hv1, by simp; omega, HE', hfr.thenB ((Fr.alloc wr _).toB w.heap.size |>.trans ((ho.fr (Fr.alloc _ _)).frB hg1)) (Nat.le_refl _)⟩, ?_⟩
        simp only [intOf]
        omega
      · have hm := readsB_one wr m ⟨by omega, by omega⟩
        have e : Hid (ys ++ [m] = putL n) := by
          show _ = _
          rw [← HE.out, putF_small (by omega)]
        clear HE HM
        go_wp2_with (at_builtin; refine appB _ rfl _ _ rfl w.heap.size _ ys [m] rfl (ho.fr (Fr.alloc _ _)) _ _ _ rfl rfl (by simp) hm (by simp; omega) (by simp; omega) ?_; intro v1 w4 hv1 hg1)
        go_ret2
        refine ⟨v1, rfl, ?_, hfr.thenB ((Fr.alloc wr _).toB w.heap.size |>.trans ((ho.fr (Fr.alloc _ _)).frB hg1)) (Nat.le_refl _)⟩
        rw [← e.out]
        exact hv1

end Go.Proofs.YthjnhfcncinhiaaDoor
/-
  'append' on a slice of int64 that the call owns, with where the new one lies.
-/
namespace Go.Proofs.YthjnhfcncinhiaaDoor
open Go.RowKit

theorem appI2 (w : World) {ops : Array Oper} {rest : List Oper} {o : Oper} {a : Act} {Q : Exit → Act → World → Prop} (hgd : o.guard = none) (s x : Operand)
    (ho : o.op = .call { callee := .builtin .append, args := #[s, x], argTypes := #[60, 60] })
    (base : Nat) (v : Value) (xs news : List Int) (hs : a.eval s = v) (hown : OwnS w base v xs)
    (ao : Option Addr) (m c : Nat) (hx : a.eval x = .slice ao m c) (hm : news.length = m) (hc : ao = none → c = 0) (hnews : Reads w ao news)
    (hlen : xs.length + news.length ≤ 4294967296) (hbase : base ≤ w.heap.size)
    (h : ∀ v' w', OwnS w' base v' (xs ++ news) → w.grownBy w' v.ownBlock → (v'.ownBlock = v.ownBlock ∨ v'.ownBlock = some w.heap.size) → wpList Tryd.prog ops Q rest (a.put o.dst v') w') : wpList Tryd.prog ops Q (o :: rest) a w := by
  obtain ⟨i0, hi, hz0, hz1, hz2⟩ := info_parts Tryd.info2
  subst hm
  have hbd : ∀ x ∈ xs ++ news, I64 x := by
    obtain ⟨g, cap, rfl, ho⟩ := hown
    intro x hx
    rcases List.mem_append.1 hx with hx | hx
    · exact ho.2.2 x hx
    · exact hnews.bd x hx
  cases ao with
  | none =>
    have hnil : news = [] := by
      cases news with
      | nil => rfl
      | cons y ys => obtain ⟨b, off, e, _⟩ := hnews.at_ 0 (by simp); cases e
    subst hnil
    have := hc rfl
    subst this
    obtain ⟨g, cap, rfl, ho'⟩ := hown
    refine wpList_append_own_none hgd s x 60 ho base 2 i0 1 Tryd.underlying60 hi _ _ _ hs ho'.1 hx ?_
    refine h _ w ?_ ⟨rfl, rfl, rfl, Nat.le_refl _, fun _ _ _ => rfl⟩ (.inl rfl)
    rw [List.append_nil]
    exact ⟨g, cap, rfl, ho'⟩
  | some ad =>
    have hcell : ∀ j u, (news.map (Value.int .i64))[j]? = some u → w.cell? (ad.add j) = some u := by
      intro j u hu
      have hj : j < news.length := by
        have := (List.getElem?_eq_some_iff.1 hu).1
        simpa using this
      obtain ⟨b, off, e, hcc⟩ := hnews.at_ j hj
      simp only [Option.some.injEq] at e
      subst e
      rw [Addr.add_lit, hcc j hj]
      rw [List.getElem?_map, List.getElem?_eq_getElem hj] at hu
      rw [getD_at hj]
      simpa using hu
    obtain ⟨g, cap, rfl, ho'⟩ := hown
    refine wpList_append_own_at w hgd s x 60 ho base 2 i0 (.int .i64 0) 1 8 Tryd.underlying60 hi hz0 hz1 hz2 rfl (by decide) _ _ _ hs ho'.1 ad news.length c (news.map (Value.int .i64)) hx (by simp) hcell (ints_oneCell _ _) (by unfold maxLen; omega) (by omega) hbase ?_
    intro v' w' hv hg hnz hat
    refine h v' w' (shape_of ?_ ?_ (by simp; omega) hbd) hg hat
    · simpa using hv
    · intro e
      have := (hnz.1 e).1
      simp at this
end Go.Proofs.YthjnhfcncinhiaaDoor
/-
  The bytes of one event, by the specification: l3Fields, l3Has, l3Event.
-/
namespace Go.Proofs.YthjnhfcncinhiaaDoor
open Go.RowKit

theorem I64.small {x : Int} (h : 0 ≤ x ∧ x ≤ 65535) : I64 x := ⟨by omega, by omega⟩

/-- '[]int64{..}' -/
theorem own_lit (w : World) (xs : List Int) (hl : xs.length ≤ 4294967296) (hb : ∀ x ∈ xs, I64 x) : OwnS (w.alloc (.cells (xs.map (Value.int .i64)).toArray 2)) w.heap.size (.slice (some ⟨w.heap.size, 0, none⟩) xs.length xs.length) xs :=
  ⟨w.heap.size, xs.length, rfl, ⟨by simp, .inr ⟨w.heap.size, xs.length, _, rfl, Nat.le_refl _, heap_alloc_new w _, Nat.le_refl _, by unfold maxLen; omega, by simp, by rw [Nat.mul_one]; exact List.take_of_length_le (by simp)⟩⟩, hl, hb⟩

/-- The fields' numbers. -/
def flds (e : Ev) : List Int := [e.o, e.w, e.l, e.s, e.f, e.t]
theorem flds_at (e : Ev) (j : Nat) (h : j < 6) : (flds e).getD j 0 = e.at (j + 2) := by
  rcases (by omega : j = 0 ∨ j = 1 ∨ j = 2 ∨ j = 3 ∨ j = 4 ∨ j = 5) with rfl | rfl | rfl | rfl | rfl | rfl <;> rfl

set_option maxHeartbeats 1000000 in
theorem l3Fields_any (e : Ev) (w : World) (he : ∀ j, 0 ≤ e.at j ∧ e.at j ≤ 65535) :
    Calls Tryd.prog 39 #[.agg #[.int .i64 e.k, .int .i64 e.g, .int .i64 e.o, .int .i64 e.w, .int .i64 e.l, .int .i64 e.s, .int .i64 e.f, .int .i64 e.t]] w fun x w' => ∃ g, x = .returned (.slice (some ⟨g, 0, none⟩) 6 6) ∧ w.heap.size ≤ g ∧ g < w'.heap.size ∧ Reads w' (some ⟨g, 0, none⟩) (flds e) ∧ Fr w w' := by
  have hb := EvAt.new w e 38
  obtain ⟨c0, c1, c2, c3, c4, c5, c6, c7⟩ := hb
  have hI : ∀ x ∈ flds e, I64 x := by
    intro x hx
    simp only [flds, List.mem_cons, List.not_mem_nil, or_false] at hx
    rcases hx with rfl | rfl | rfl | rfl | rfl | rfl
    · exact I64.small (he 2)
    · exact I64.small (he 3)
    · exact I64.small (he 4)
    · exact I64.small (he 5)
    · exact I64.small (he 6)
    · exact I64.small (he 7)
  go_enter Tryd.func39, Tryd.ntmps39
  go_wp2_with fail
  go_ret
  obtain ⟨g, cap, hv, ho⟩ := own_lit (w.alloc (.cells #[.int .i64 e.k, .int .i64 e.g, .int .i64 e.o, .int .i64 e.w, .int .i64 e.l, .int .i64 e.s, .int .i64 e.f, .int .i64 e.t] 38)) (flds e) (by simp [flds]) hI
  simp only [Value.slice.injEq, Option.some.injEq, Addr.mk.injEq, and_true] at hv
  obtain ⟨rfl, -, rfl⟩ := hv
  have hr := ho.reads
  have es : (w.alloc (.cells #[.int .i64 e.k, .int .i64 e.g, .int .i64 e.o, .int .i64 e.w, .int .i64 e.l, .int .i64 e.s, .int .i64 e.f, .int .i64 e.t] 38)).heap.size = w.heap.size + 1 := by simp
  rw [es] at hr
  exact ⟨w.heap.size + 1, by simp, by omega, by simp, hr, (Fr.alloc _ _).trans (Fr.alloc _ _)⟩

set_option maxHeartbeats 1000000 in
theorem l3Has_any (k : Int) (i : Nat) (hi : i < 6) (w : World) :
    Calls Tryd.prog 40 #[.int .i64 k, .int .i64 (i : Int)] w fun x w' => x = .returned (.bool (hasB k (2 ^ i))) ∧ Fr w w' := by
  have hc := lit_at (w := w) (t := 2) [1, 2, 4, 8, 16, 32] i hi
  have e : ([1, 2, 4, 8, 16, 32] : List Int).getD i 0 = 2 ^ i := by
    rcases (by omega : i = 0 ∨ i = 1 ∨ i = 2 ∨ i = 3 ∨ i = 4 ∨ i = 5) with rfl | rfl | rfl | rfl | rfl | rfl <;> rfl
  rw [e] at hc
  have hd : (2 : Int) ^ i = 1 ∨ (2 : Int) ^ i = 2 ∨ (2 : Int) ^ i = 4 ∨ (2 : Int) ^ i = 8 ∨ (2 : Int) ^ i = 16 ∨ (2 : Int) ^ i = 32 := by
    rcases (by omega : i = 0 ∨ i = 1 ∨ i = 2 ∨ i = 3 ∨ i = 4 ∨ i = 5) with rfl | rfl | rfl | rfl | rfl | rfl <;> decide
  obtain ⟨d, hdd⟩ : ∃ d : Int, d = 2 ^ i := ⟨_, rfl⟩
  rw [← hdd] at hc hd ⊢
  clear hdd e
  have cH := fun w => l2Has_any k d w hd
  simp only [List.map_cons, List.map_nil] at hc
  clear hd
  go_enter Tryd.func40, Tryd.ntmps40
  go_wp2_with fail
  refine (cH _).mono ?_
  rintro e w1 ⟨rfl, f1⟩
  go_wp2_with fail
  go_ret
  exact ⟨rfl, (Fr.alloc _ _).trans f1⟩

/-- The numbers that are kept of an event: its Kind, its Gor, those of its first i fields that it has. -/
def nums (e : Ev) (i : Nat) : List Int := e.k :: e.g :: ((List.range i).filter fun j => hasB e.k (2 ^ j)).map fun j => e.at (j + 2)
theorem nums_yes (e : Ev) (i : Nat) (h : hasB e.k (2 ^ i) = true) : nums e (i + 1) = nums e i ++ [e.at (i + 2)] := by
  simp [nums, List.range_succ, List.filter_append, h]
theorem nums_no (e : Ev) (i : Nat) (h : hasB e.k (2 ^ i) = false) : nums e (i + 1) = nums e i := by
  simp [nums, List.range_succ, List.filter_append, h]
theorem nums_len (e : Ev) (i : Nat) : (nums e i).length ≤ i + 2 := by
  have := List.length_filter_le (fun j => hasB e.k (2 ^ j)) (List.range i)
  simp [nums] at this ⊢
  omega
theorem nums_mem (e : Ev) (i : Nat) (x : Int) (h : x ∈ nums e i) : ∃ j, x = e.at j := by
  simp only [nums, List.mem_cons, List.mem_map] at h
  rcases h with rfl | rfl | ⟨j, -, rfl⟩
  · exact ⟨0, rfl⟩
  · exact ⟨1, rfl⟩
  · exact ⟨j + 2, rfl⟩
theorem nums_ev (e : Ev) : (nums e 6).flatMap putL = evL e := by
  rw [nums, evL, numsL, offs, offF, ← List.range_eq_range']
  simp only [List.flatMap_cons, List.flatMap_map]
  rfl
theorem flat_take (L : List Int) (t : Nat) (h : t < L.length) : ((L.take t).flatMap putL) ++ putL L[t] = (L.take (t + 1)).flatMap putL := by
  rw [List.take_succ_eq_append_getElem h, List.flatMap_append]
  simp
theorem flat_len (L : List Int) : (L.flatMap putL).length ≤ L.length * 6 := by
  induction L with
  | nil => simp
  | cons x L ih =>
    have := (putL_len x).2
    rw [List.flatMap_cons, List.length_append, List.length_cons]
    omega

set_option maxHeartbeats 2000000 in
theorem l3Event_any (e : Ev) (w : World) (ho : evOk e = true) :
    Calls Tryd.prog 22 #[.agg #[.int .i64 e.k, .int .i64 e.g, .int .i64 e.o, .int .i64 e.w, .int .i64 e.l, .int .i64 e.s, .int .i64 e.f, .int .i64 e.t]] w fun x w' => ∃ v, x = .returned v ∧ OwnBS w' w.heap.size v (evL e) ∧ Fr w w' := by
  have he := (ok_at ho).1
  clear ho
  have hb := EvAt.new w e 38
  obtain ⟨c0, c1, c2, c3, c4, c5, c6, c7⟩ := hb
  have cF := fun w => l3Fields_any e w he
  have hI : ∀ i, ∀ x ∈ nums e i, I64 x := fun i x hx => by
    obtain ⟨j, rfl⟩ := nums_mem e i x hx
    exact I64.small (he j)
  go_enter Tryd.func22, Tryd.ntmps22
  have hL := own_lit (w.alloc (.cells #[.int .i64 e.k, .int .i64 e.g, .int .i64 e.o, .int .i64 e.w, .int .i64 e.l, .int .i64 e.s, .int .i64 e.f, .int .i64 e.t] 38)) (nums e 0) (by simp [nums]) (hI 0)
  have hLf := (Fr.alloc w (.cells #[.int .i64 e.k, .int .i64 e.g, .int .i64 e.o, .int .i64 e.w, .int .i64 e.l, .int .i64 e.s, .int .i64 e.f, .int .i64 e.t] 38)).trans (Fr.alloc _ (.cells ((nums e 0).map (Value.int .i64)).toArray 2))
  have d0 := (Fr.alloc (w.alloc (.cells #[.int .i64 e.k, .int .i64 e.g, .int .i64 e.o, .int .i64 e.w, .int .i64 e.l, .int .i64 e.s, .int .i64 e.f, .int .i64 e.t] 38)) (.cells ((nums e 0).map (Value.int .i64)).toArray 2)).cell c0
  obtain ⟨W1, hW1⟩ : ∃ W1, W1 = (w.alloc (.cells #[.int .i64 e.k, .int .i64 e.g, .int .i64 e.o, .int .i64 e.w, .int .i64 e.l, .int .i64 e.s, .int .i64 e.f, .int .i64 e.t] 38)).alloc (.cells #[.int .i64 e.k, .int .i64 e.g] 2) := ⟨_, rfl⟩
  have es : (w.alloc (.cells #[.int .i64 e.k, .int .i64 e.g, .int .i64 e.o, .int .i64 e.w, .int .i64 e.l, .int .i64 e.s, .int .i64 e.f, .int .i64 e.t] 38)).heap.size = w.heap.size + 1 := by simp
  rw [es] at hL
  have hL : OwnS W1 (w.heap.size + 1) (.slice (some ⟨w.heap.size + 1, 0, none⟩) 2 2) (nums e 0) := by rw [hW1]; exact hL
  have hLf : Fr w W1 := by rw [hW1]; exact hLf
  have d0 : W1.cell? ⟨w.heap.size, 0, none⟩ = some (.int .i64 e.k) := by rw [hW1]; exact d0
  have hsz : W1.heap.size = w.heap.size + 2 := by rw [hW1]; simp
  go_wp2_with fail
  rw [← hW1]
  clear hW1 es c0 c1 c2 c3 c4 c5 c6 c7
  refine (cF _).mono ?_
  rintro x w1 ⟨gf, rfl, g0, g1, hrf, ff⟩
  have hL := hL.fr ff
  have hLf := hLf.trans ff
  have d0 := ff.cell d0
  clear cF ff
  go_wp2_with fail
  go_loopw [3, 5] (fun u i wr => ∃ k : Nat, k ≤ 6 ∧ i = .int .i64 k ∧ OwnS wr (w.heap.size + 1) u (nums e k) ∧ u.ownBlock ≠ some gf ∧ Reads wr (some ⟨gf, 0, none⟩) (flds e) ∧ wr.cell? ⟨w.heap.size, 0, none⟩ = some (.int .i64 e.k) ∧ gf < wr.heap.size ∧ Fr w wr) (fun _ i _ => 6 - (intOf i).toNat)
  case atStart => exact ⟨0, by omega, rfl, hL, by simp [Value.ownBlock]; omega, hrf, d0, g1, hLf⟩
  case round =>
    obtain ⟨k, hk, rfl, ho, hne, hr, hd, hg, hf⟩ := hrel
    have hs := hf.size
    clear hL hLf d0 hrf
    by_cases hlt : k < 6
    · have cH := fun w => l3Has_any e.k k hlt w
      cases hh : hasB e.k (2 ^ k)
      · simp only [hh] at cH
        have HN : Hid (nums e (k + 1) = nums e k) := nums_no e k hh
        clear hh
        go_wp2_with fail
        refine (cH _).mono ?_
        rintro e w2 ⟨rfl, f2⟩
        go_wp2_with fail
        go_roundw
        case rel => exact ⟨k + 1, by omega, by go_num, by rw [HN.out]; exact ho.fr f2, hne, hr.fr f2, f2.cell hd, by have := f2.size; omega, hf.trans f2⟩
        case measure => simp [intOf]; omega
      · simp only [hh] at cH
        have HN : Hid (nums e (k + 1) = nums e k ++ [e.at (k + 2)]) := nums_yes e k hh
        clear hh
        go_wp2_with fail
        refine (cH _).mono ?_
        rintro e w2 ⟨rfl, f2⟩
        have ho := ho.fr f2
        have hr := hr.fr f2
        have hd := f2.cell hd
        have s2 := f2.size
        have hf := hf.trans f2
        obtain ⟨b, off, hbo, hc⟩ := hr.at_ k (by simpa [flds] using hlt)
        simp only [Option.some.injEq, Addr.mk.injEq, and_true] at hbo
        obtain ⟨rfl, rfl⟩ := hbo
        have hck := hc k (by simpa [flds] using hlt)
        rw [flds_at e k hlt, Nat.zero_add] at hck
        have hm := reads_one w2 (e.at (k + 2)) (I64.small (he _))
        have hle : (nums e k).length + [e.at (k + 2)].length ≤ 4294967296 := by have := nums_len e k; simp; omega
        obtain ⟨z, hz⟩ : ∃ z, z = e.at (k + 2) := ⟨_, rfl⟩
        rw [← hz] at hck hm hle HN
        clear hz hc cH
        go_wp2_with (at_builtin; refine appI2 _ rfl _ _ rfl (w.heap.size + 1) _ (nums e k) [z] rfl (ho.fr (Fr.alloc _ _)) _ _ _ rfl rfl (by simp) hm hle (by simp; omega) ?_; intro v1 w4 hv1 hg1 hat)
        have fa := Fr.alloc w2 (.cells #[.int .i64 z] 2)
        have hbk := ho.blk
        go_roundw
        case rel =>
          refine ⟨k + 1, by omega, by go_num, by rw [HN.out]; exact hv1, ?_, (hr.fr fa).keep hg1 (.inr (fun q => hne q.symm)), hg1.cell (fa.cell hd) (fun q => by have := hbk _ q.symm; simp only at this; omega), by have := hg1.size; simp at this; omega, (hf.trans fa).then hg1 (fun j hj => by have := hbk _ hj; omega)⟩
          rcases hat with hat | hat
          · rw [hat]; exact hne
          · rw [hat]; simp; omega
        case measure => simp [intOf]; omega
    · have e6 : k = 6 := by omega
      have ho := ho
      rw [e6] at ho
      clear hne hr hd hg e6
      obtain ⟨w3, hw3⟩ : ∃ w3, w3 = wr := ⟨_, rfl⟩
      subst hw3
      have HEV : Hid ((nums e 6).flatMap putL = evL e) := nums_ev e
      have hmem := nums_mem e 6
      have hlen := nums_len e 6
      obtain ⟨L, hLL⟩ : ∃ L, L = nums e 6 := ⟨_, rfl⟩
      rw [← hLL] at ho hmem hlen HEV
      clear hLL
      obtain ⟨gl, cl, rfl, hol⟩ := ho
      have tl := own_lt hol
      have hrl := hol.reads
      go_wp2_with fail
      go_loopw [6, 7] (fun o i wx => ∃ t : Nat, t ≤ L.length ∧ i = .int .i64 t ∧ OwnBS wx w3.heap.size o ((L.take t).flatMap putL) ∧ Fr w3 wx) (fun _ i _ => L.length - (intOf i).toNat)
      case atStart => exact ⟨0, Nat.zero_le _, rfl, ownB_new w3, Fr.alloc w3 _⟩
      case round =>
        obtain ⟨t, ht, rfl, hob, hfx⟩ := hrel
        have hsx := hfx.size
        by_cases hlt : t < L.length
        · obtain ⟨b, off, hbo, hc⟩ := (hrl.fr hfx).at_ t hlt
          simp only [Option.some.injEq, Addr.mk.injEq, and_true] at hbo
          obtain ⟨rfl, rfl⟩ := hbo
          have hct := hc t hlt
          rw [getD_at hlt, Nat.zero_add] at hct
          have HX : Hid (((L.take t).flatMap putL) ++ putL L[t] = (L.take (t + 1)).flatMap putL) := flat_take L t hlt
          have hzr : 0 ≤ L[t] ∧ L[t] ≤ 65535 := by
            obtain ⟨j, hj⟩ := hmem _ (List.getElem_mem hlt)
            rw [hj]; exact he j
          have hl1 := flat_len (L.take t)
          have hl2 : (L.take t).length ≤ 8 := by simp; omega
          obtain ⟨z, hz⟩ : ∃ z, z = L[t] := ⟨_, rfl⟩
          rw [← hz] at hct HX hzr
          have cP := fun w => specPut_any z w
          rw [putA, inB_mk hzr.1 (by omega)] at cP
          simp only [if_true] at cP
          have hpl := (putL_len z).2
          clear hz hc
          obtain ⟨PL, hPL⟩ : ∃ PL, PL = putL z := ⟨_, rfl⟩
          rw [← hPL] at HX hpl
          simp only [← hPL] at cP
          clear hPL
          go_wp2_with fail
          refine (cP _).mono ?_
          rintro e w5 ⟨vx, rfl, ox, f5⟩
          obtain ⟨gx, cx, rfl, ox⟩ := ox
          have s5 := f5.size
          go_wp2_with (at_builtin; refine appB _ rfl _ _ rfl w3.heap.size _ _ PL rfl (hob.fr f5) _ _ _ rfl rfl (by simp) ox.reads (by omega) (by omega) ?_; intro v6 w6 hv6 hg6)
          go_roundw
          case rel => exact ⟨t + 1, by omega, by go_num, by rw [← HX.out]; exact hv6, (hfx.trans f5).then hg6 hob.blk⟩
          case measure => simp [intOf]; omega
        · have et : t = L.length := by omega
          subst et
          rw [List.take_length, HEV.out] at hob
          go_wp2_with fail
          go_ret
          exact ⟨_, rfl, hob.lower hs, hf.trans hfx⟩
end Go.Proofs.YthjnhfcncinhiaaDoor
