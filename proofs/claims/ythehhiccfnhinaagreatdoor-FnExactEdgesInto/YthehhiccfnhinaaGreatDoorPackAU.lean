/-
  The drawing of events that may be wrong in one field.
-/
import Derived.Test.YthehhiccfnhinaaGreatDoorPackAT
import Derived.Test.YthehhiccfnhinaaGreatDoorPackAD
import Derived.Laws.AppendOwnNone
import Derived.Test.YthehhiccfnhinaaGreatDoorPackAA
import Derived.Test.YthehhiccfnhinaaGreatDoorPackAJ
import Derived.Test.YthehhiccfnhinaaGreatDoorPackAR
import Derived.Test.YthehhiccfnhinaaGreatDoorPackAF
import Derived.Deep.RegionHeld3
namespace Go.Proofs.YthehhiccfnhinaaGreatDoor
open Go.RowKit

set_option maxHeartbeats 4000000 in
theorem l2DrawAny_any (g : Nat) (w : World) (hc : Cur w g) :
    Calls Tryz.prog 106 #[.pointer (some ⟨g, 0, none⟩)] w fun x w' => ∃ e : Ev, x = .returned (.agg #[.int .i64 e.k, .int .i64 e.g, .int .i64 e.o, .int .i64 e.w, .int .i64 e.l, .int .i64 e.s, .int .i64 e.f, .int .i64 e.t]) ∧ EvI e ∧ Cur w' g ∧ w.grownBy w' (some g) := by
  have hgl := hc.lt
  go_enter Tryz.func106, Tryz.ntmps106
  have hr0 := EvB.new w ⟨0, 0, 0, 0, 0, 0, 0, 0⟩
  go_wp2_with fail
  refine (l2Draw_any _ _ (hc.fr (Fr.alloc _ _))).mono ?_
  rintro e w1 ⟨⟨k, gr, o, wi, l, sz, f, t⟩, rfl, ⟨i0, i1, i2, i3, i4, i5, i6, i7⟩, c1, g1⟩
  simp only at i0 i1 i2 i3 i4 i5 i6 i7 ⊢
  have h : DS w g w.heap.size w1.heap.size ⟨k, gr, o, wi, l, sz, f, t⟩ (w1.alloc (.cells #[.int .i64 k, .int .i64 gr, .int .i64 o, .int .i64 wi, .int .i64 l, .int .i64 sz, .int .i64 f, .int .i64 t] 31)) := by
    have hlt := (hr0.keep g1 (by simp; omega)).lt
    exact ⟨c1.fr (Fr.alloc _ _), grown_then (grown_then (Fr.alloc w _).wide g1 (row_some (.inr rfl))) (Fr.alloc _ _) (by simp), EvB.new _ ⟨k, gr, o, wi, l, sz, f, t⟩, (hr0.keep g1 (by simp; omega)).keep (Fr.alloc _ _) (by simp), hgl, Nat.le_refl _, hlt⟩
  obtain ⟨r, hr⟩ : ∃ r, r = w.heap.size := ⟨_, rfl⟩
  simp only [← hr] at h ⊢
  clear hr hr0 c1 g1 hc hgl
  go_wp2_with fail
  refine (l1Once_any _ _ _ h.cur).mono ?_
  rintro e w3 ⟨once, rfl, c3, g3⟩
  have h0 := h.draw c3 g3
  clear h
  obtain ⟨b, hb⟩ : ∃ b, b = w1.heap.size := ⟨_, rfl⟩
  simp only [← hb] at h0 ⊢
  clear hb c3 g3 w1
  cases once
  · obtain ⟨e0, e1, e2, e3, e4, e5, e6, e7⟩ := h0.ev.at
    obtain ⟨u0, u1, u2, u3, u4, u5, u6, u7⟩ := h0.res.at
    have hbr := h0.bl
    have v0 := h0.res.free 0
    have v1 := h0.res.free 1
    have v2 := h0.res.free 2
    have v3 := h0.res.free 3
    have v4 := h0.res.free 4
    have v5 := h0.res.free 5
    have v6 := h0.res.free 6
    have v7 := h0.res.free 7
    simp only at e0 e1 e2 e3 e4 e5 e6 e7 u0 u1 u2 u3 u4 u5 u6 u7
    have hfin := fun v0 v1 v2 v3 v4 v5 v6 v7 => h0.fin (put8 _ r v0 v1 v2 v3 v4 v5 v6 v7)
    clear h0
    go_wp2_with fail
    refine bodyPost_ret (v := .agg #[.int .i64 k, .int .i64 gr, .int .i64 o, .int .i64 wi, .int .i64 l, .int .i64 sz, .int .i64 f, .int .i64 t]) (by simp [results, Tryz.results106, go_sem, u0, u1, u2, u3, u4, u5, u6, u7]) rfl ⟨⟨k, gr, o, wi, l, sz, f, t⟩, rfl, ?_, (hfin _ _ _ _ _ _ _ _).1, (hfin _ _ _ _ _ _ _ _).2⟩
    exact ⟨i0, i1, i2, i3, i4, i5, i6, i7⟩
  · go_wp2_with fail
    refine (l1Odd_any _ _ h0.cur).mono ?_
    rintro e w4 ⟨od, rfl, hod, c4, g4⟩
    have h1 := h0.draw c4 g4
    clear h0 c4 g4
    have h2 := h1.fr (Fr.alloc w4 (.cells #[.int .i64 (-1), .int .i64 0, .int .i64 1, .int .i64 8, .int .i64 9, .int .i64 15, .int .i64 16, .int .i64 64, .int .i64 65, .int .i64 65535, .int .i64 65536, .int .i64 999, .int .i64 1000, .int .i64 od] 2))
    have hgl := h1.cur.lt
    clear h1
    go_wp2_with fail
    refine (l1Below_any _ _ _ h2.cur).mono ?_
    rintro e w5 ⟨x, rfl, x0, x1, x2, c5, g5⟩
    have x3 : x < 14 := x1 (by omega)
    clear x1 x2
    obtain ⟨j, rfl⟩ := Int.eq_ofNat_of_zero_le x0
    obtain ⟨z, ix, hcell⟩ := lit_cell (w := w4) (t := 2) [-1, 0, 1, 8, 9, 15, 16, 64, 65, 65535, 65536, 999, 1000, od] (by intro z hz; simp at hz; rcases hz with rfl | rfl | rfl | rfl | rfl | rfl | rfl | rfl | rfl | rfl | rfl | rfl | rfl | rfl <;> first | exact hod | exact ⟨by decide, by decide⟩) j (by simp; omega)
    have hcell2 := g5.cell hcell (by simp; omega)
    have hj : j < 14 := by omega
    have h3 := h2.draw c5 g5
    clear hcell h2 c5 g5 hgl hod x0
    go_wp2_with fail
    refine (l1Below_any _ _ _ h3.cur).mono ?_
    rintro e w6 ⟨y, rfl, y0, y1, y2, c6, g6⟩
    have y3 : y < 8 := y1 (by omega)
    have h4 := h3.draw c6 g6
    clear h3 c6 g6 y1 y2 hcell2 hj x3
    have hy : y = 0 ∨ y = 1 ∨ y = 2 ∨ y = 3 ∨ y = 4 ∨ y = 5 ∨ y = 6 ∨ y = 7 := by omega
    clear y0 y3
    rcases hy with rfl | rfl | rfl | rfl | rfl | rfl | rfl | rfl
    · go_wp2_with fail
      refine (l1From_any _ _ _ _ h4.cur (by decide) (by decide) (by decide)).mono ?_
      rintro e w7 ⟨kk, rfl, k0, k1, c7, g7⟩
      have h5 := h4.draw c7 g7
      have ix : I64 kk := ⟨by omega, by omega⟩
      clear h4 c7 g7 k0 k1
      have cc : w7.cell? ⟨b, 0, none⟩ = some (.int .i64 k) := h5.ev.at.1
      have zz := h5.ev.free 0
      have h6 := h5.setK kk
      clear cc
      obtain ⟨e0, e1, e2, e3, e4, e5, e6, e7⟩ := h5.ev.at
      obtain ⟨u0, u1, u2, u3, u4, u5, u6, u7⟩ := h5.res.at
      have hbr := h5.bl
      have v0 := h5.res.free 0
      have v1 := h5.res.free 1
      have v2 := h5.res.free 2
      have v3 := h5.res.free 3
      have v4 := h5.res.free 4
      have v5 := h5.res.free 5
      have v6 := h5.res.free 6
      have v7 := h5.res.free 7
      simp only at e0 e1 e2 e3 e4 e5 e6 e7 u0 u1 u2 u3 u4 u5 u6 u7
      have hfin := fun v0 v1 v2 v3 v4 v5 v6 v7 => h6.fin (put8 _ r v0 v1 v2 v3 v4 v5 v6 v7)
      clear h6 h5
      go_wp2_with fail
      refine bodyPost_ret (v := .agg #[.int .i64 kk, .int .i64 gr, .int .i64 o, .int .i64 wi, .int .i64 l, .int .i64 sz, .int .i64 f, .int .i64 t]) (by simp [results, Tryz.results106, go_sem, u0, u1, u2, u3, u4, u5, u6, u7]) rfl ⟨⟨kk, gr, o, wi, l, sz, f, t⟩, rfl, ?_, (hfin _ _ _ _ _ _ _ _).1, (hfin _ _ _ _ _ _ _ _).2⟩
      exact ⟨ix, i1, i2, i3, i4, i5, i6, i7⟩
    · have cc : w6.cell? ⟨b, 1, none⟩ = some (.int .i64 gr) := h4.ev.at.2.1
      have zz := h4.ev.free 1
      have h6 := h4.setG z
      clear cc
      obtain ⟨e0, e1, e2, e3, e4, e5, e6, e7⟩ := h4.ev.at
      obtain ⟨u0, u1, u2, u3, u4, u5, u6, u7⟩ := h4.res.at
      have hbr := h4.bl
      have v0 := h4.res.free 0
      have v1 := h4.res.free 1
      have v2 := h4.res.free 2
      have v3 := h4.res.free 3
      have v4 := h4.res.free 4
      have v5 := h4.res.free 5
      have v6 := h4.res.free 6
      have v7 := h4.res.free 7
      simp only at e0 e1 e2 e3 e4 e5 e6 e7 u0 u1 u2 u3 u4 u5 u6 u7
      have hfin := fun v0 v1 v2 v3 v4 v5 v6 v7 => h6.fin (put8 _ r v0 v1 v2 v3 v4 v5 v6 v7)
      clear h6 h4
      go_wp2_with fail
      refine bodyPost_ret (v := .agg #[.int .i64 k, .int .i64 z, .int .i64 o, .int .i64 wi, .int .i64 l, .int .i64 sz, .int .i64 f, .int .i64 t]) (by simp [results, Tryz.results106, go_sem, u0, u1, u2, u3, u4, u5, u6, u7]) rfl ⟨⟨k, z, o, wi, l, sz, f, t⟩, rfl, ?_, (hfin _ _ _ _ _ _ _ _).1, (hfin _ _ _ _ _ _ _ _).2⟩
      exact ⟨i0, ix, i2, i3, i4, i5, i6, i7⟩
    · have cc : w6.cell? ⟨b, 2, none⟩ = some (.int .i64 o) := h4.ev.at.2.2.1
      have zz := h4.ev.free 2
      have h6 := h4.setO z
      clear cc
      obtain ⟨e0, e1, e2, e3, e4, e5, e6, e7⟩ := h4.ev.at
      obtain ⟨u0, u1, u2, u3, u4, u5, u6, u7⟩ := h4.res.at
      have hbr := h4.bl
      have v0 := h4.res.free 0
      have v1 := h4.res.free 1
      have v2 := h4.res.free 2
      have v3 := h4.res.free 3
      have v4 := h4.res.free 4
      have v5 := h4.res.free 5
      have v6 := h4.res.free 6
      have v7 := h4.res.free 7
      simp only at e0 e1 e2 e3 e4 e5 e6 e7 u0 u1 u2 u3 u4 u5 u6 u7
      have hfin := fun v0 v1 v2 v3 v4 v5 v6 v7 => h6.fin (put8 _ r v0 v1 v2 v3 v4 v5 v6 v7)
      clear h6 h4
      go_wp2_with fail
      refine bodyPost_ret (v := .agg #[.int .i64 k, .int .i64 gr, .int .i64 z, .int .i64 wi, .int .i64 l, .int .i64 sz, .int .i64 f, .int .i64 t]) (by simp [results, Tryz.results106, go_sem, u0, u1, u2, u3, u4, u5, u6, u7]) rfl ⟨⟨k, gr, z, wi, l, sz, f, t⟩, rfl, ?_, (hfin _ _ _ _ _ _ _ _).1, (hfin _ _ _ _ _ _ _ _).2⟩
      exact ⟨i0, i1, ix, i3, i4, i5, i6, i7⟩
    · have cc : w6.cell? ⟨b, 3, none⟩ = some (.int .i64 wi) := h4.ev.at.2.2.2.1
      have zz := h4.ev.free 3
      have h6 := h4.setW z
      clear cc
      obtain ⟨e0, e1, e2, e3, e4, e5, e6, e7⟩ := h4.ev.at
      obtain ⟨u0, u1, u2, u3, u4, u5, u6, u7⟩ := h4.res.at
      have hbr := h4.bl
      have v0 := h4.res.free 0
      have v1 := h4.res.free 1
      have v2 := h4.res.free 2
      have v3 := h4.res.free 3
      have v4 := h4.res.free 4
      have v5 := h4.res.free 5
      have v6 := h4.res.free 6
      have v7 := h4.res.free 7
      simp only at e0 e1 e2 e3 e4 e5 e6 e7 u0 u1 u2 u3 u4 u5 u6 u7
      have hfin := fun v0 v1 v2 v3 v4 v5 v6 v7 => h6.fin (put8 _ r v0 v1 v2 v3 v4 v5 v6 v7)
      clear h6 h4
      go_wp2_with fail
      refine bodyPost_ret (v := .agg #[.int .i64 k, .int .i64 gr, .int .i64 o, .int .i64 z, .int .i64 l, .int .i64 sz, .int .i64 f, .int .i64 t]) (by simp [results, Tryz.results106, go_sem, u0, u1, u2, u3, u4, u5, u6, u7]) rfl ⟨⟨k, gr, o, z, l, sz, f, t⟩, rfl, ?_, (hfin _ _ _ _ _ _ _ _).1, (hfin _ _ _ _ _ _ _ _).2⟩
      exact ⟨i0, i1, i2, ix, i4, i5, i6, i7⟩
    · have cc : w6.cell? ⟨b, 4, none⟩ = some (.int .i64 l) := h4.ev.at.2.2.2.2.1
      have zz := h4.ev.free 4
      have h6 := h4.setL z
      clear cc
      obtain ⟨e0, e1, e2, e3, e4, e5, e6, e7⟩ := h4.ev.at
      obtain ⟨u0, u1, u2, u3, u4, u5, u6, u7⟩ := h4.res.at
      have hbr := h4.bl
      have v0 := h4.res.free 0
      have v1 := h4.res.free 1
      have v2 := h4.res.free 2
      have v3 := h4.res.free 3
      have v4 := h4.res.free 4
      have v5 := h4.res.free 5
      have v6 := h4.res.free 6
      have v7 := h4.res.free 7
      simp only at e0 e1 e2 e3 e4 e5 e6 e7 u0 u1 u2 u3 u4 u5 u6 u7
      have hfin := fun v0 v1 v2 v3 v4 v5 v6 v7 => h6.fin (put8 _ r v0 v1 v2 v3 v4 v5 v6 v7)
      clear h6 h4
      go_wp2_with fail
      refine bodyPost_ret (v := .agg #[.int .i64 k, .int .i64 gr, .int .i64 o, .int .i64 wi, .int .i64 z, .int .i64 sz, .int .i64 f, .int .i64 t]) (by simp [results, Tryz.results106, go_sem, u0, u1, u2, u3, u4, u5, u6, u7]) rfl ⟨⟨k, gr, o, wi, z, sz, f, t⟩, rfl, ?_, (hfin _ _ _ _ _ _ _ _).1, (hfin _ _ _ _ _ _ _ _).2⟩
      exact ⟨i0, i1, i2, i3, ix, i5, i6, i7⟩
    · have cc : w6.cell? ⟨b, 5, none⟩ = some (.int .i64 sz) := h4.ev.at.2.2.2.2.2.1
      have zz := h4.ev.free 5
      have h6 := h4.setS z
      clear cc
      obtain ⟨e0, e1, e2, e3, e4, e5, e6, e7⟩ := h4.ev.at
      obtain ⟨u0, u1, u2, u3, u4, u5, u6, u7⟩ := h4.res.at
      have hbr := h4.bl
      have v0 := h4.res.free 0
      have v1 := h4.res.free 1
      have v2 := h4.res.free 2
      have v3 := h4.res.free 3
      have v4 := h4.res.free 4
      have v5 := h4.res.free 5
      have v6 := h4.res.free 6
      have v7 := h4.res.free 7
      simp only at e0 e1 e2 e3 e4 e5 e6 e7 u0 u1 u2 u3 u4 u5 u6 u7
      have hfin := fun v0 v1 v2 v3 v4 v5 v6 v7 => h6.fin (put8 _ r v0 v1 v2 v3 v4 v5 v6 v7)
      clear h6 h4
      go_wp2_with fail
      refine bodyPost_ret (v := .agg #[.int .i64 k, .int .i64 gr, .int .i64 o, .int .i64 wi, .int .i64 l, .int .i64 z, .int .i64 f, .int .i64 t]) (by simp [results, Tryz.results106, go_sem, u0, u1, u2, u3, u4, u5, u6, u7]) rfl ⟨⟨k, gr, o, wi, l, z, f, t⟩, rfl, ?_, (hfin _ _ _ _ _ _ _ _).1, (hfin _ _ _ _ _ _ _ _).2⟩
      exact ⟨i0, i1, i2, i3, i4, ix, i6, i7⟩
    · have cc : w6.cell? ⟨b, 6, none⟩ = some (.int .i64 f) := h4.ev.at.2.2.2.2.2.2.1
      have zz := h4.ev.free 6
      have h6 := h4.setF z
      clear cc
      obtain ⟨e0, e1, e2, e3, e4, e5, e6, e7⟩ := h4.ev.at
      obtain ⟨u0, u1, u2, u3, u4, u5, u6, u7⟩ := h4.res.at
      have hbr := h4.bl
      have v0 := h4.res.free 0
      have v1 := h4.res.free 1
      have v2 := h4.res.free 2
      have v3 := h4.res.free 3
      have v4 := h4.res.free 4
      have v5 := h4.res.free 5
      have v6 := h4.res.free 6
      have v7 := h4.res.free 7
      simp only at e0 e1 e2 e3 e4 e5 e6 e7 u0 u1 u2 u3 u4 u5 u6 u7
      have hfin := fun v0 v1 v2 v3 v4 v5 v6 v7 => h6.fin (put8 _ r v0 v1 v2 v3 v4 v5 v6 v7)
      clear h6 h4
      go_wp2_with fail
      refine bodyPost_ret (v := .agg #[.int .i64 k, .int .i64 gr, .int .i64 o, .int .i64 wi, .int .i64 l, .int .i64 sz, .int .i64 z, .int .i64 t]) (by simp [results, Tryz.results106, go_sem, u0, u1, u2, u3, u4, u5, u6, u7]) rfl ⟨⟨k, gr, o, wi, l, sz, z, t⟩, rfl, ?_, (hfin _ _ _ _ _ _ _ _).1, (hfin _ _ _ _ _ _ _ _).2⟩
      exact ⟨i0, i1, i2, i3, i4, i5, ix, i7⟩
    · have cc : w6.cell? ⟨b, 7, none⟩ = some (.int .i64 t) := h4.ev.at.2.2.2.2.2.2.2
      have zz := h4.ev.free 7
      have h6 := h4.setT z
      clear cc
      obtain ⟨e0, e1, e2, e3, e4, e5, e6, e7⟩ := h4.ev.at
      obtain ⟨u0, u1, u2, u3, u4, u5, u6, u7⟩ := h4.res.at
      have hbr := h4.bl
      have v0 := h4.res.free 0
      have v1 := h4.res.free 1
      have v2 := h4.res.free 2
      have v3 := h4.res.free 3
      have v4 := h4.res.free 4
      have v5 := h4.res.free 5
      have v6 := h4.res.free 6
      have v7 := h4.res.free 7
      simp only at e0 e1 e2 e3 e4 e5 e6 e7 u0 u1 u2 u3 u4 u5 u6 u7
      have hfin := fun v0 v1 v2 v3 v4 v5 v6 v7 => h6.fin (put8 _ r v0 v1 v2 v3 v4 v5 v6 v7)
      clear h6 h4
      go_wp2_with fail
      refine bodyPost_ret (v := .agg #[.int .i64 k, .int .i64 gr, .int .i64 o, .int .i64 wi, .int .i64 l, .int .i64 sz, .int .i64 f, .int .i64 z]) (by simp [results, Tryz.results106, go_sem, u0, u1, u2, u3, u4, u5, u6, u7]) rfl ⟨⟨k, gr, o, wi, l, sz, f, z⟩, rfl, ?_, (hfin _ _ _ _ _ _ _ _).1, (hfin _ _ _ _ _ _ _ _).2⟩
      exact ⟨i0, i1, i2, i3, i4, i5, i6, ix⟩
end Go.Proofs.YthehhiccfnhinaaGreatDoor
/-
  Reading a number: the specification's ReadNumber.
-/
namespace Go.Proofs.YthehhiccfnhinaaGreatDoor
open Go.RowKit

/-- What ReadNumber answers. -/
def rdV (bs : List Int) (i : Int) : Int × Int × Bool :=
  if 0 ≤ i then (match rdN bs i.toNat with | some (n, q) => (n, (q : Int), true) | none => (0, i, false)) else (0, i, false)

theorem rdV_at (bs : List Int) (p : Nat) : rdV bs (p : Int) = (match rdN bs p with | some (n, q) => (n, (q : Int), true) | none => (0, (p : Int), false)) := by
  rw [rdV, if_pos (by omega)]
  rfl
theorem rdV_none {bs : List Int} {p : Nat} (h : rdN bs p = none) : rdV bs (p : Int) = (0, (p : Int), false) := by rw [rdV_at, h]
theorem rdV_some {bs : List Int} {p q : Nat} {n : Int} (h : rdN bs p = some (n, q)) : rdV bs (p : Int) = (n, (q : Int), true) := by rw [rdV_at, h]
theorem rdN_out {bs : List Int} {p : Nat} (h : bs.length ≤ p) : rdN bs p = none := by
  rw [rdN, rdG, List.getElem?_eq_none h]
theorem rdV_out {bs : List Int} {i : Int} (h : i < 0 ∨ (bs.length : Int) ≤ i) : rdV bs i = (0, i, false) := by
  rw [rdV]
  by_cases h0 : 0 ≤ i
  · rw [if_pos h0, rdN_out (by omega)]
  · rw [if_neg h0]

/-- The number was read up to the place p: f bytes may come. -/
structure RS (bs : List Int) (s f p : Nat) (u acc : Int) : Prop where
  sp : s ≤ p
  fp : p + f = s + 6
  same : rdG bs s f p u acc = rdN bs s
  unit : u = 128 ^ (6 - f)
  acc0 : 0 ≤ acc
  acc1 : acc < u

theorem RS.start (bs : List Int) (s : Nat) : RS bs s 6 s 1 0 := ⟨Nat.le_refl _, rfl, rfl, rfl, by omega, by omega⟩
theorem RS.unit_in {bs : List Int} {s f p : Nat} {u acc : Int} (h : RS bs s f p u acc) : 1 ≤ u ∧ u ≤ 4398046511104 ∧ (0 < f → u ≤ 34359738368) := by
  have hf : f ≤ 6 ∨ 6 < f := by omega
  rcases hf with hf | hf
  · rw [h.unit]
    rcases (by omega : f = 0 ∨ f = 1 ∨ f = 2 ∨ f = 3 ∨ f = 4 ∨ f = 5 ∨ f = 6) with rfl | rfl | rfl | rfl | rfl | rfl | rfl <;> decide
  · have : u = 1 := by rw [h.unit, Nat.sub_eq_zero_of_le (by omega)]; rfl
    omega
theorem RS.more {bs : List Int} {s f p : Nat} {u acc b : Int} (h : RS bs s (f + 1) p u acc) (hb : bs[p]? = some b) (h1 : 128 ≤ b) (h2 : b ≤ 255) : RS bs s f (p + 1) (u * 128) (acc + (b - 128) * u) := by
  have hu := h.unit_in
  have h3 : 0 ≤ (b - 128) * u := Int.mul_nonneg (by omega) (by omega)
  have h4 : (b - 128) * u ≤ 127 * u := Int.mul_le_mul_of_nonneg_right (by omega) (by omega)
  have := h.acc0
  have := h.acc1
  have h5 := h.fp
  have h6 := h.sp
  refine ⟨by omega, by omega, ?_, ?_, by omega, by omega⟩
  · rw [← h.same, rdG, hb]
    simp only []
    rw [if_pos h1]
  · rw [h.unit, ← Int.pow_succ]
    congr 1
    omega
theorem RS.last {bs : List Int} {s f p : Nat} {u acc b : Int} (h : RS bs s (f + 1) p u acc) (hb : bs[p]? = some b) (h1 : b < 128) : rdN bs s = if b = 0 ∧ s < p then none else some (acc + b * u, p + 1) := by
  rw [← h.same, rdG, hb]
  simp only []
  rw [if_neg (by omega)]
theorem RS.stop {bs : List Int} {s f p : Nat} {u acc : Int} (h : RS bs s f p u acc) (hb : f = 0 ∨ bs.length ≤ p) : rdN bs s = none := by
  rw [← h.same]
  cases f with
  | zero => rfl
  | succ f => rw [rdG, List.getElem?_eq_none (by omega)]

/-- ReadNumber's three results. -/
def rdT (x : Int × Int × Bool) : Value := .tuple #[.int .i64 x.1, .int .i64 x.2.1, .bool x.2.2]

end Go.Proofs.YthehhiccfnhinaaGreatDoor
/-
  'append' on a slice of int64 that the call owns.
-/
namespace Go.Proofs.YthehhiccfnhinaaGreatDoor
open Go.RowKit

/-- A slice that a call owns, not nil: it begins at the head of a block from base on. -/
def OwnBS (w : World) (base : Nat) (v : Value) (xs : List Int) : Prop :=
  ∃ g cap, v = .slice (some ⟨g, 0, none⟩) xs.length cap ∧ OwnB w base (.slice (some ⟨g, 0, none⟩) xs.length cap) xs

theorem OwnB.keep {w w' : World} {base : Nat} {v : Value} {xs : List Int} {row : Option Nat} (h : OwnB w base v xs) (k : w.grownBy w' row) (hne : v.ownBlock = none ∨ v.ownBlock ≠ row) : OwnB w' base v xs :=
  ⟨h.1.kept k hne, h.2⟩
theorem OwnB.fr {w w' : World} {base : Nat} {v : Value} {xs : List Int} (h : OwnB w base v xs) (k : Fr w w') : OwnB w' base v xs :=
  h.keep k (by cases v.ownBlock <;> simp)
theorem OwnBS.keep {w w' : World} {base : Nat} {v : Value} {xs : List Int} {row : Option Nat} (h : OwnBS w base v xs) (k : w.grownBy w' row) (hne : v.ownBlock ≠ row) : OwnBS w' base v xs := by
  obtain ⟨g, cap, rfl, ho⟩ := h
  exact ⟨g, cap, rfl, ho.keep k (.inr hne)⟩
theorem OwnBS.fr {w w' : World} {base : Nat} {v : Value} {xs : List Int} (h : OwnBS w base v xs) (k : Fr w w') : OwnBS w' base v xs := by
  obtain ⟨g, cap, rfl, ho⟩ := h
  exact ⟨g, cap, rfl, ho.fr k⟩
theorem OwnB.lower {w : World} {base base' : Nat} {v : Value} {xs : List Int} (h : OwnB w base v xs) (hb : base' ≤ base) : OwnB w base' v xs := by
  refine ⟨⟨h.1.1, ?_⟩, h.2⟩
  rcases h.1.2 with e | ⟨g, cap, cur, e, hg, r⟩
  · exact .inl e
  · exact .inr ⟨g, cap, cur, e, by omega, r⟩
theorem OwnBS.lower {w : World} {base base' : Nat} {v : Value} {xs : List Int} (h : OwnBS w base v xs) (hb : base' ≤ base) : OwnBS w base' v xs := by
  obtain ⟨g, cap, rfl, ho⟩ := h
  exact ⟨g, cap, rfl, ho.lower hb⟩
theorem OwnBS.blk {w : World} {base : Nat} {v : Value} {xs : List Int} (h : OwnBS w base v xs) : ∀ j, v.ownBlock = some j → base ≤ j := by
  obtain ⟨g, cap, rfl, ho⟩ := h
  intro j hj
  exact (ho.1.lt j hj).1
theorem OwnBS.len {w : World} {base : Nat} {v : Value} {xs : List Int} (h : OwnBS w base v xs) : xs.length ≤ 4294967296 := by
  obtain ⟨g, cap, rfl, ho⟩ := h
  exact ho.2.1

/-- '[]int64{}' -/
theorem ownB_empty (w : World) (base : Nat) (hb : base ≤ w.heap.size) : OwnBS (w.alloc (.cells #[] 5)) base (.slice (some ⟨w.heap.size, 0, none⟩) 0 0) [] :=
  ⟨w.heap.size, 0, rfl, World.ownsRow_made w #[] 0 hb (by unfold maxLen; omega) rfl, by simp, by simp⟩

/-- The one new element of 'append(l, x)' lies in a block of its own. -/
theorem readsB_one (w : World) (x : Int) (h : U8 x) : ReadsB (w.alloc (.cells #[.int .u8 x] 5)) (some ⟨w.heap.size, 0, none⟩) [x] := by
  refine ⟨by simp, by simpa using h, fun i _ => ⟨w.heap.size, 0, rfl, fun j hj => ?_⟩⟩
  have : j = 0 := by simpa using hj
  subst this
  rw [cell_of_row _ _ _ _ _ _ (heap_alloc_new w _)]
  rfl

theorem shapeB_of {w : World} {base : Nat} {v : Value} {xs : List Int} (h : w.ownsRow base 5 1 v xs.length (xs.map (Value.int .u8))) (hn : v ≠ .slice none 0 0) (hl : xs.length ≤ 4294967296) (hb : ∀ x ∈ xs, U8 x) : OwnBS w base v xs := by
  rcases h.2 with ⟨e, _⟩ | ⟨g, cap, cur, e, r⟩
  · exact absurd e hn
  · subst e; exact ⟨g, cap, rfl, h, hl, hb⟩

theorem appB (w : World) {ops : Array Oper} {rest : List Oper} {o : Oper} {a : Act} {Q : Exit → Act → World → Prop} (hgd : o.guard = none) (s x : Operand)
    (ho : o.op = .call { callee := .builtin .append, args := #[s, x], argTypes := #[22, 22] })
    (base : Nat) (v : Value) (xs news : List Int) (hs : a.eval s = v) (hown : OwnBS w base v xs)
    (ao : Option Addr) (m c : Nat) (hx : a.eval x = .slice ao m c) (hm : news.length = m) (hc : ao = none → c = 0) (hnews : ReadsB w ao news)
    (hlen : xs.length + news.length ≤ 4294967296) (hbase : base ≤ w.heap.size)
    (h : ∀ v' w', OwnBS w' base v' (xs ++ news) → w.grownBy w' v.ownBlock → wpList Tryz.prog ops Q rest (a.put o.dst v') w') : wpList Tryz.prog ops Q (o :: rest) a w := by
  obtain ⟨i0, hi, hz0, hz1, hz2⟩ := info_parts Tryz.info5
  subst hm
  have hbd : ∀ x ∈ xs ++ news, U8 x := by
    obtain ⟨g, cap, rfl, ho⟩ := hown
    intro x hx
    rcases List.mem_append.1 hx with hx | hx
    · exact ho.2.2 x hx
    · exact hnews.bd x hx
  cases ao with
  | none =>
    have hnil : news = [] := by
      cases news with
      | nil => rfl
      | cons y ys => obtain ⟨b, off, e, _⟩ := hnews.at_ 0 (by simp); cases e
    subst hnil
    have := hc rfl
    subst this
    obtain ⟨g, cap, rfl, ho'⟩ := hown
    refine wpList_append_own_none hgd s x 22 ho base 5 i0 1 Tryz.underlying22 hi _ _ _ hs ho'.1 hx ?_
    refine h _ w ?_ ⟨rfl, rfl, rfl, Nat.le_refl _, fun _ _ _ => rfl⟩
    rw [List.append_nil]
    exact ⟨g, cap, rfl, ho'⟩
  | some ad =>
    have hcell : ∀ j u, (news.map (Value.int .u8))[j]? = some u → w.cell? (ad.add j) = some u := by
      intro j u hu
      have hj : j < news.length := by
        have := (List.getElem?_eq_some_iff.1 hu).1
        simpa using this
      obtain ⟨b, off, e, hcc⟩ := hnews.at_ j hj
      simp only [Option.some.injEq] at e
      subst e
      rw [Addr.add_lit, hcc j hj]
      rw [List.getElem?_map, List.getElem?_eq_getElem hj] at hu
      rw [getD_at hj]
      simpa using hu
    obtain ⟨g, cap, rfl, ho'⟩ := hown
    refine wpList_append_own w hgd s x 22 ho base 5 i0 (.int .u8 0) 1 1 Tryz.underlying22 hi hz0 hz1 hz2 rfl (by decide) _ _ _ hs ho'.1 ad news.length c (news.map (Value.int .u8)) hx (by simp) hcell (ints_oneCell _ _) (by unfold maxLen; omega) (by omega) hbase ?_
    intro v' w' hv hg hnz
    refine h v' w' (shapeB_of ?_ ?_ (by simp; omega) hbd) hg
    · simpa using hv
    · intro e
      have := (hnz.1 e).1
      simp at this

/-- Where the block of an owned slice lies. -/
theorem ownB_lt {w : World} {base g n cap : Nat} {xs : List Int} (h : OwnB w base (.slice (some ⟨g, 0, none⟩) n cap) xs) : base ≤ g ∧ g < w.heap.size := h.1.lt g rfl
theorem own_neB {g g' n cap : Nat} (h : g ≠ g') : (Value.slice (some ⟨g, 0, none⟩) n cap).ownBlock = none ∨ (Value.slice (some ⟨g, 0, none⟩) n cap).ownBlock ≠ some g' := .inr (by simpa [Value.ownBlock] using h)
theorem one_blkB {a g : Nat} (h : a ≤ g) : ∀ j, some g = some j → a ≤ j := by
  intro j hj
  simp only [Option.some.injEq] at hj
  omega
end Go.Proofs.YthehhiccfnhinaaGreatDoor
/-
  PutNumber, of the program and of its specification: what is put, in new memory.
-/
namespace Go.Proofs.YthehhiccfnhinaaGreatDoor
open Go.RowKit

/-- A block of bytes. -/
def isB (w : World) (b : Nat) : Prop := ∃ cur fz, w.heap[b]? = some (.cells cur 5 fz)
/-- What lies below base, and what is no block of bytes, stays. -/
structure FrB (base : Nat) (w w' : World) : Prop where
  os : w'.os = w.os
  tape : w'.tape = w.tape
  output : w'.output = w.output
  size : w.heap.size ≤ w'.heap.size
  block : ∀ b, b < w.heap.size → (b < base ∨ ¬ isB w b) → w'.heap[b]? = w.heap[b]?

theorem FrB.refl (base : Nat) (w : World) : FrB base w w := ⟨rfl, rfl, rfl, Nat.le_refl _, fun _ _ _ => rfl⟩
theorem Fr.toB {w w' : World} (base : Nat) (h : Fr w w') : FrB base w w' := ⟨h.os, h.tape, h.output, h.size, fun b hb _ => h.block b hb (by simp)⟩
theorem FrB.trans {base : Nat} {a b c : World} (h : FrB base a b) (k : FrB base b c) : FrB base a c := by
  refine ⟨k.os.trans h.os, k.tape.trans h.tape, k.output.trans h.output, Nat.le_trans h.size k.size, fun i hi hb => ?_⟩
  have h1 := h.block i hi hb
  rw [← h1]
  refine k.block i (Nat.lt_of_lt_of_le hi h.size) (hb.imp id fun hn => ?_)
  rintro ⟨cur, fz, e⟩
  exact hn ⟨cur, fz, by rw [← h1]; exact e⟩
theorem FrB.lower {base base' : Nat} {w w' : World} (h : FrB base w w') (hb : base' ≤ base) : FrB base' w w' :=
  ⟨h.os, h.tape, h.output, h.size, fun i hi hx => h.block i hi (hx.imp (fun q => by omega) id)⟩
/-- Where all that was there lies below base. -/
theorem Fr.thenB {a b c : World} {base : Nat} (h : Fr a b) (k : FrB base b c) (hb : a.heap.size ≤ base) : Fr a c :=
  ⟨k.os.trans h.os, k.tape.trans h.tape, k.output.trans h.output, Nat.le_trans h.size k.size, fun i hi _ => (k.block i (Nat.lt_of_lt_of_le hi h.size) (.inl (by omega))).trans (h.block i hi (by simp))⟩

theorem OwnBS.isB {w : World} {base : Nat} {v : Value} {xs : List Int} (h : OwnBS w base v xs) : ∃ g, v.ownBlock = some g ∧ base ≤ g ∧ isB w g := by
  obtain ⟨g, cap, rfl, ho⟩ := h
  rcases ho.1.2 with ⟨e, _⟩ | ⟨g', c', cur, e, hg, h1, h2⟩
  · simp at e
  · simp only [Value.slice.injEq, Option.some.injEq, Addr.mk.injEq, and_true] at e
    obtain ⟨rfl, -, rfl⟩ := e
    exact ⟨g, rfl, hg, cur, _, h1⟩
theorem OwnBS.frB {w w' : World} {base : Nat} {v : Value} {xs : List Int} (h : OwnBS w base v xs) (k : w.grownBy w' v.ownBlock) : FrB base w w' := by
  obtain ⟨g, e, hb, hg⟩ := h.isB
  refine ⟨k.os, k.tape, k.output, k.size, fun i hi hx => k.block i hi ?_⟩
  rw [e]
  intro q
  simp only [Option.some.injEq] at q
  subst q
  rcases hx with hx | hx
  · omega
  · exact hx hg

theorem ReadsB.take {w : World} {ao : Option Addr} {xs : List Int} (h : ReadsB w ao xs) (k : Nat) : ReadsB w ao (xs.take k) := by
  refine ⟨by have := h.len; simp; omega, fun x hx => h.bd x (List.mem_of_mem_take hx), fun i hi => ?_⟩
  simp only [List.length_take] at hi
  obtain ⟨b, off, e, hc⟩ := h.at_ i (by omega)
  refine ⟨b, off, e, fun j hj => ?_⟩
  simp only [List.length_take] at hj
  rw [hc j (by omega)]
  simp [List.getD, show j < k by omega]
theorem ownB_cap {w : World} {base g n cap : Nat} {xs : List Int} (h : OwnB w base (.slice (some ⟨g, 0, none⟩) n cap) xs) : n = xs.length ∧ n ≤ cap := by
  rcases h.1.2 with ⟨e, _⟩ | ⟨g', c', cur, e, _, _, h4, _⟩
  · simp at e
  · simp only [Value.slice.injEq] at e
    obtain ⟨-, rfl, rfl⟩ := e
    exact ⟨rfl, h4⟩
/-- '[]byte{..}' -/
theorem ownB_lit (w : World) (xs : List Int) (hl : xs.length ≤ 4294967296) (hb : ∀ x ∈ xs, U8 x) : OwnBS (w.alloc (.cells (xs.map (Value.int .u8)).toArray 5)) w.heap.size (.slice (some ⟨w.heap.size, 0, none⟩) xs.length xs.length) xs :=
  ⟨w.heap.size, xs.length, rfl, ⟨by simp, .inr ⟨w.heap.size, xs.length, _, rfl, Nat.le_refl _, heap_alloc_new w _, Nat.le_refl _, by unfold maxLen; omega, by simp, by rw [Nat.mul_one]; exact List.take_of_length_le (by simp)⟩⟩, hl, hb⟩
/-- '[]byte{}' -/
theorem ownB_new (w : World) : OwnBS (w.alloc (.cells #[] 5)) w.heap.size (.slice (some ⟨w.heap.size, 0, none⟩) 0 0) [] := ownB_empty w _ (Nat.le_refl _)

/-- What PutNumber answers. -/
def putA (n : Int) : List Int := if inB 0 4398046511103 n then putL n else []

end Go.Proofs.YthehhiccfnhinaaGreatDoor
/-
  The bytes of one event, by the specification: l3Fields, l3Has, l3Event.
-/
namespace Go.Proofs.YthehhiccfnhinaaGreatDoor
open Go.RowKit

theorem I64.small {x : Int} (h : 0 ≤ x ∧ x ≤ 65535) : I64 x := ⟨by omega, by omega⟩

/-- '[]int64{..}' -/
theorem own_lit (w : World) (xs : List Int) (hl : xs.length ≤ 4294967296) (hb : ∀ x ∈ xs, I64 x) : OwnS (w.alloc (.cells (xs.map (Value.int .i64)).toArray 2)) w.heap.size (.slice (some ⟨w.heap.size, 0, none⟩) xs.length xs.length) xs :=
  ⟨w.heap.size, xs.length, rfl, ⟨by simp, .inr ⟨w.heap.size, xs.length, _, rfl, Nat.le_refl _, heap_alloc_new w _, Nat.le_refl _, by unfold maxLen; omega, by simp, by rw [Nat.mul_one]; exact List.take_of_length_le (by simp)⟩⟩, hl, hb⟩

/-- The fields' numbers. -/
def flds (e : Ev) : List Int := [e.o, e.w, e.l, e.s, e.f, e.t]
theorem flds_at (e : Ev) (j : Nat) (h : j < 6) : (flds e).getD j 0 = e.at (j + 2) := by
  rcases (by omega : j = 0 ∨ j = 1 ∨ j = 2 ∨ j = 3 ∨ j = 4 ∨ j = 5) with rfl | rfl | rfl | rfl | rfl | rfl <;> rfl

/-- The numbers that are kept of an event: its Kind, its Gor, those of its first i fields that it has. -/
def nums (e : Ev) (i : Nat) : List Int := e.k :: e.g :: ((List.range i).filter fun j => hasB e.k (2 ^ j)).map fun j => e.at (j + 2)
theorem nums_yes (e : Ev) (i : Nat) (h : hasB e.k (2 ^ i) = true) : nums e (i + 1) = nums e i ++ [e.at (i + 2)] := by
  simp [nums, List.range_succ, List.filter_append, h]
theorem nums_no (e : Ev) (i : Nat) (h : hasB e.k (2 ^ i) = false) : nums e (i + 1) = nums e i := by
  simp [nums, List.range_succ, List.filter_append, h]
theorem nums_len (e : Ev) (i : Nat) : (nums e i).length ≤ i + 2 := by
  have := List.length_filter_le (fun j => hasB e.k (2 ^ j)) (List.range i)
  simp [nums] at this ⊢
  omega
theorem nums_mem (e : Ev) (i : Nat) (x : Int) (h : x ∈ nums e i) : ∃ j, x = e.at j := by
  simp only [nums, List.mem_cons, List.mem_map] at h
  rcases h with rfl | rfl | ⟨j, -, rfl⟩
  · exact ⟨0, rfl⟩
  · exact ⟨1, rfl⟩
  · exact ⟨j + 2, rfl⟩
theorem nums_ev (e : Ev) : (nums e 6).flatMap putL = evL e := by
  rw [nums, evL, numsL, offs, offF, ← List.range_eq_range']
  simp only [List.flatMap_cons, List.flatMap_map]
  rfl
theorem flat_take (L : List Int) (t : Nat) (h : t < L.length) : ((L.take t).flatMap putL) ++ putL L[t] = (L.take (t + 1)).flatMap putL := by
  rw [List.take_succ_eq_append_getElem h, List.flatMap_append]
  simp
theorem flat_len (L : List Int) : (L.flatMap putL).length ≤ L.length * 6 := by
  induction L with
  | nil => simp
  | cons x L ih =>
    have := (putL_len x).2
    rw [List.flatMap_cons, List.length_append, List.length_cons]
    omega

end Go.Proofs.YthehhiccfnhinaaGreatDoor
/-
  One event at a place, by the specification: l3Read.
-/
namespace Go.Proofs.YthehhiccfnhinaaGreatDoor
open Go.RowKit

/-- An event of its Kind, its Gor and six numbers. -/
def evOf (k g : Int) (f : List Int) : Ev := ⟨k, g, f.getD 0 0, f.getD 1 0, f.getD 2 0, f.getD 3 0, f.getD 4 0, f.getD 5 0⟩
theorem evOf_put (k g : Int) (f : List Int) (i : Nat) (n : Int) (hi : i < 6) (hf : f.length = 6) : (evOf k g f).put (i + 2) n = evOf k g (f.set i n) := by
  match f, hf with
  | [a, b, c, d, e, h], _ =>
    rcases (by omega : i = 0 ∨ i = 1 ∨ i = 2 ∨ i = 3 ∨ i = 4 ∨ i = 5) with rfl | rfl | rfl | rfl | rfl | rfl <;> rfl
theorem offF_yes (k : Int) (i : Nat) (hi : i < 6) (h : hasB k (2 ^ i) = true) : offF k i = (i + 2) :: offF k (i + 1) := by
  have e : 6 - i = (6 - (i + 1)) + 1 := by omega
  rw [offF, e, List.range'_succ, List.filter_cons_of_pos (by simpa using h)]
  rfl
theorem offF_no (k : Int) (i : Nat) (hi : i < 6) (h : hasB k (2 ^ i) = false) : offF k i = offF k (i + 1) := by
  have e : 6 - i = (6 - (i + 1)) + 1 := by omega
  rw [offF, e, List.range'_succ, List.filter_cons_of_neg (by simp [h])]
  rfl
theorem offF_end (k : Int) : offF k 6 = [] := rfl

/-- The reading so far: the fields from the i-th on come from the place p. -/
def RE (bs : List Int) (k : Int) (q : Nat) (i p : Nat) (g : Int) (f : List Int) : Prop := rdSeq bs (offF k i) p (evOf k g f) = rdSeq bs (offs k) q (ev0 k) ∧ f.length = 6 ∧ ∀ x ∈ f, I64 x
theorem RE.start {bs : List Int} {k : Int} {q p : Nat} {g : Int} (h : rdN bs q = some (g, p)) : RE bs k q 0 p g [0, 0, 0, 0, 0, 0] := by
  refine ⟨?_, rfl, ?_⟩
  · rw [offs, rdSeq, h]; rfl
  · intro x hx; simp at hx; subst hx; exact ⟨by decide, by decide⟩
theorem RE.no {bs : List Int} {k : Int} {q i p : Nat} {g : Int} {f : List Int} (h : RE bs k q i p g f) (hi : i < 6) (hh : hasB k (2 ^ i) = false) : RE bs k q (i + 1) p g f := by
  refine ⟨?_, h.2⟩
  rw [← h.1, offF_no k i hi hh]
theorem RE.yes {bs : List Int} {k : Int} {q i p p' : Nat} {g n : Int} {f : List Int} (h : RE bs k q i p g f) (hi : i < 6) (hh : hasB k (2 ^ i) = true) (hr : rdN bs p = some (n, p')) (hn : I64 n) : RE bs k q (i + 1) p' g (f.set i n) := by
  refine ⟨?_, by rw [List.length_set]; exact h.2.1, fun x hx => ?_⟩
  · rw [← h.1, offF_yes k i hi hh, rdSeq, hr]
    simp only []
    rw [evOf_put k g f i n hi h.2.1]
  · rcases List.mem_or_eq_of_mem_set hx with hx | rfl
    · exact h.2.2 x hx
    · exact hn
theorem RE.stop {bs : List Int} {k : Int} {q i p : Nat} {g : Int} {f : List Int} (h : RE bs k q i p g f) (hi : i < 6) (hh : hasB k (2 ^ i) = true) (hr : rdN bs p = none) : rdSeq bs (offs k) q (ev0 k) = none := by
  rw [← h.1, offF_yes k i hi hh, rdSeq, hr]
theorem RE.fin {bs : List Int} {k : Int} {q p : Nat} {g : Int} {f : List Int} (h : RE bs k q 6 p g f) : rdSeq bs (offs k) q (ev0 k) = some (evOf k g f, p) := by
  rw [← h.1, offF_end]; rfl

/-- An event stored over another one. -/
theorem EvB.set8 {w : World} {b : Nat} {e0 : Ev} (h : EvB w b e0) (e : Ev) : EvB ((((((((w.setCell ⟨b, 0, none⟩ (.int .i64 e.k)).setCell ⟨b, 1, none⟩ (.int .i64 e.g)).setCell ⟨b, 2, none⟩ (.int .i64 e.o)).setCell ⟨b, 3, none⟩ (.int .i64 e.w)).setCell ⟨b, 4, none⟩ (.int .i64 e.l)).setCell ⟨b, 5, none⟩ (.int .i64 e.s)).setCell ⟨b, 6, none⟩ (.int .i64 e.f)).setCell ⟨b, 7, none⟩ (.int .i64 e.t)) b e :=
  (((((((h.setK e.k).setG e.g).setO e.o).setW e.w).setL e.l).setS e.s).setF e.f).setT e.t
theorem grown_st (w : World) (g o : Nat) (v : Value) : w.grownBy (w.setCell ⟨g, o, none⟩ v) (some g) :=
  ⟨rfl, rfl, rfl, by simp, fun k _ hk => heap_setCell_other w ⟨g, o, none⟩ k v (fun e => hk (by simp [e]))⟩
theorem grown_tw {a b c : World} {row : Option Nat} (h : a.grownBy b row) (k : b.grownBy c row) : a.grownBy c row :=
  ⟨k.os.trans h.os, k.tape.trans h.tape, k.output.trans h.output, Nat.le_trans h.size k.size, fun i hi hne => (k.block i (Nat.lt_of_lt_of_le hi h.size) hne).trans (h.block i hi hne)⟩
theorem grown_st8 (w : World) (r : Nat) (v0 v1 v2 v3 v4 v5 v6 v7 : Value) :
    w.grownBy ((((((((w.setCell ⟨r, 0, none⟩ v0).setCell ⟨r, 1, none⟩ v1).setCell ⟨r, 2, none⟩ v2).setCell ⟨r, 3, none⟩ v3).setCell ⟨r, 4, none⟩ v4).setCell ⟨r, 5, none⟩ v5).setCell ⟨r, 6, none⟩ v6).setCell ⟨r, 7, none⟩ v7) (some r) :=
  grown_tw (grown_tw (grown_tw (grown_tw (grown_tw (grown_tw (grown_tw (grown_st _ r 0 _) (grown_st _ r 1 _)) (grown_st _ r 2 _)) (grown_st _ r 3 _)) (grown_st _ r 4 _)) (grown_st _ r 5 _)) (grown_st _ r 6 _)) (grown_st _ r 7 _)

theorem ownI_st {w : World} {base g cap n : Nat} {xs : List Int} (h : OwnI w base (.slice (some ⟨g, 0, none⟩) n cap) xs) (hn : n = xs.length) (j : Nat) (x : Int) (hx : I64 x) :
    OwnI (w.setCell ⟨g, j, none⟩ (.int .i64 x)) base (.slice (some ⟨g, 0, none⟩) n cap) (xs.set j x) ∧ w.grownBy (w.setCell ⟨g, j, none⟩ (.int .i64 x)) (some g) := by
  subst hn
  have hst := h.1.stored j (.int .i64 x)
  refine ⟨⟨?_, by simpa using h.2.1, fun y hy => ?_⟩, hst.2⟩
  · have e : (xs.set j x).map (Value.int .i64) = (xs.map (Value.int .i64)).set j (.int .i64 x) := by rw [List.map_set]
    rw [e, List.length_set]
    exact hst.1
  · rcases List.mem_or_eq_of_mem_set hy with hy | rfl
    · exact h.2.2 y hy
    · exact hx

/-- What l3Read answers. -/
def ReadC (bs : List Int) (p : Nat) (w : World) (x : Ending) (w' : World) : Prop :=
  Fr w w' ∧ ((∃ e q, rdEv bs p = .ok (e, q) ∧ x = .returned (.tuple #[.agg #[.int .i64 e.k, .int .i64 e.g, .int .i64 e.o, .int .i64 e.w, .int .i64 e.l, .int .i64 e.s, .int .i64 e.f, .int .i64 e.t], .int .i64 (q : Int), .int .i64 0])) ∨
    (∃ c y, rdEv bs p = .error c ∧ (c = 2 ∨ c = 3) ∧ x = .returned (.tuple #[.agg #[.int .i64 0, .int .i64 0, .int .i64 0, .int .i64 0, .int .i64 0, .int .i64 0, .int .i64 0, .int .i64 0], .int .i64 y, .int .i64 c])))

theorem rdEv_no {bs : List Int} {p : Nat} (h : rdN bs p = none) : rdEv bs p = .error 2 := by rw [rdEv, h]
theorem rdEv_kind {bs : List Int} {p q : Nat} {k : Int} (h : rdN bs p = some (k, q)) (hk : inB 1 22 k = false) : rdEv bs p = .error 3 := by
  rw [rdEv, h]; simp [hk]
theorem rdEv_seq {bs : List Int} {p q : Nat} {k : Int} (h : rdN bs p = some (k, q)) (hk : inB 1 22 k = true) (hs : rdSeq bs (offs k) q (ev0 k) = none) : rdEv bs p = .error 2 := by
  rw [rdEv, h]; simp [hk, hs]
theorem rdEv_fin {bs : List Int} {p q r : Nat} {k : Int} {e : Ev} (h : rdN bs p = some (k, q)) (hk : inB 1 22 k = true) (hs : rdSeq bs (offs k) q (ev0 k) = some (e, r)) : rdEv bs p = if evOk e then .ok (e, r) else .error 3 := by
  rw [rdEv, h]; simp [hk, hs]
theorem rdSeq_gor {bs : List Int} {q : Nat} {k : Int} (h : rdN bs q = none) : rdSeq bs (offs k) q (ev0 k) = none := by rw [offs, rdSeq, h]

end Go.Proofs.YthehhiccfnhinaaGreatDoor
