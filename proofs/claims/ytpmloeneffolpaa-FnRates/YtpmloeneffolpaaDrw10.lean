/-
  The drawing of any configs, draws and numbers.
-/
import Derived.Test.YtpmloeneffolpaaDrw9
import Derived.Test.YtpmloeneffolpaaIntsTo
namespace Go.Proofs.Ytpmloeneffolpaa
open Go.RowKit

set_option maxRecDepth 20000 in
set_option maxHeartbeats 8000000 in
theorem l9DrawAny_any (g : Nat) (w : World) (hc : Cur w g) :
    Calls Try.prog 37 #[.pointer (some ⟨g, 0, none⟩)] w fun e w' => ∃ c : Cf, ∃ v xs, e = .returned (.tuple #[.agg #[.int .i64 c.r, .int .i64 c.s, .int .i64 c.b, .int .i64 c.m, .int .i64 c.q, .int .i64 c.c, .int .i64 c.w], v]) ∧ CfI c ∧ OwnS w' w.heap.size v xs ∧ xs.length ≤ 301 ∧ Cur w' g ∧ w.grownBy w' (some g) := by
  have hgl := hc.lt
  have f0 := Fr.alloc w (.cells #[.int .i64 0, .int .i64 0, .int .i64 0, .int .i64 0, .int .i64 0, .int .i64 0, .int .i64 0] 25)
  have C0 := hc.fr f0
  have G0 : w.grownBy (w.alloc (.cells #[.int .i64 0, .int .i64 0, .int .i64 0, .int .i64 0, .int .i64 0, .int .i64 0, .int .i64 0] 25)) (some g) := f0.wide
  have kz : CfZ (w.alloc (.cells #[.int .i64 0, .int .i64 0, .int .i64 0, .int .i64 0, .int .i64 0, .int .i64 0, .int .i64 0] 25)) w.heap.size #[.int .i64 0, .int .i64 0, .int .i64 0, .int .i64 0, .int .i64 0, .int .i64 0, .int .i64 0] := heap_alloc_new w _
  clear hc f0
  go_enter Try.func37, Try.ntmps37
  go_wp2_with fail
  refine (l9Draw_any _ _ C0).mono ?_
  rintro e u1 ⟨c, v, xs, rfl, hI, o1, l1, C1, g1⟩
  have G1 := grown_then G0 g1 (row_some (.inr rfl))
  replace kz := kz.keep g1 (by simp only [ne_eq, Option.some.injEq]; omega)
  have s1 := g1.size
  simp only [World.size_alloc] at s1 o1
  have o1l := o1
  have hvb := o1.blk
  obtain ⟨gg, cv, rfl, oo⟩ := o1
  have hg1 := (oo.1.lt gg rfl).1
  have hg2 := (oo.1.lt gg rfl).2
  clear oo C0 G0 g1
  obtain ⟨r, s, b, m, q, c, k⟩ := c
  obtain ⟨i0, i1, i2, i3, i4, i5, i6⟩ := hI
  have F2 := Fr.alloc u1 (.cells #[.int .i64 r, .int .i64 s, .int .i64 b, .int .i64 m, .int .i64 q, .int .i64 c, .int .i64 k] 25)
  have K2 : CfZ (u1.alloc (.cells #[.int .i64 r, .int .i64 s, .int .i64 b, .int .i64 m, .int .i64 q, .int .i64 c, .int .i64 k] 25)) u1.heap.size #[.int .i64 r, .int .i64 s, .int .i64 b, .int .i64 m, .int .i64 q, .int .i64 c, .int .i64 k] := heap_alloc_new u1 _
  replace kz := kz.fr F2
  have C2 := C1.fr F2
  have G2 := grown_then G1 F2 (by simp)
  have o2 := o1l.fr F2
  go_wp2_with fail
  refine (l1Once_any _ _ _ C2).mono ?_
  rintro e u3 ⟨bb, rfl, C3, g3⟩
  have G3 := grown_then G2 g3 (row_some (.inr rfl))
  replace kz := kz.keep g3 (by simp only [ne_eq, Option.some.injEq]; omega)
  have K3 := K2.keep g3 (by simp only [ne_eq, Option.some.injEq]; omega)
  have o3 := o2.keep g3 (by simp only [Value.ownBlock, ne_eq, Option.some.injEq]; omega)
  have s3 := g3.size
  simp only [World.size_alloc] at s3
  obtain ⟨E, hE⟩ : ∃ E, E = u1.heap.size := ⟨_, rfl⟩
  rw [← hE] at K3 s1 s3 hg2 ⊢
  clear hE F2 K2 C1 C2 G1 G2 o1l o2 g3
  have hne1 : ¬ (E = w.heap.size) := by omega
  cases bb
  · obtain ⟨k0, k1, k2, k3, k4, k5, k6⟩ := CfZ.at (c := ⟨r, s, b, m, q, c, k⟩) K3
    obtain ⟨j0, j1, j2, j3, j4, j5, j6⟩ := CfZ.at (c := ⟨0, 0, 0, 0, 0, 0, 0⟩) kz
    simp only [Nat.zero_add] at k0 k1 k2 k3 k4 k5 k6 j0 j1 j2 j3 j4 j5 j6
    have jf := fun i => kz.free i
    go_wp2_with fail
    have g7 := put7 u3 w.heap.size (.int .i64 r) (.int .i64 s) (.int .i64 b) (.int .i64 m) (.int .i64 q) (.int .i64 c) (.int .i64 k)
    refine bodyPost_ret (v := .tuple #[.agg #[.int .i64 r, .int .i64 s, .int .i64 b, .int .i64 m, .int .i64 q, .int .i64 c, .int .i64 k], .slice (some ⟨gg, 0, none⟩) xs.length cv]) (by simp [results, Try.results37, go_sem, j0, j1, j2, j3, j4, j5, j6]) rfl ⟨⟨r, s, b, m, q, c, k⟩, _, xs, rfl, ⟨i0, i1, i2, i3, i4, i5, i6⟩, (o3.keep g7 (by simp only [Value.ownBlock, ne_eq, Option.some.injEq]; omega)).lower (by omega), by omega, C3.other g7 (fun i hi => by cases hi; omega), grown_then G3 g7 (fun i hi => by cases hi; exact .inl (Nat.le_refl _))⟩
  go_wp2_with fail
  refine (l1Below_any _ _ _ C3).mono ?_
  rintro e u4 ⟨x, rfl, x0, x1, x2, C4, g4⟩
  have x1 := x1 (by omega)
  have G4 := grown_then G3 g4 (row_some (.inr rfl))
  replace kz := kz.keep g4 (by simp only [ne_eq, Option.some.injEq]; omega)
  have K4 := K3.keep g4 (by simp only [ne_eq, Option.some.injEq]; omega)
  have o4 := o3.keep g4 (by simp only [Value.ownBlock, ne_eq, Option.some.injEq]; omega)
  have s4 := g4.size
  clear C3 G3 K3 o3 g4 x2
  obtain rfl | rfl | rfl | rfl | rfl | rfl | rfl | rfl | rfl : x = 0 ∨ x = 1 ∨ x = 2 ∨ x = 3 ∨ x = 4 ∨ x = 5 ∨ x = 6 ∨ x = 7 ∨ x = 8 := by omega
  · go_wp2_with fail
    refine (l1Num_any _ _ _ C4 (by omega) (by omega)).mono ?_
    rintro e u5 ⟨y, rfl, iy, C5, g5⟩
    have G5 := grown_then G4 g5 (row_some (.inr rfl))
    replace kz := kz.keep g5 (by simp only [ne_eq, Option.some.injEq]; omega)
    have K5 := K4.keep g5 (by simp only [ne_eq, Option.some.injEq]; omega)
    have o5 := o4.keep g5 (by simp only [Value.ownBlock, ne_eq, Option.some.injEq]; omega)
    have s5 := g5.size
    clear C4 G4 K4 o4 g5
    obtain ⟨k0, k1, k2, k3, k4, k5, k6⟩ := CfZ.at (c := ⟨r, s, b, m, q, c, k⟩) K5
    obtain ⟨j0, j1, j2, j3, j4, j5, j6⟩ := CfZ.at (c := ⟨0, 0, 0, 0, 0, 0, 0⟩) kz
    simp only [Nat.zero_add] at k0 k1 k2 k3 k4 k5 k6 j0 j1 j2 j3 j4 j5 j6
    have jf := fun i => kz.free i
    have kf := fun i => K5.free i
    go_wp2_with fail
    have g6 := grown_set u5 E 0 (.int .i64 y)
    have g7 := put7 (u5.setCell ⟨E, 0, none⟩ (.int .i64 y)) w.heap.size (.int .i64 y) (.int .i64 s) (.int .i64 b) (.int .i64 m) (.int .i64 q) (.int .i64 c) (.int .i64 k)
    refine bodyPost_ret (v := .tuple #[.agg #[.int .i64 y, .int .i64 s, .int .i64 b, .int .i64 m, .int .i64 q, .int .i64 c, .int .i64 k], .slice (some ⟨gg, 0, none⟩) xs.length cv]) (by simp [results, Try.results37, go_sem, j0, j1, j2, j3, j4, j5, j6]) rfl ⟨⟨y, s, b, m, q, c, k⟩, _, xs, rfl, ⟨iy, i1, i2, i3, i4, i5, i6⟩, ((o5.keep g6 (by simp only [Value.ownBlock, ne_eq, Option.some.injEq]; omega)).keep g7 (by simp only [Value.ownBlock, ne_eq, Option.some.injEq]; omega)).lower (by omega), by omega, (C5.other g6 (fun i hi => by cases hi; omega)).other g7 (fun i hi => by cases hi; omega), grown_then (grown_then G5 g6 (fun i hi => by cases hi; exact .inl (by omega))) g7 (fun i hi => by cases hi; exact .inl (Nat.le_refl _))⟩
  · go_wp2_with fail
    refine (l1Num_any _ _ _ C4 (by omega) (by omega)).mono ?_
    rintro e u5 ⟨y, rfl, iy, C5, g5⟩
    have G5 := grown_then G4 g5 (row_some (.inr rfl))
    replace kz := kz.keep g5 (by simp only [ne_eq, Option.some.injEq]; omega)
    have K5 := K4.keep g5 (by simp only [ne_eq, Option.some.injEq]; omega)
    have o5 := o4.keep g5 (by simp only [Value.ownBlock, ne_eq, Option.some.injEq]; omega)
    have s5 := g5.size
    clear C4 G4 K4 o4 g5
    obtain ⟨k0, k1, k2, k3, k4, k5, k6⟩ := CfZ.at (c := ⟨r, s, b, m, q, c, k⟩) K5
    obtain ⟨j0, j1, j2, j3, j4, j5, j6⟩ := CfZ.at (c := ⟨0, 0, 0, 0, 0, 0, 0⟩) kz
    simp only [Nat.zero_add] at k0 k1 k2 k3 k4 k5 k6 j0 j1 j2 j3 j4 j5 j6
    have jf := fun i => kz.free i
    have kf := fun i => K5.free i
    go_wp2_with fail
    have g6 := grown_set u5 E 1 (.int .i64 y)
    have g7 := put7 (u5.setCell ⟨E, 1, none⟩ (.int .i64 y)) w.heap.size (.int .i64 r) (.int .i64 y) (.int .i64 b) (.int .i64 m) (.int .i64 q) (.int .i64 c) (.int .i64 k)
    refine bodyPost_ret (v := .tuple #[.agg #[.int .i64 r, .int .i64 y, .int .i64 b, .int .i64 m, .int .i64 q, .int .i64 c, .int .i64 k], .slice (some ⟨gg, 0, none⟩) xs.length cv]) (by simp [results, Try.results37, go_sem, j0, j1, j2, j3, j4, j5, j6]) rfl ⟨⟨r, y, b, m, q, c, k⟩, _, xs, rfl, ⟨i0, iy, i2, i3, i4, i5, i6⟩, ((o5.keep g6 (by simp only [Value.ownBlock, ne_eq, Option.some.injEq]; omega)).keep g7 (by simp only [Value.ownBlock, ne_eq, Option.some.injEq]; omega)).lower (by omega), by omega, (C5.other g6 (fun i hi => by cases hi; omega)).other g7 (fun i hi => by cases hi; omega), grown_then (grown_then G5 g6 (fun i hi => by cases hi; exact .inl (by omega))) g7 (fun i hi => by cases hi; exact .inl (Nat.le_refl _))⟩
  · go_wp2_with fail
    refine (l1Num_any _ _ _ C4 (by omega) (by omega)).mono ?_
    rintro e u5 ⟨y, rfl, iy, C5, g5⟩
    have G5 := grown_then G4 g5 (row_some (.inr rfl))
    replace kz := kz.keep g5 (by simp only [ne_eq, Option.some.injEq]; omega)
    have K5 := K4.keep g5 (by simp only [ne_eq, Option.some.injEq]; omega)
    have o5 := o4.keep g5 (by simp only [Value.ownBlock, ne_eq, Option.some.injEq]; omega)
    have s5 := g5.size
    clear C4 G4 K4 o4 g5
    obtain ⟨k0, k1, k2, k3, k4, k5, k6⟩ := CfZ.at (c := ⟨r, s, b, m, q, c, k⟩) K5
    obtain ⟨j0, j1, j2, j3, j4, j5, j6⟩ := CfZ.at (c := ⟨0, 0, 0, 0, 0, 0, 0⟩) kz
    simp only [Nat.zero_add] at k0 k1 k2 k3 k4 k5 k6 j0 j1 j2 j3 j4 j5 j6
    have jf := fun i => kz.free i
    have kf := fun i => K5.free i
    go_wp2_with fail
    have g6 := grown_set u5 E 2 (.int .i64 y)
    have g7 := put7 (u5.setCell ⟨E, 2, none⟩ (.int .i64 y)) w.heap.size (.int .i64 r) (.int .i64 s) (.int .i64 y) (.int .i64 m) (.int .i64 q) (.int .i64 c) (.int .i64 k)
    refine bodyPost_ret (v := .tuple #[.agg #[.int .i64 r, .int .i64 s, .int .i64 y, .int .i64 m, .int .i64 q, .int .i64 c, .int .i64 k], .slice (some ⟨gg, 0, none⟩) xs.length cv]) (by simp [results, Try.results37, go_sem, j0, j1, j2, j3, j4, j5, j6]) rfl ⟨⟨r, s, y, m, q, c, k⟩, _, xs, rfl, ⟨i0, i1, iy, i3, i4, i5, i6⟩, ((o5.keep g6 (by simp only [Value.ownBlock, ne_eq, Option.some.injEq]; omega)).keep g7 (by simp only [Value.ownBlock, ne_eq, Option.some.injEq]; omega)).lower (by omega), by omega, (C5.other g6 (fun i hi => by cases hi; omega)).other g7 (fun i hi => by cases hi; omega), grown_then (grown_then G5 g6 (fun i hi => by cases hi; exact .inl (by omega))) g7 (fun i hi => by cases hi; exact .inl (Nat.le_refl _))⟩
  · go_wp2_with fail
    refine (l1Num_any _ _ _ C4 (by omega) (by omega)).mono ?_
    rintro e u5 ⟨y, rfl, iy, C5, g5⟩
    have G5 := grown_then G4 g5 (row_some (.inr rfl))
    replace kz := kz.keep g5 (by simp only [ne_eq, Option.some.injEq]; omega)
    have K5 := K4.keep g5 (by simp only [ne_eq, Option.some.injEq]; omega)
    have o5 := o4.keep g5 (by simp only [Value.ownBlock, ne_eq, Option.some.injEq]; omega)
    have s5 := g5.size
    clear C4 G4 K4 o4 g5
    obtain ⟨k0, k1, k2, k3, k4, k5, k6⟩ := CfZ.at (c := ⟨r, s, b, m, q, c, k⟩) K5
    obtain ⟨j0, j1, j2, j3, j4, j5, j6⟩ := CfZ.at (c := ⟨0, 0, 0, 0, 0, 0, 0⟩) kz
    simp only [Nat.zero_add] at k0 k1 k2 k3 k4 k5 k6 j0 j1 j2 j3 j4 j5 j6
    have jf := fun i => kz.free i
    have kf := fun i => K5.free i
    go_wp2_with fail
    have g6 := grown_set u5 E 3 (.int .i64 y)
    have g7 := put7 (u5.setCell ⟨E, 3, none⟩ (.int .i64 y)) w.heap.size (.int .i64 r) (.int .i64 s) (.int .i64 b) (.int .i64 y) (.int .i64 q) (.int .i64 c) (.int .i64 k)
    refine bodyPost_ret (v := .tuple #[.agg #[.int .i64 r, .int .i64 s, .int .i64 b, .int .i64 y, .int .i64 q, .int .i64 c, .int .i64 k], .slice (some ⟨gg, 0, none⟩) xs.length cv]) (by simp [results, Try.results37, go_sem, j0, j1, j2, j3, j4, j5, j6]) rfl ⟨⟨r, s, b, y, q, c, k⟩, _, xs, rfl, ⟨i0, i1, i2, iy, i4, i5, i6⟩, ((o5.keep g6 (by simp only [Value.ownBlock, ne_eq, Option.some.injEq]; omega)).keep g7 (by simp only [Value.ownBlock, ne_eq, Option.some.injEq]; omega)).lower (by omega), by omega, (C5.other g6 (fun i hi => by cases hi; omega)).other g7 (fun i hi => by cases hi; omega), grown_then (grown_then G5 g6 (fun i hi => by cases hi; exact .inl (by omega))) g7 (fun i hi => by cases hi; exact .inl (Nat.le_refl _))⟩
  · go_wp2_with fail
    refine (l1Num_any _ _ _ C4 (by omega) (by omega)).mono ?_
    rintro e u5 ⟨y, rfl, iy, C5, g5⟩
    have G5 := grown_then G4 g5 (row_some (.inr rfl))
    replace kz := kz.keep g5 (by simp only [ne_eq, Option.some.injEq]; omega)
    have K5 := K4.keep g5 (by simp only [ne_eq, Option.some.injEq]; omega)
    have o5 := o4.keep g5 (by simp only [Value.ownBlock, ne_eq, Option.some.injEq]; omega)
    have s5 := g5.size
    clear C4 G4 K4 o4 g5
    obtain ⟨k0, k1, k2, k3, k4, k5, k6⟩ := CfZ.at (c := ⟨r, s, b, m, q, c, k⟩) K5
    obtain ⟨j0, j1, j2, j3, j4, j5, j6⟩ := CfZ.at (c := ⟨0, 0, 0, 0, 0, 0, 0⟩) kz
    simp only [Nat.zero_add] at k0 k1 k2 k3 k4 k5 k6 j0 j1 j2 j3 j4 j5 j6
    have jf := fun i => kz.free i
    have kf := fun i => K5.free i
    go_wp2_with fail
    have g6 := grown_set u5 E 4 (.int .i64 y)
    have g7 := put7 (u5.setCell ⟨E, 4, none⟩ (.int .i64 y)) w.heap.size (.int .i64 r) (.int .i64 s) (.int .i64 b) (.int .i64 m) (.int .i64 y) (.int .i64 c) (.int .i64 k)
    refine bodyPost_ret (v := .tuple #[.agg #[.int .i64 r, .int .i64 s, .int .i64 b, .int .i64 m, .int .i64 y, .int .i64 c, .int .i64 k], .slice (some ⟨gg, 0, none⟩) xs.length cv]) (by simp [results, Try.results37, go_sem, j0, j1, j2, j3, j4, j5, j6]) rfl ⟨⟨r, s, b, m, y, c, k⟩, _, xs, rfl, ⟨i0, i1, i2, i3, iy, i5, i6⟩, ((o5.keep g6 (by simp only [Value.ownBlock, ne_eq, Option.some.injEq]; omega)).keep g7 (by simp only [Value.ownBlock, ne_eq, Option.some.injEq]; omega)).lower (by omega), by omega, (C5.other g6 (fun i hi => by cases hi; omega)).other g7 (fun i hi => by cases hi; omega), grown_then (grown_then G5 g6 (fun i hi => by cases hi; exact .inl (by omega))) g7 (fun i hi => by cases hi; exact .inl (Nat.le_refl _))⟩
  · go_wp2_with fail
    refine (l1Num_any _ _ _ C4 (by omega) (by omega)).mono ?_
    rintro e u5 ⟨y, rfl, iy, C5, g5⟩
    have G5 := grown_then G4 g5 (row_some (.inr rfl))
    replace kz := kz.keep g5 (by simp only [ne_eq, Option.some.injEq]; omega)
    have K5 := K4.keep g5 (by simp only [ne_eq, Option.some.injEq]; omega)
    have o5 := o4.keep g5 (by simp only [Value.ownBlock, ne_eq, Option.some.injEq]; omega)
    have s5 := g5.size
    clear C4 G4 K4 o4 g5
    obtain ⟨k0, k1, k2, k3, k4, k5, k6⟩ := CfZ.at (c := ⟨r, s, b, m, q, c, k⟩) K5
    obtain ⟨j0, j1, j2, j3, j4, j5, j6⟩ := CfZ.at (c := ⟨0, 0, 0, 0, 0, 0, 0⟩) kz
    simp only [Nat.zero_add] at k0 k1 k2 k3 k4 k5 k6 j0 j1 j2 j3 j4 j5 j6
    have jf := fun i => kz.free i
    have kf := fun i => K5.free i
    go_wp2_with fail
    have g6 := grown_set u5 E 5 (.int .i64 y)
    have g7 := put7 (u5.setCell ⟨E, 5, none⟩ (.int .i64 y)) w.heap.size (.int .i64 r) (.int .i64 s) (.int .i64 b) (.int .i64 m) (.int .i64 q) (.int .i64 y) (.int .i64 k)
    refine bodyPost_ret (v := .tuple #[.agg #[.int .i64 r, .int .i64 s, .int .i64 b, .int .i64 m, .int .i64 q, .int .i64 y, .int .i64 k], .slice (some ⟨gg, 0, none⟩) xs.length cv]) (by simp [results, Try.results37, go_sem, j0, j1, j2, j3, j4, j5, j6]) rfl ⟨⟨r, s, b, m, q, y, k⟩, _, xs, rfl, ⟨i0, i1, i2, i3, i4, iy, i6⟩, ((o5.keep g6 (by simp only [Value.ownBlock, ne_eq, Option.some.injEq]; omega)).keep g7 (by simp only [Value.ownBlock, ne_eq, Option.some.injEq]; omega)).lower (by omega), by omega, (C5.other g6 (fun i hi => by cases hi; omega)).other g7 (fun i hi => by cases hi; omega), grown_then (grown_then G5 g6 (fun i hi => by cases hi; exact .inl (by omega))) g7 (fun i hi => by cases hi; exact .inl (Nat.le_refl _))⟩
  · go_wp2_with fail
    refine (l1Num_any _ _ _ C4 (by omega) (by omega)).mono ?_
    rintro e u5 ⟨y, rfl, iy, C5, g5⟩
    have G5 := grown_then G4 g5 (row_some (.inr rfl))
    replace kz := kz.keep g5 (by simp only [ne_eq, Option.some.injEq]; omega)
    have K5 := K4.keep g5 (by simp only [ne_eq, Option.some.injEq]; omega)
    have o5 := o4.keep g5 (by simp only [Value.ownBlock, ne_eq, Option.some.injEq]; omega)
    have s5 := g5.size
    clear C4 G4 K4 o4 g5
    obtain ⟨k0, k1, k2, k3, k4, k5, k6⟩ := CfZ.at (c := ⟨r, s, b, m, q, c, k⟩) K5
    obtain ⟨j0, j1, j2, j3, j4, j5, j6⟩ := CfZ.at (c := ⟨0, 0, 0, 0, 0, 0, 0⟩) kz
    simp only [Nat.zero_add] at k0 k1 k2 k3 k4 k5 k6 j0 j1 j2 j3 j4 j5 j6
    have jf := fun i => kz.free i
    have kf := fun i => K5.free i
    go_wp2_with fail
    have g6 := grown_set u5 E 6 (.int .i64 y)
    have g7 := put7 (u5.setCell ⟨E, 6, none⟩ (.int .i64 y)) w.heap.size (.int .i64 r) (.int .i64 s) (.int .i64 b) (.int .i64 m) (.int .i64 q) (.int .i64 c) (.int .i64 y)
    refine bodyPost_ret (v := .tuple #[.agg #[.int .i64 r, .int .i64 s, .int .i64 b, .int .i64 m, .int .i64 q, .int .i64 c, .int .i64 y], .slice (some ⟨gg, 0, none⟩) xs.length cv]) (by simp [results, Try.results37, go_sem, j0, j1, j2, j3, j4, j5, j6]) rfl ⟨⟨r, s, b, m, q, c, y⟩, _, xs, rfl, ⟨i0, i1, i2, i3, i4, i5, iy⟩, ((o5.keep g6 (by simp only [Value.ownBlock, ne_eq, Option.some.injEq]; omega)).keep g7 (by simp only [Value.ownBlock, ne_eq, Option.some.injEq]; omega)).lower (by omega), by omega, (C5.other g6 (fun i hi => by cases hi; omega)).other g7 (fun i hi => by cases hi; omega), grown_then (grown_then G5 g6 (fun i hi => by cases hi; exact .inl (by omega))) g7 (fun i hi => by cases hi; exact .inl (Nat.le_refl _))⟩
  · go_wp2_with fail
    refine (l1Num_any _ _ _ C4 (by omega) (by omega)).mono ?_
    rintro e u5 ⟨y, rfl, iy, C5, g5⟩
    have G5 := grown_then G4 g5 (row_some (.inr rfl))
    replace kz := kz.keep g5 (by simp only [ne_eq, Option.some.injEq]; omega)
    have K5 := K4.keep g5 (by simp only [ne_eq, Option.some.injEq]; omega)
    have o5 := o4.keep g5 (by simp only [Value.ownBlock, ne_eq, Option.some.injEq]; omega)
    have s5 := g5.size
    clear C4 G4 K4 o4 g5
    have hm := reads_one u5 y iy
    have F6 := Fr.alloc u5 (.cells #[.int .i64 y] 2)
    go_wp2_with (at_builtin; go_loud (refine appI _ rfl _ _ rfl (w.heap.size + 1) (.slice (some ⟨gg, 0, none⟩) xs.length cv) xs [y] rfl (o5.fr F6) _ _ _ rfl rfl (by simp) hm (by simp; omega) (by simp; omega) ?_; intro v1 u6 hv1 ha1; have kz6 := (kz.fr F6).keep ha1 (by simp only [Value.ownBlock, ne_eq, Option.some.injEq]; omega); have K6 := (K5.fr F6).keep ha1 (by simp only [Value.ownBlock, ne_eq, Option.some.injEq]; omega); obtain ⟨k0, k1, k2, k3, k4, k5, k6⟩ := CfZ.at (c := ⟨r, s, b, m, q, c, k⟩) K6; obtain ⟨j0, j1, j2, j3, j4, j5, j6⟩ := CfZ.at (c := ⟨0, 0, 0, 0, 0, 0, 0⟩) kz6; simp only [Nat.zero_add] at k0 k1 k2 k3 k4 k5 k6 j0 j1 j2 j3 j4 j5 j6; have jf := fun i => kz6.free i))
    have C6 := (C5.fr F6).other ha1 (fun i hi => by simp only [Value.ownBlock, Option.some.injEq] at hi; omega)
    have G6 := grown_then (grown_then G5 F6 (by simp)) ha1 (fun i hi => by simp only [Value.ownBlock, Option.some.injEq] at hi; exact .inl (by omega))
    have g7 := put7 u6 w.heap.size (.int .i64 r) (.int .i64 s) (.int .i64 b) (.int .i64 m) (.int .i64 q) (.int .i64 c) (.int .i64 k)
    obtain ⟨g', cv', rfl, oo⟩ := hv1
    have hnz : ¬ (g' = w.heap.size) := by have := (oo.1.lt g' rfl).1; omega
    refine bodyPost_ret (v := .tuple #[.agg #[.int .i64 r, .int .i64 s, .int .i64 b, .int .i64 m, .int .i64 q, .int .i64 c, .int .i64 k], _]) (by simp [results, Try.results37, go_sem, j0, j1, j2, j3, j4, j5, j6]) rfl ⟨⟨r, s, b, m, q, c, k⟩, _, xs ++ [y], rfl, ⟨i0, i1, i2, i3, i4, i5, i6⟩, (OwnS.keep ⟨g', cv', rfl, oo⟩ g7 (by simp only [Value.ownBlock, ne_eq, Option.some.injEq]; exact hnz)).lower (by omega), by simp; omega, C6.other g7 (fun i hi => by cases hi; omega), grown_then G6 g7 (fun i hi => by cases hi; exact .inl (Nat.le_refl _))⟩
  · obtain ⟨i0', hi, hz0, hz1, hz2⟩ := info_parts Try.info2
    go_wp2_with fail
    refine (l1Below_any _ _ _ C4).mono ?_
    rintro e u5 ⟨y, rfl, y0, y1, y2, C5, g5⟩
    have y1 := y1 (by omega)
    have G5 := grown_then G4 g5 (row_some (.inr rfl))
    replace kz := kz.keep g5 (by simp only [ne_eq, Option.some.injEq]; omega)
    have K5 := K4.keep g5 (by simp only [ne_eq, Option.some.injEq]; omega)
    have s5 := g5.size
    clear C4 G4 K4 o4 g5 y2
    obtain ⟨Y, rfl⟩ : ∃ Y : Nat, y = (Y : Int) := ⟨y.toNat, by omega⟩
    have hY : (300 : Int) + (Y : Int) = ((300 + Y : Nat) : Int) := by omega
    obtain ⟨M, hM⟩ : ∃ M, M = 300 + Y := ⟨_, rfl⟩
    rw [← hM] at hY
    have hM1 : M ≤ 301 := by omega
    clear hM y0 y1
    go_wp2_with (at_make; go_loud (refine wpList_make_full _ rfl _ _ 26 rfl (w.heap.size + 1) 2 i0' (.int .i64 0) 1 Try.underlying26 hi hz0 hz1 .i64 .i64 _ _ M rfl rfl rfl rfl (by rw [hz2]; omega) (by unfold maxLen; omega) (by omega) ?_; intro u6 hown hgrow; have kz6 := kz.fr hgrow; have K6 := K5.fr hgrow; obtain ⟨k0, k1, k2, k3, k4, k5, k6⟩ := CfZ.at (c := ⟨r, s, b, m, q, c, k⟩) K6; obtain ⟨j0, j1, j2, j3, j4, j5, j6⟩ := CfZ.at (c := ⟨0, 0, 0, 0, 0, 0, 0⟩) kz6; simp only [Nat.zero_add] at k0 k1 k2 k3 k4 k5 k6 j0 j1 j2 j3 j4 j5 j6; have jf := fun i => kz6.free i))
    have o6 : OwnS u6 (w.heap.size + 1) (.slice (some ⟨u5.heap.size, 0, none⟩) M M) (List.replicate M 0) := by
      refine ⟨u5.heap.size, M, by simp, ?_, by simp; omega, ?_⟩
      · simpa [toList_madeCells_one, Value.cells] using hown
      · intro x hx
        have := (List.mem_replicate.1 hx).2
        subst this
        exact ⟨by omega, by omega⟩
    have C6 := C5.fr hgrow
    have G6 := grown_then G5 hgrow (by simp)
    have g7 := put7 u6 w.heap.size (.int .i64 r) (.int .i64 s) (.int .i64 b) (.int .i64 m) (.int .i64 q) (.int .i64 c) (.int .i64 k)
    refine bodyPost_ret (v := .tuple #[.agg #[.int .i64 r, .int .i64 s, .int .i64 b, .int .i64 m, .int .i64 q, .int .i64 c, .int .i64 k], .slice (some ⟨u5.heap.size, 0, none⟩) M M]) (by simp [results, Try.results37, go_sem, j0, j1, j2, j3, j4, j5, j6]) rfl ⟨⟨r, s, b, m, q, c, k⟩, _, List.replicate M 0, rfl, ⟨i0, i1, i2, i3, i4, i5, i6⟩, (o6.keep g7 (by simp only [Value.ownBlock, ne_eq, Option.some.injEq]; omega)).lower (by omega), by simp; omega, C6.other g7 (fun i hi => by cases hi; omega), grown_then G6 g7 (fun i hi => by cases hi; exact .inl (Nat.le_refl _))⟩
end Go.Proofs.Ytpmloeneffolpaa
