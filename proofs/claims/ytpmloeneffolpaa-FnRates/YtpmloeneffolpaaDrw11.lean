/-
  The drawing of configs, draws and a number.
-/
import Derived.Test.YtpmloeneffolpaaDrw10
namespace Go.Proofs.Ytpmloeneffolpaa
open Go.RowKit

set_option maxRecDepth 20000 in
set_option maxHeartbeats 4000000 in
theorem l9DrawAt_any (g : Nat) (w : World) (hc : Cur w g) :
    Calls Try.prog 27 #[.pointer (some ⟨g, 0, none⟩)] w fun e w' => ∃ c : Cf, ∃ v xs n, e = .returned (.tuple #[.agg #[.int .i64 c.r, .int .i64 c.s, .int .i64 c.b, .int .i64 c.m, .int .i64 c.q, .int .i64 c.c, .int .i64 c.w], v, .int .i64 n]) ∧ CfI c ∧ I64 n ∧ OwnS w' w.heap.size v xs ∧ xs.length ≤ 301 ∧ Cur w' g ∧ w.grownBy w' (some g) := by
  have hgl := hc.lt
  have f0 := Fr.alloc w (.cells #[.int .i64 0, .int .i64 0, .int .i64 0, .int .i64 0, .int .i64 0, .int .i64 0, .int .i64 0] 25)
  have C0 := hc.fr f0
  have G0 : w.grownBy (w.alloc (.cells #[.int .i64 0, .int .i64 0, .int .i64 0, .int .i64 0, .int .i64 0, .int .i64 0, .int .i64 0] 25)) (some g) := f0.wide
  have kz : CfZ (w.alloc (.cells #[.int .i64 0, .int .i64 0, .int .i64 0, .int .i64 0, .int .i64 0, .int .i64 0, .int .i64 0] 25)) w.heap.size #[.int .i64 0, .int .i64 0, .int .i64 0, .int .i64 0, .int .i64 0, .int .i64 0, .int .i64 0] := heap_alloc_new w _
  clear hc f0
  go_enter Try.func27, Try.ntmps27
  go_wp2_with fail
  refine (l9DrawAny_any _ _ C0).mono ?_
  rintro e u1 ⟨c, v, xs, rfl, hI, o1, l1, C1, g1⟩
  have G1 := grown_then G0 g1 (row_some (.inr rfl))
  replace kz := kz.keep g1 (by simp only [ne_eq, Option.some.injEq]; omega)
  have s1 := g1.size
  simp only [World.size_alloc] at s1 o1
  obtain ⟨gg, cv, rfl, oo⟩ := o1
  have o1 : OwnS u1 (w.heap.size + 1) (.slice (some ⟨gg, 0, none⟩) xs.length cv) xs := ⟨gg, cv, rfl, oo⟩
  have hg1 := (oo.1.lt gg rfl).1
  have hg2 := (oo.1.lt gg rfl).2
  clear oo C0 G0 g1
  obtain ⟨r, s, b, m, q, c, k⟩ := c
  obtain ⟨i0, i1, i2, i3, i4, i5, i6⟩ := hI
  have F2 := Fr.alloc u1 (.cells #[.int .i64 r, .int .i64 s, .int .i64 b, .int .i64 m, .int .i64 q, .int .i64 c, .int .i64 k] 25)
  have K2 : CfZ (u1.alloc (.cells #[.int .i64 r, .int .i64 s, .int .i64 b, .int .i64 m, .int .i64 q, .int .i64 c, .int .i64 k] 25)) u1.heap.size #[.int .i64 r, .int .i64 s, .int .i64 b, .int .i64 m, .int .i64 q, .int .i64 c, .int .i64 k] := heap_alloc_new u1 _
  replace kz := kz.fr F2
  have C2 := C1.fr F2
  have G2 := grown_then G1 F2 (by simp)
  have o2 := o1.fr F2
  go_wp2_with fail
  refine (l1Below_any _ _ _ C2).mono ?_
  rintro e u3 ⟨n, rfl, n0, n1, n2, C3, g3⟩
  have n1 := n1 (by omega)
  have G3 := grown_then G2 g3 (row_some (.inr rfl))
  replace kz := kz.keep g3 (by simp only [ne_eq, Option.some.injEq]; omega)
  have K3 := K2.keep g3 (by simp only [ne_eq, Option.some.injEq]; omega)
  have o3 := o2.keep g3 (by simp only [Value.ownBlock, ne_eq, Option.some.injEq]; omega)
  have s3 := g3.size
  simp only [World.size_alloc] at s3
  obtain ⟨E, hE⟩ : ∃ E, E = u1.heap.size := ⟨_, rfl⟩
  rw [← hE] at K3 s1 s3 hg2 ⊢
  clear hE F2 K2 C1 C2 G1 G2 o1 o2 g3 n2
  have hne1 : ¬ (E = w.heap.size) := by omega
  go_wp2_with fail
  refine (l1Once_any _ _ _ C3).mono ?_
  rintro e u4 ⟨bb, rfl, C4, g4⟩
  have G4 := grown_then G3 g4 (row_some (.inr rfl))
  replace kz := kz.keep g4 (by simp only [ne_eq, Option.some.injEq]; omega)
  have K4 := K3.keep g4 (by simp only [ne_eq, Option.some.injEq]; omega)
  have o4 := o3.keep g4 (by simp only [Value.ownBlock, ne_eq, Option.some.injEq]; omega)
  have s4 := g4.size
  clear C3 G3 K3 o3 g4
  cases bb
  · obtain ⟨k0, k1, k2, k3, k4, k5, k6⟩ := CfZ.at (c := ⟨r, s, b, m, q, c, k⟩) K4
    obtain ⟨j0, j1, j2, j3, j4, j5, j6⟩ := CfZ.at (c := ⟨0, 0, 0, 0, 0, 0, 0⟩) kz
    simp only [Nat.zero_add] at k0 k1 k2 k3 k4 k5 k6 j0 j1 j2 j3 j4 j5 j6
    have jf := fun i => kz.free i
    go_wp2_with fail
    have g7 := put7 u4 w.heap.size (.int .i64 r) (.int .i64 s) (.int .i64 b) (.int .i64 m) (.int .i64 q) (.int .i64 c) (.int .i64 k)
    refine bodyPost_ret (v := .tuple #[.agg #[.int .i64 r, .int .i64 s, .int .i64 b, .int .i64 m, .int .i64 q, .int .i64 c, .int .i64 k], .slice (some ⟨gg, 0, none⟩) xs.length cv, .int .i64 n]) (by simp [results, Try.results27, go_sem, j0, j1, j2, j3, j4, j5, j6]) rfl ⟨⟨r, s, b, m, q, c, k⟩, _, xs, n, rfl, ⟨i0, i1, i2, i3, i4, i5, i6⟩, ⟨by omega, by omega⟩, (o4.keep g7 (by simp only [Value.ownBlock, ne_eq, Option.some.injEq]; omega)).lower (by omega), by omega, C4.other g7 (fun i hi => by cases hi; omega), grown_then G4 g7 (fun i hi => by cases hi; exact .inl (Nat.le_refl _))⟩
  go_wp2_with fail
  refine (l1Odd_any _ _ C4).mono ?_
  rintro e u5 ⟨x, rfl, ix, C5, g5⟩
  have G5 := grown_then G4 g5 (row_some (.inr rfl))
  replace kz := kz.keep g5 (by simp only [ne_eq, Option.some.injEq]; omega)
  have K5 := K4.keep g5 (by simp only [ne_eq, Option.some.injEq]; omega)
  have o5 := o4.keep g5 (by simp only [Value.ownBlock, ne_eq, Option.some.injEq]; omega)
  have s5 := g5.size
  clear C4 G4 K4 o4 g5
  have F6 := Fr.alloc u5 (.cells #[.int .i64 (-1), .int .i64 300, .int .i64 301, .int .i64 x] 2)
  have hx : (u5.alloc (.cells #[.int .i64 (-1), .int .i64 300, .int .i64 301, .int .i64 x] 2)).heap[u5.heap.size]? = some (.cells #[.int .i64 (-1), .int .i64 300, .int .i64 301, .int .i64 x] 2 (0, 0)) := heap_alloc_new u5 _
  replace kz := kz.fr F6
  have K6 := K5.fr F6
  have G6 := grown_then G5 F6 (by simp)
  have o6 := o5.fr F6
  go_wp2_with fail
  refine (l1Below_any _ _ _ (C5.fr F6)).mono ?_
  rintro e u7 ⟨y, rfl, y0, y1, y2, C7, g7⟩
  have y1 := y1 (by omega)
  have G7 := grown_then G6 g7 (row_some (.inr rfl))
  replace kz := kz.keep g7 (by simp only [ne_eq, Option.some.injEq]; omega)
  have K7 := K6.keep g7 (by simp only [ne_eq, Option.some.injEq]; omega)
  have o7 := o6.keep g7 (by simp only [Value.ownBlock, ne_eq, Option.some.injEq]; omega)
  have s7 := g7.size
  simp only [World.size_alloc] at s7
  have hx := (g7.block u5.heap.size (by simp only [World.size_alloc]; omega) (fun e => by cases e; omega)).trans hx
  have x0 : u7.cell? ⟨u5.heap.size, 0, none⟩ = some (.int .i64 (-1)) := cell_of_row _ _ 0 _ _ _ hx
  have x1 : u7.cell? ⟨u5.heap.size, 1, none⟩ = some (.int .i64 300) := cell_of_row _ _ 1 _ _ _ hx
  have x2 : u7.cell? ⟨u5.heap.size, 2, none⟩ = some (.int .i64 301) := cell_of_row _ _ 2 _ _ _ hx
  have x3 : u7.cell? ⟨u5.heap.size, 3, none⟩ = some (.int .i64 x) := cell_of_row _ _ 3 _ _ _ hx
  clear hx C5 G5 K5 o5 F6 K6 G6 o6 g7 y2
  obtain rfl | rfl | rfl | rfl : y = 0 ∨ y = 1 ∨ y = 2 ∨ y = 3 := by omega
  · obtain ⟨k0, k1, k2, k3, k4, k5, k6⟩ := CfZ.at (c := ⟨r, s, b, m, q, c, k⟩) K7
    obtain ⟨j0, j1, j2, j3, j4, j5, j6⟩ := CfZ.at (c := ⟨0, 0, 0, 0, 0, 0, 0⟩) kz
    simp only [Nat.zero_add] at k0 k1 k2 k3 k4 k5 k6 j0 j1 j2 j3 j4 j5 j6
    have jf := fun i => kz.free i
    go_wp2_with fail
    have g7 := put7 u7 w.heap.size (.int .i64 r) (.int .i64 s) (.int .i64 b) (.int .i64 m) (.int .i64 q) (.int .i64 c) (.int .i64 k)
    refine bodyPost_ret (v := .tuple #[.agg #[.int .i64 r, .int .i64 s, .int .i64 b, .int .i64 m, .int .i64 q, .int .i64 c, .int .i64 k], .slice (some ⟨gg, 0, none⟩) xs.length cv, .int .i64 (-1)]) (by simp [results, Try.results27, go_sem, j0, j1, j2, j3, j4, j5, j6]) rfl ⟨⟨r, s, b, m, q, c, k⟩, _, xs, (-1), rfl, ⟨i0, i1, i2, i3, i4, i5, i6⟩, ⟨by omega, by omega⟩, (o7.keep g7 (by simp only [Value.ownBlock, ne_eq, Option.some.injEq]; omega)).lower (by omega), by omega, C7.other g7 (fun i hi => by cases hi; omega), grown_then G7 g7 (fun i hi => by cases hi; exact .inl (Nat.le_refl _))⟩
  · obtain ⟨k0, k1, k2, k3, k4, k5, k6⟩ := CfZ.at (c := ⟨r, s, b, m, q, c, k⟩) K7
    obtain ⟨j0, j1, j2, j3, j4, j5, j6⟩ := CfZ.at (c := ⟨0, 0, 0, 0, 0, 0, 0⟩) kz
    simp only [Nat.zero_add] at k0 k1 k2 k3 k4 k5 k6 j0 j1 j2 j3 j4 j5 j6
    have jf := fun i => kz.free i
    go_wp2_with fail
    have g7 := put7 u7 w.heap.size (.int .i64 r) (.int .i64 s) (.int .i64 b) (.int .i64 m) (.int .i64 q) (.int .i64 c) (.int .i64 k)
    refine bodyPost_ret (v := .tuple #[.agg #[.int .i64 r, .int .i64 s, .int .i64 b, .int .i64 m, .int .i64 q, .int .i64 c, .int .i64 k], .slice (some ⟨gg, 0, none⟩) xs.length cv, .int .i64 300]) (by simp [results, Try.results27, go_sem, j0, j1, j2, j3, j4, j5, j6]) rfl ⟨⟨r, s, b, m, q, c, k⟩, _, xs, 300, rfl, ⟨i0, i1, i2, i3, i4, i5, i6⟩, ⟨by omega, by omega⟩, (o7.keep g7 (by simp only [Value.ownBlock, ne_eq, Option.some.injEq]; omega)).lower (by omega), by omega, C7.other g7 (fun i hi => by cases hi; omega), grown_then G7 g7 (fun i hi => by cases hi; exact .inl (Nat.le_refl _))⟩
  · obtain ⟨k0, k1, k2, k3, k4, k5, k6⟩ := CfZ.at (c := ⟨r, s, b, m, q, c, k⟩) K7
    obtain ⟨j0, j1, j2, j3, j4, j5, j6⟩ := CfZ.at (c := ⟨0, 0, 0, 0, 0, 0, 0⟩) kz
    simp only [Nat.zero_add] at k0 k1 k2 k3 k4 k5 k6 j0 j1 j2 j3 j4 j5 j6
    have jf := fun i => kz.free i
    go_wp2_with fail
    have g7 := put7 u7 w.heap.size (.int .i64 r) (.int .i64 s) (.int .i64 b) (.int .i64 m) (.int .i64 q) (.int .i64 c) (.int .i64 k)
    refine bodyPost_ret (v := .tuple #[.agg #[.int .i64 r, .int .i64 s, .int .i64 b, .int .i64 m, .int .i64 q, .int .i64 c, .int .i64 k], .slice (some ⟨gg, 0, none⟩) xs.length cv, .int .i64 301]) (by simp [results, Try.results27, go_sem, j0, j1, j2, j3, j4, j5, j6]) rfl ⟨⟨r, s, b, m, q, c, k⟩, _, xs, 301, rfl, ⟨i0, i1, i2, i3, i4, i5, i6⟩, ⟨by omega, by omega⟩, (o7.keep g7 (by simp only [Value.ownBlock, ne_eq, Option.some.injEq]; omega)).lower (by omega), by omega, C7.other g7 (fun i hi => by cases hi; omega), grown_then G7 g7 (fun i hi => by cases hi; exact .inl (Nat.le_refl _))⟩
  · obtain ⟨k0, k1, k2, k3, k4, k5, k6⟩ := CfZ.at (c := ⟨r, s, b, m, q, c, k⟩) K7
    obtain ⟨j0, j1, j2, j3, j4, j5, j6⟩ := CfZ.at (c := ⟨0, 0, 0, 0, 0, 0, 0⟩) kz
    simp only [Nat.zero_add] at k0 k1 k2 k3 k4 k5 k6 j0 j1 j2 j3 j4 j5 j6
    have jf := fun i => kz.free i
    go_wp2_with fail
    have g7 := put7 u7 w.heap.size (.int .i64 r) (.int .i64 s) (.int .i64 b) (.int .i64 m) (.int .i64 q) (.int .i64 c) (.int .i64 k)
    refine bodyPost_ret (v := .tuple #[.agg #[.int .i64 r, .int .i64 s, .int .i64 b, .int .i64 m, .int .i64 q, .int .i64 c, .int .i64 k], .slice (some ⟨gg, 0, none⟩) xs.length cv, .int .i64 x]) (by simp [results, Try.results27, go_sem, j0, j1, j2, j3, j4, j5, j6]) rfl ⟨⟨r, s, b, m, q, c, k⟩, _, xs, x, rfl, ⟨i0, i1, i2, i3, i4, i5, i6⟩, ix, (o7.keep g7 (by simp only [Value.ownBlock, ne_eq, Option.some.injEq]; omega)).lower (by omega), by omega, C7.other g7 (fun i hi => by cases hi; omega), grown_then G7 g7 (fun i hi => by cases hi; exact .inl (Nat.le_refl _))⟩

set_option maxRecDepth 20000 in
set_option maxHeartbeats 4000000 in
theorem drawOnAt_any (ao : Option Addr) (n cap : Nat) (w : World) (h : ByteRow w ao n) (hn : n ≤ 4294967296) :
    Calls Try.prog 9 #[.slice ao n cap] w fun e w' => ∃ c : Cf, ∃ v xs k, e = .returned (.tuple #[.agg #[.int .i64 c.r, .int .i64 c.s, .int .i64 c.b, .int .i64 c.m, .int .i64 c.q, .int .i64 c.c, .int .i64 c.w], v, .int .i64 k]) ∧ CfI c ∧ I64 k ∧ OwnS w' w.heap.size v xs ∧ xs.length ≤ 301 ∧ Fr w w' := by
  have f0 := Fr.alloc w (.cells #[.int .i64 0, .int .i64 0, .int .i64 0, .int .i64 0, .int .i64 0, .int .i64 0, .int .i64 0] 25)
  have h0 := h.fr f0
  have kz : CfZ (w.alloc (.cells #[.int .i64 0, .int .i64 0, .int .i64 0, .int .i64 0, .int .i64 0, .int .i64 0, .int .i64 0] 25)) w.heap.size #[.int .i64 0, .int .i64 0, .int .i64 0, .int .i64 0, .int .i64 0, .int .i64 0, .int .i64 0] := heap_alloc_new w _
  go_enter Try.func9, Try.ntmps9
  go_wp2_with fail
  refine (l1New_any _ _ _ _ h0 hn).mono ?_
  rintro e u1 ⟨rfl, C1, f1⟩
  simp only [World.size_alloc] at C1
  replace kz := kz.fr f1
  have s1 := f1.size
  simp only [World.size_alloc] at s1
  have C1l := C1.lt
  go_wp2_with fail
  refine (l9DrawAt_any _ _ C1).mono ?_
  rintro e u2 ⟨c, v, xs, N, rfl, hI, iN, o2, l2, C2, g2⟩
  replace kz := kz.keep g2 (by simp only [ne_eq, Option.some.injEq]; omega)
  have s2 := g2.size
  have o2 := o2.lower (show w.heap.size + 1 ≤ u1.heap.size by omega)
  have F2 := (f0.trans f1).then g2 (fun j hj => by cases hj; omega)
  obtain ⟨gg, cv, rfl, oo⟩ := o2
  have hg1 := (oo.1.lt gg rfl).1
  obtain ⟨r, s, b, m, q, c, k⟩ := c
  obtain ⟨j0, j1, j2, j3, j4, j5, j6⟩ := CfZ.at (c := ⟨0, 0, 0, 0, 0, 0, 0⟩) kz
  simp only [Nat.zero_add] at j0 j1 j2 j3 j4 j5 j6
  have jf := fun i => kz.free i
  go_wp2_with fail
  have g7 := put7 u2 w.heap.size (.int .i64 r) (.int .i64 s) (.int .i64 b) (.int .i64 m) (.int .i64 q) (.int .i64 c) (.int .i64 k)
  refine bodyPost_ret (v := .tuple #[.agg #[.int .i64 r, .int .i64 s, .int .i64 b, .int .i64 m, .int .i64 q, .int .i64 c, .int .i64 k], .slice (some ⟨gg, 0, none⟩) xs.length cv, .int .i64 N]) (by simp [results, Try.results9, go_sem, j0, j1, j2, j3, j4, j5, j6]) rfl ⟨⟨r, s, b, m, q, c, k⟩, _, xs, N, rfl, hI, iN, (OwnS.keep ⟨gg, cv, rfl, oo⟩ g7 (by simp only [Value.ownBlock, ne_eq, Option.some.injEq]; omega)).lower (by omega), l2, F2.then g7 (fun i hi => by cases hi; omega)⟩
end Go.Proofs.Ytpmloeneffolpaa
