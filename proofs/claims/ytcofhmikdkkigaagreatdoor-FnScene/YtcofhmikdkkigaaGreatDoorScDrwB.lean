/-
  The drawing of scenes and events: l4DrawBoth, DrawDone.
-/
import Derived.Test.YtcofhmikdkkigaaGreatDoorScDrwA
import Derived.Test.YtcofhmikdkkigaaGreatDoorPfBO
import Derived.Deep.Cut
namespace Go.Proofs.YtcofhmikdkkigaaGreatDoor
open Go.RowKit

/-- In the midst of the draw: the cursor in g, the scene in sb, the event in eb, room for both answers in r2, r3. -/
structure DBo (w : World) (g r2 r3 sb eb : Nat) (s : Sv) (m : Scn) (e : Ev) (B : Nat → Prop) (u : World) : Prop where
  cur : Cur u g
  gro : w.grownBy u (some g)
  gl : g < w.heap.size
  sc : ScK u sb s
  ev : EvB u eb e
  k2 : ScK u r2 ⟨0, none, 0, 0, none, 0, 0, none, 0, 0, none, 0, 0⟩
  k3 : EvB u r3 ⟨0, 0, 0, 0, 0, 0, 0, 0⟩
  scr : ScR B u s m
  i1 : w.heap.size ≤ r2 ∧ r2 < r3 ∧ r3 < sb ∧ sb < eb
  bB : ∀ b, B b → w.heap.size ≤ b ∧ b < u.heap.size ∧ b ≠ sb ∧ b ≠ eb ∧ b ≠ r2 ∧ b ≠ r3
section
variable {w u u' : World} {g r2 r3 sb eb : Nat} {s : Sv} {m : Scn} {e e' : Ev} {B : Nat → Prop}
theorem DBo.draw (h : DBo w g r2 r3 sb eb s m e B u) (c : Cur u' g) (k : u.grownBy u' (some g)) : DBo w g r2 r3 sb eb s m e B u' := by
  have h1 := h.gl
  have h2 := h.i1
  have hz := k.size
  exact ⟨c, grown_trans h.gro k, h.gl, h.sc.keep k (by simp only [ne_eq, Option.some.injEq]; omega), h.ev.keep k (by simp only [ne_eq, Option.some.injEq]; omega), h.k2.keep k (by simp only [ne_eq, Option.some.injEq]; omega), h.k3.keep k (by simp only [ne_eq, Option.some.injEq]; omega), h.scr.keep k (fun j hj => by cases hj; exact fun q => by have := (h.bB _ q).1; omega), h.i1, fun b q => ⟨(h.bB b q).1, by have := (h.bB b q).2.1; omega, (h.bB b q).2.2⟩⟩
/-- The event is written. -/
theorem DBo.wrote (h : DBo w g r2 r3 sb eb s m e B u) (k : u.grownBy u' (some eb)) (he : EvB u' eb e') : DBo w g r2 r3 sb eb s m e' B u' := by
  have h1 := h.gl
  have h2 := h.i1
  have hz := k.size
  exact ⟨h.cur.other k (fun j hj => by simp only [Option.some.injEq] at hj; omega), grown_then h.gro k (fun j hj => by simp only [Option.some.injEq] at hj; omega), h.gl, h.sc.keep k (by simp only [ne_eq, Option.some.injEq]; omega), he, h.k2.keep k (by simp only [ne_eq, Option.some.injEq]; omega), h.k3.keep k (by simp only [ne_eq, Option.some.injEq]; omega), h.scr.keep k (fun j hj => by cases hj; exact fun q => (h.bB _ q).2.2.2.1 rfl), h.i1, fun b q => ⟨(h.bB b q).1, by have := (h.bB b q).2.1; omega, (h.bB b q).2.2⟩⟩
theorem DBo.fin {u1 : World} (h : DBo w g r2 r3 sb eb s m e B u) (k : u.grownBy u1 (some r2)) (k' : u1.grownBy u' (some r3)) : ScR B u' s m ∧ (∀ b, B b → w.heap.size ≤ b ∧ b < u'.heap.size) ∧ Cur u' g ∧ w.grownBy u' (some g) := by
  have h1 := h.gl
  have h2 := h.i1
  have hz := k.size
  have hz' := k'.size
  refine ⟨(h.scr.keep k (fun j hj => by cases hj; exact fun q => (h.bB _ q).2.2.2.2.1 rfl)).keep k' (fun j hj => by cases hj; exact fun q => (h.bB _ q).2.2.2.2.2 rfl), fun b q => ⟨(h.bB b q).1, by have := (h.bB b q).2.1; omega⟩, (h.cur.other k (fun j hj => by simp only [Option.some.injEq] at hj; omega)).other k' (fun j hj => by simp only [Option.some.injEq] at hj; omega), grown_then (grown_then h.gro k (fun j hj => by simp only [Option.some.injEq] at hj; omega)) k' (fun j hj => by simp only [Option.some.injEq] at hj; omega)⟩
theorem ev_put8 (h : EvB u eb e) (e' : Ev) : EvB ((((((((u.setCell ⟨eb, 0, none⟩ (.int .i64 e'.k)).setCell ⟨eb, 1, none⟩ (.int .i64 e'.g)).setCell ⟨eb, 2, none⟩ (.int .i64 e'.o)).setCell ⟨eb, 3, none⟩ (.int .i64 e'.w)).setCell ⟨eb, 4, none⟩ (.int .i64 e'.l)).setCell ⟨eb, 5, none⟩ (.int .i64 e'.s)).setCell ⟨eb, 6, none⟩ (.int .i64 e'.f)).setCell ⟨eb, 7, none⟩ (.int .i64 e'.t)) eb e' :=
  (((((((h.setK e'.k).setG e'.g).setO e'.o).setW e'.w).setL e'.l).setS e'.s).setF e'.f).setT e'.t
end

set_option maxRecDepth 20000 in
set_option maxHeartbeats 4000000 in
theorem l4DrawBoth_any (g : Nat) (w : World) (hc : Cur w g) :
    Calls Tryz.prog 50 #[.pointer (some ⟨g, 0, none⟩)] w fun x w' => ∃ (s : Sv) (m : Scn) (e : Ev) (B : Nat → Prop), x = .returned (.tuple #[.agg #[.int .i64 s.g, .slice s.lo s.ll s.lc, .slice s.co s.cl s.cc, .slice s.no s.nl s.nc, .slice s.oo s.ol s.oc], .agg #[.int .i64 e.k, .int .i64 e.g, .int .i64 e.o, .int .i64 e.w, .int .i64 e.l, .int .i64 e.s, .int .i64 e.f, .int .i64 e.t]]) ∧ EvI e ∧ ScR B w' s m ∧ (∀ b, B b → w.heap.size ≤ b ∧ b < w'.heap.size) ∧ Cur w' g ∧ w.grownBy w' (some g) := by
  have hgl := hc.lt
  have fa := (Fr.alloc w (.cells #[.int .i64 0, .slice none 0 0, .slice none 0 0, .slice none 0 0, .slice none 0 0] 29)).trans (Fr.alloc _ (.cells #[.int .i64 0, .int .i64 0, .int .i64 0, .int .i64 0, .int .i64 0, .int .i64 0, .int .i64 0, .int .i64 0] 31))
  have Z2 := (ScK.new w ⟨0, none, 0, 0, none, 0, 0, none, 0, 0, none, 0, 0⟩).fr (Fr.alloc _ (.cells #[.int .i64 0, .int .i64 0, .int .i64 0, .int .i64 0, .int .i64 0, .int .i64 0, .int .i64 0, .int .i64 0] 31))
  have Z3 := EvB.new (w.alloc (.cells #[.int .i64 0, .slice none 0 0, .slice none 0 0, .slice none 0 0, .slice none 0 0] 29)) ⟨0, 0, 0, 0, 0, 0, 0, 0⟩
  simp only [World.size_alloc] at Z2 Z3
  have hz : ((w.alloc (.cells #[.int .i64 0, .slice none 0 0, .slice none 0 0, .slice none 0 0, .slice none 0 0] 29)).alloc (.cells #[.int .i64 0, .int .i64 0, .int .i64 0, .int .i64 0, .int .i64 0, .int .i64 0, .int .i64 0, .int .i64 0] 31)).heap.size = w.heap.size + 2 := by simp
  go_enter Tryz.func50, Tryz.ntmps50
  go_wp2_with fail
  obtain ⟨W, hW⟩ : ∃ W, W = (w.alloc (.cells #[.int .i64 0, .slice none 0 0, .slice none 0 0, .slice none 0 0, .slice none 0 0] 29)).alloc (.cells #[.int .i64 0, .int .i64 0, .int .i64 0, .int .i64 0, .int .i64 0, .int .i64 0, .int .i64 0, .int .i64 0] 31) := ⟨_, rfl⟩
  rw [← hW] at fa Z2 Z3 hz ⊢
  clear hW
  have cW := hc.fr fa
  refine (l4DrawAny_any g W cW).mono ?_
  rintro x u1 ⟨⟨sg, lo, ll, lc, co, cl, cc, no, nl, nc, oo, ol, oc⟩, m, B, rfl, S1, B1, c1, g1⟩
  have K2 := Z2.keep g1 (by simp only [ne_eq, Option.some.injEq]; omega)
  have K3 := Z3.keep g1 (by simp only [ne_eq, Option.some.injEq]; omega)
  have fA := Fr.alloc u1 (.cells #[.int .i64 sg, .slice lo ll lc, .slice co cl cc, .slice no nl nc, .slice oo ol oc] 29)
  have kA := ScK.new u1 ⟨sg, lo, ll, lc, co, cl, cc, no, nl, nc, oo, ol, oc⟩
  simp only at kA
  have hz1 := g1.size
  clear Z2 Z3
  go_wp2_with fail
  obtain ⟨U1, hU⟩ : ∃ U, U = u1.alloc (.cells #[.int .i64 sg, .slice lo ll lc, .slice co cl cc, .slice no nl nc, .slice oo ol oc] 29) := ⟨_, rfl⟩
  have hzU : U1.heap.size = u1.heap.size + 1 := by rw [hU]; simp
  rw [← hU] at fA kA ⊢
  clear hU
  refine (l2Draw_any g U1 (c1.fr fA)).mono ?_
  rintro x u2 ⟨⟨k, gr, o, wi, l, sz, f, t⟩, rfl, ie, c2, g2⟩
  have fE := Fr.alloc u2 (.cells #[.int .i64 k, .int .i64 gr, .int .i64 o, .int .i64 wi, .int .i64 l, .int .i64 sz, .int .i64 f, .int .i64 t] 31)
  have hz2 := g2.size
  have hzE : (u2.alloc (.cells #[.int .i64 k, .int .i64 gr, .int .i64 o, .int .i64 wi, .int .i64 l, .int .i64 sz, .int .i64 f, .int .i64 t] 31)).heap.size = u2.heap.size + 1 := by simp
  have hD : DBo w g w.heap.size (w.heap.size + 1) u1.heap.size u2.heap.size ⟨sg, lo, ll, lc, co, cl, cc, no, nl, nc, oo, ol, oc⟩ m ⟨k, gr, o, wi, l, sz, f, t⟩ B (u2.alloc (.cells #[.int .i64 k, .int .i64 gr, .int .i64 o, .int .i64 wi, .int .i64 l, .int .i64 sz, .int .i64 f, .int .i64 t] 31)) :=
    ⟨c2.fr fE, grown_trans fa.wide (grown_trans (grown_trans g1 fA.wide) (grown_trans g2 fE.wide)), hgl, (kA.keep g2 (by simp only [ne_eq, Option.some.injEq]; omega)).fr fE, EvB.new u2 ⟨k, gr, o, wi, l, sz, f, t⟩, ((K2.fr fA).keep g2 (by simp only [ne_eq, Option.some.injEq]; omega)).fr fE, ((K3.keep fA (by simp)).keep g2 (by simp only [ne_eq, Option.some.injEq]; omega)).keep fE (by simp), ((S1.fr fA).keep g2 (fun j hj => by cases hj; exact fun q => by have := (B1 _ q).1; omega)).fr fE, ⟨Nat.le_refl _, by omega, by omega, by omega⟩, fun b q => by have := B1 b q; exact ⟨by omega, by omega, by omega, by omega, by omega, by omega⟩⟩
  have HE : Hid (EvI ⟨k, gr, o, wi, l, sz, f, t⟩) := ie
  clear fE hzE fA kA hz1 hz2 hzU K2 K3 S1 B1 c1 c2 g1 g2 ie cW fa hz hc
  go_wp2_with fail
  obtain ⟨V, hV⟩ : ∃ V, V = u2.alloc (.cells #[.int .i64 k, .int .i64 gr, .int .i64 o, .int .i64 wi, .int .i64 l, .int .i64 sz, .int .i64 f, .int .i64 t] 31) := ⟨_, rfl⟩
  rw [← hV] at hD ⊢
  obtain ⟨sb, hsb⟩ : ∃ sb, sb = u1.heap.size := ⟨_, rfl⟩
  obtain ⟨eb, heb⟩ : ∃ eb, eb = u2.heap.size := ⟨_, rfl⟩
  rw [← hsb, ← heb] at hD ⊢
  clear hV hsb heb
  refine (l1Once_any g 2 V hD.cur).mono ?_
  rintro x u3 ⟨b, rfl, c3, k3⟩
  have hD := hD.draw c3 k3
  clear c3 k3
  obtain ⟨r2, hr2⟩ : ∃ r, r = w.heap.size := ⟨_, rfl⟩
  obtain ⟨r3, hr3⟩ : ∃ r, r = r2 + 1 := ⟨_, rfl⟩
  have hD : DBo w g r2 r3 sb eb ⟨sg, lo, ll, lc, co, cl, cc, no, nl, nc, oo, ol, oc⟩ m ⟨k, gr, o, wi, l, sz, f, t⟩ B u3 := by rw [hr3, hr2]; exact hD
  rw [← hr2, ← hr3]
  clear hr2 hr3
  have HGB : Hid (∀ u, w.heap.size ≤ u → ∀ b, B b → w.heap.size ≤ b → b ≠ g) := fun _ _ b _ q => by have := hD.gl; omega
  have HBW : Hid (∀ b, B b → w.heap.size ≤ b ∧ b ≠ g) := fun b q => ⟨(hD.bB b q).1, by have := (hD.bB b q).1; have := hD.gl; omega⟩
  clear HGB
  cases b
  · go_wp2_with fail
    refine (l1Once_any g 20 u3 hD.cur).mono ?_
    rintro x u5 ⟨b, rfl, c5, k5⟩
    have hD := hD.draw c5 k5
    clear c5 k5
    cases b
    · obtain ⟨s0, s1, s2, s3, s4⟩ := hD.sc.at
      obtain ⟨e0, e1, e2, e3, e4, e5, e6, e7⟩ := hD.ev.at
      obtain ⟨j0, j1, j2, j3, j4⟩ := hD.k2.at
      obtain ⟨i0, i1, i2, i3, i4, i5, i6, i7⟩ := hD.k3.at
      simp only at s0 s1 s2 s3 s4 e0 e1 e2 e3 e4 e5 e6 e7 j0 j1 j2 j3 j4 i0 i1 i2 i3 i4 i5 i6 i7
      have jf := fun i => hD.k2.free i
      have kf := fun i => hD.k3.free i
      have hfin := fun v0 v1 v2 v3 v4 x0 x1 x2 x3 x4 x5 x6 x7 => hD.fin (put5 _ r2 v0 v1 v2 v3 v4) (grown_trans (put8 _ r3 x0 x1 x2 x3 x4 x5 x6 x7) (Fr.drew _).wide)
      have q1 := hD.i1
      clear hD
      go_wp2_with fail
      go_region
      go_wp2_with fail
      refine bodyPost_ret (v := .tuple #[.agg #[.int .i64 sg, .slice lo ll lc, .slice co cl cc, .slice no nl nc, .slice oo ol oc], .agg #[.int .i64 k, .int .i64 gr, .int .i64 o, .int .i64 wi, .int .i64 l, .int .i64 sz, .int .i64 f, .int .i64 t]]) (by simp [results, Tryz.results50, go_sem, j0, j1, j2, j3, j4, i0, i1, i2, i3, i4, i5, i6, i7]) rfl ⟨⟨sg, lo, ll, lc, co, cl, cc, no, nl, nc, oo, ol, oc⟩, m, ⟨k, gr, o, wi, l, sz, f, t⟩, B, rfl, HE.out, hfin _ _ _ _ _ _ _ _ _ _ _ _ _⟩
    · go_wp2_with fail
      refine (l2DrawAny_any g u5 hD.cur).mono ?_
      rintro x u6 ⟨⟨k2, gr2, o2, wi2, l2, sz2, f2, t2⟩, rfl, ie, c6, k6⟩
      have HE : Hid (EvI ⟨k2, gr2, o2, wi2, l2, sz2, f2, t2⟩) := ie
      have hD := hD.draw c6 k6
      clear c6 k6 ie
      obtain ⟨e0, e1, e2, e3, e4, e5, e6, e7⟩ := hD.ev.at
      simp only at e0 e1 e2 e3 e4 e5 e6 e7
      have ef := fun i => hD.ev.free i
      have hN := hD.wrote (put8 _ eb (.int .i64 k2) (.int .i64 gr2) (.int .i64 o2) (.int .i64 wi2) (.int .i64 l2) (.int .i64 sz2) (.int .i64 f2) (.int .i64 t2)) (ev_put8 hD.ev ⟨k2, gr2, o2, wi2, l2, sz2, f2, t2⟩)
      clear hD
      go_upto_region 7 with fail
      obtain ⟨V6, hV⟩ : ∃ V, V = (((((((u6.setCell ⟨eb, 0, none⟩ (.int .i64 k2)).setCell ⟨eb, 1, none⟩ (.int .i64 gr2)).setCell ⟨eb, 2, none⟩ (.int .i64 o2)).setCell ⟨eb, 3, none⟩ (.int .i64 wi2)).setCell ⟨eb, 4, none⟩ (.int .i64 l2)).setCell ⟨eb, 5, none⟩ (.int .i64 sz2)).setCell ⟨eb, 6, none⟩ (.int .i64 f2)).setCell ⟨eb, 7, none⟩ (.int .i64 t2) := ⟨_, rfl⟩
      rw [← hV] at hN ⊢
      clear hV e0 e1 e2 e3 e4 e5 e6 e7 ef
      have hD := hN
      clear hN
      obtain ⟨s0, s1, s2, s3, s4⟩ := hD.sc.at
      obtain ⟨e0, e1, e2, e3, e4, e5, e6, e7⟩ := hD.ev.at
      obtain ⟨j0, j1, j2, j3, j4⟩ := hD.k2.at
      obtain ⟨i0, i1, i2, i3, i4, i5, i6, i7⟩ := hD.k3.at
      simp only at s0 s1 s2 s3 s4 e0 e1 e2 e3 e4 e5 e6 e7 j0 j1 j2 j3 j4 i0 i1 i2 i3 i4 i5 i6 i7
      have jf := fun i => hD.k2.free i
      have kf := fun i => hD.k3.free i
      have hfin := fun v0 v1 v2 v3 v4 x0 x1 x2 x3 x4 x5 x6 x7 => hD.fin (put5 _ r2 v0 v1 v2 v3 v4) (grown_trans (put8 _ r3 x0 x1 x2 x3 x4 x5 x6 x7) (Fr.drew _).wide)
      have q1 := hD.i1
      clear hD
      go_wp2_with fail
      go_region
      go_wp2_with fail
      refine bodyPost_ret (v := .tuple #[.agg #[.int .i64 sg, .slice lo ll lc, .slice co cl cc, .slice no nl nc, .slice oo ol oc], .agg #[.int .i64 k2, .int .i64 gr2, .int .i64 o2, .int .i64 wi2, .int .i64 l2, .int .i64 sz2, .int .i64 f2, .int .i64 t2]]) (by simp [results, Tryz.results50, go_sem, j0, j1, j2, j3, j4, i0, i1, i2, i3, i4, i5, i6, i7]) rfl ⟨⟨sg, lo, ll, lc, co, cl, cc, no, nl, nc, oo, ol, oc⟩, m, ⟨k2, gr2, o2, wi2, l2, sz2, f2, t2⟩, B, rfl, HE.out, hfin _ _ _ _ _ _ _ _ _ _ _ _ _⟩
  · obtain ⟨s0, s1, s2, s3, s4⟩ := hD.sc.at
    simp only at s0 s1 s2 s3 s4
    go_wp2_with fail
    refine (l5Next_any g ⟨sg, lo, ll, lc, co, cl, cc, no, nl, nc, oo, ol, oc⟩ m u3 hD.cur (fun b q => ⟨(hD.bB b q).2.1, (HBW.out b q).2⟩) hD.scr).mono ?_
    rintro x u4 ⟨⟨k', gr', o', wi', l', sz', f', t'⟩, rfl, ie, c4, k4⟩
    have HE : Hid (EvI ⟨k', gr', o', wi', l', sz', f', t'⟩) := ie
    have hD := hD.draw c4 k4
    clear c4 k4 ie s0 s1 s2 s3 s4
    obtain ⟨e0, e1, e2, e3, e4, e5, e6, e7⟩ := hD.ev.at
    simp only at e0 e1 e2 e3 e4 e5 e6 e7
    have ef := fun i => hD.ev.free i
    have hN := hD.wrote (put8 _ eb (.int .i64 k') (.int .i64 gr') (.int .i64 o') (.int .i64 wi') (.int .i64 l') (.int .i64 sz') (.int .i64 f') (.int .i64 t')) (ev_put8 hD.ev ⟨k', gr', o', wi', l', sz', f', t'⟩)
    clear hD
    go_wp2_with fail
    obtain ⟨V4, hV⟩ : ∃ V, V = (((((((u4.setCell ⟨eb, 0, none⟩ (.int .i64 k')).setCell ⟨eb, 1, none⟩ (.int .i64 gr')).setCell ⟨eb, 2, none⟩ (.int .i64 o')).setCell ⟨eb, 3, none⟩ (.int .i64 wi')).setCell ⟨eb, 4, none⟩ (.int .i64 l')).setCell ⟨eb, 5, none⟩ (.int .i64 sz')).setCell ⟨eb, 6, none⟩ (.int .i64 f')).setCell ⟨eb, 7, none⟩ (.int .i64 t') := ⟨_, rfl⟩
    rw [← hV] at hN ⊢
    clear hV e0 e1 e2 e3 e4 e5 e6 e7 ef
    have hD := hN
    clear hN
    refine (l1Once_any g 20 V4 hD.cur).mono ?_
    rintro x u5 ⟨b, rfl, c5, k5⟩
    have hD := hD.draw c5 k5
    clear c5 k5
    cases b
    · obtain ⟨s0, s1, s2, s3, s4⟩ := hD.sc.at
      obtain ⟨e0, e1, e2, e3, e4, e5, e6, e7⟩ := hD.ev.at
      obtain ⟨j0, j1, j2, j3, j4⟩ := hD.k2.at
      obtain ⟨i0, i1, i2, i3, i4, i5, i6, i7⟩ := hD.k3.at
      simp only at s0 s1 s2 s3 s4 e0 e1 e2 e3 e4 e5 e6 e7 j0 j1 j2 j3 j4 i0 i1 i2 i3 i4 i5 i6 i7
      have jf := fun i => hD.k2.free i
      have kf := fun i => hD.k3.free i
      have hfin := fun v0 v1 v2 v3 v4 x0 x1 x2 x3 x4 x5 x6 x7 => hD.fin (put5 _ r2 v0 v1 v2 v3 v4) (grown_trans (put8 _ r3 x0 x1 x2 x3 x4 x5 x6 x7) (Fr.drew _).wide)
      have q1 := hD.i1
      clear hD
      go_wp2_with fail
      go_region
      go_wp2_with fail
      refine bodyPost_ret (v := .tuple #[.agg #[.int .i64 sg, .slice lo ll lc, .slice co cl cc, .slice no nl nc, .slice oo ol oc], .agg #[.int .i64 k', .int .i64 gr', .int .i64 o', .int .i64 wi', .int .i64 l', .int .i64 sz', .int .i64 f', .int .i64 t']]) (by simp [results, Tryz.results50, go_sem, j0, j1, j2, j3, j4, i0, i1, i2, i3, i4, i5, i6, i7]) rfl ⟨⟨sg, lo, ll, lc, co, cl, cc, no, nl, nc, oo, ol, oc⟩, m, ⟨k', gr', o', wi', l', sz', f', t'⟩, B, rfl, HE.out, hfin _ _ _ _ _ _ _ _ _ _ _ _ _⟩
    · go_wp2_with fail
      refine (l2DrawAny_any g u5 hD.cur).mono ?_
      rintro x u6 ⟨⟨k2, gr2, o2, wi2, l2, sz2, f2, t2⟩, rfl, ie, c6, k6⟩
      have HE : Hid (EvI ⟨k2, gr2, o2, wi2, l2, sz2, f2, t2⟩) := ie
      have hD := hD.draw c6 k6
      clear c6 k6 ie
      obtain ⟨e0, e1, e2, e3, e4, e5, e6, e7⟩ := hD.ev.at
      simp only at e0 e1 e2 e3 e4 e5 e6 e7
      have ef := fun i => hD.ev.free i
      have hN := hD.wrote (put8 _ eb (.int .i64 k2) (.int .i64 gr2) (.int .i64 o2) (.int .i64 wi2) (.int .i64 l2) (.int .i64 sz2) (.int .i64 f2) (.int .i64 t2)) (ev_put8 hD.ev ⟨k2, gr2, o2, wi2, l2, sz2, f2, t2⟩)
      clear hD
      go_upto_region 7 with fail
      obtain ⟨V6, hV⟩ : ∃ V, V = (((((((u6.setCell ⟨eb, 0, none⟩ (.int .i64 k2)).setCell ⟨eb, 1, none⟩ (.int .i64 gr2)).setCell ⟨eb, 2, none⟩ (.int .i64 o2)).setCell ⟨eb, 3, none⟩ (.int .i64 wi2)).setCell ⟨eb, 4, none⟩ (.int .i64 l2)).setCell ⟨eb, 5, none⟩ (.int .i64 sz2)).setCell ⟨eb, 6, none⟩ (.int .i64 f2)).setCell ⟨eb, 7, none⟩ (.int .i64 t2) := ⟨_, rfl⟩
      rw [← hV] at hN ⊢
      clear hV e0 e1 e2 e3 e4 e5 e6 e7 ef
      have hD := hN
      clear hN
      obtain ⟨s0, s1, s2, s3, s4⟩ := hD.sc.at
      obtain ⟨e0, e1, e2, e3, e4, e5, e6, e7⟩ := hD.ev.at
      obtain ⟨j0, j1, j2, j3, j4⟩ := hD.k2.at
      obtain ⟨i0, i1, i2, i3, i4, i5, i6, i7⟩ := hD.k3.at
      simp only at s0 s1 s2 s3 s4 e0 e1 e2 e3 e4 e5 e6 e7 j0 j1 j2 j3 j4 i0 i1 i2 i3 i4 i5 i6 i7
      have jf := fun i => hD.k2.free i
      have kf := fun i => hD.k3.free i
      have hfin := fun v0 v1 v2 v3 v4 x0 x1 x2 x3 x4 x5 x6 x7 => hD.fin (put5 _ r2 v0 v1 v2 v3 v4) (grown_trans (put8 _ r3 x0 x1 x2 x3 x4 x5 x6 x7) (Fr.drew _).wide)
      have q1 := hD.i1
      clear hD
      go_wp2_with fail
      go_region
      go_wp2_with fail
      refine bodyPost_ret (v := .tuple #[.agg #[.int .i64 sg, .slice lo ll lc, .slice co cl cc, .slice no nl nc, .slice oo ol oc], .agg #[.int .i64 k2, .int .i64 gr2, .int .i64 o2, .int .i64 wi2, .int .i64 l2, .int .i64 sz2, .int .i64 f2, .int .i64 t2]]) (by simp [results, Tryz.results50, go_sem, j0, j1, j2, j3, j4, i0, i1, i2, i3, i4, i5, i6, i7]) rfl ⟨⟨sg, lo, ll, lc, co, cl, cc, no, nl, nc, oo, ol, oc⟩, m, ⟨k2, gr2, o2, wi2, l2, sz2, f2, t2⟩, B, rfl, HE.out, hfin _ _ _ _ _ _ _ _ _ _ _ _ _⟩
end Go.Proofs.YtcofhmikdkkigaaGreatDoor
