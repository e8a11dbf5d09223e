/-
  Pack BM: EvDraw.
-/
import Derived.Test.YtcofhmikdkkigaaGreatDoorPfBL
import Derived.Test.YtcofhmikdkkigaaGreatDoorPfAI
import Derived.Test.YtcofhmikdkkigaaGreatDoorPfAN
namespace Go.Proofs.YtcofhmikdkkigaaGreatDoor
open Go.RowKit

set_option maxHeartbeats 400000 in
theorem l1From_any (g : Nat) (lo hi : Int) (w : World) (hc : Cur w g) (h1 : -1000000 ≤ lo) (h2 : lo ≤ hi) (h3 : hi ≤ 1000000) :
    Calls Tryz.prog 145 #[.pointer (some ⟨g, 0, none⟩), .int .i64 lo, .int .i64 hi] w fun e w' => ∃ x : Int, e = .returned (.int .i64 x) ∧ lo ≤ x ∧ x ≤ hi ∧ Cur w' g ∧ w.grownBy w' (some g) := by
  go_enter Tryz.func145, Tryz.ntmps145
  go_wp2_with fail
  refine (l1Below_any _ _ _ hc).mono ?_
  rintro e w1 ⟨x, rfl, x0, x1, x2, c1, k1⟩
  have x3 : x < hi - lo + 1 := x1 (by omega)
  clear x1
  go_wp2_with fail
  go_ret
  exact ⟨_, rfl, by omega, by omega, c1, k1⟩

structure DS (w0 : World) (g r b : Nat) (e : Ev) (wr : World) : Prop where
  cur : Cur wr g
  gro : w0.grownBy wr (some g)
  ev : EvB wr b e
  res : EvB wr r ⟨0, 0, 0, 0, 0, 0, 0, 0⟩
  gl : g < w0.heap.size
  rl : w0.heap.size ≤ r
  bl : r < b

theorem DS.draw {w0 wr w' : World} {g r b : Nat} {e : Ev} (h : DS w0 g r b e wr) (c : Cur w' g) (k : wr.grownBy w' (some g)) : DS w0 g r b e w' := by
  obtain ⟨h1, h2, h3, h4, h5, h6, h7⟩ := h
  exact ⟨c, grown_trans h2 k, h3.keep k (by simp; omega), h4.keep k (by simp; omega), h5, h6, h7⟩
theorem DS.fr {w0 wr w' : World} {g r b : Nat} {e : Ev} (h : DS w0 g r b e wr) (k : Fr wr w') : DS w0 g r b e w' := by
  obtain ⟨h1, h2, h3, h4, h5, h6, h7⟩ := h
  exact ⟨h1.fr k, grown_trans h2 k.wide, h3.keep k (by simp), h4.keep k (by simp), h5, h6, h7⟩
theorem DS.wrote {w0 wr w' : World} {g r b : Nat} {e e' : Ev} (h : DS w0 g r b e wr) (k : wr.grownBy w' (some b)) (hb : EvB w' b e') : DS w0 g r b e' w' := by
  obtain ⟨h1, h2, h3, h4, h5, h6, h7⟩ := h
  exact ⟨h1.other k (by intro j hj; simp only [Option.some.injEq] at hj; omega), grown_then h2 k (by intro j hj; simp only [Option.some.injEq] at hj; omega), hb, h4.keep k (by simp; omega), h5, h6, h7⟩
theorem DS.setK {w0 wr : World} {g r b : Nat} {k gr o wi l sz f t : Int} (h : DS w0 g r b ⟨k, gr, o, wi, l, sz, f, t⟩ wr) (x : Int) : DS w0 g r b ⟨x, gr, o, wi, l, sz, f, t⟩ (wr.setCell ⟨b, 0, none⟩ (.int .i64 x)) :=
  h.wrote (grown_set wr b 0 _) (h.ev.setK x)
theorem DS.setG {w0 wr : World} {g r b : Nat} {k gr o wi l sz f t : Int} (h : DS w0 g r b ⟨k, gr, o, wi, l, sz, f, t⟩ wr) (x : Int) : DS w0 g r b ⟨k, x, o, wi, l, sz, f, t⟩ (wr.setCell ⟨b, 1, none⟩ (.int .i64 x)) :=
  h.wrote (grown_set wr b 1 _) (h.ev.setG x)
theorem DS.setO {w0 wr : World} {g r b : Nat} {k gr o wi l sz f t : Int} (h : DS w0 g r b ⟨k, gr, o, wi, l, sz, f, t⟩ wr) (x : Int) : DS w0 g r b ⟨k, gr, x, wi, l, sz, f, t⟩ (wr.setCell ⟨b, 2, none⟩ (.int .i64 x)) :=
  h.wrote (grown_set wr b 2 _) (h.ev.setO x)
theorem DS.setW {w0 wr : World} {g r b : Nat} {k gr o wi l sz f t : Int} (h : DS w0 g r b ⟨k, gr, o, wi, l, sz, f, t⟩ wr) (x : Int) : DS w0 g r b ⟨k, gr, o, x, l, sz, f, t⟩ (wr.setCell ⟨b, 3, none⟩ (.int .i64 x)) :=
  h.wrote (grown_set wr b 3 _) (h.ev.setW x)
theorem DS.setL {w0 wr : World} {g r b : Nat} {k gr o wi l sz f t : Int} (h : DS w0 g r b ⟨k, gr, o, wi, l, sz, f, t⟩ wr) (x : Int) : DS w0 g r b ⟨k, gr, o, wi, x, sz, f, t⟩ (wr.setCell ⟨b, 4, none⟩ (.int .i64 x)) :=
  h.wrote (grown_set wr b 4 _) (h.ev.setL x)
theorem DS.setS {w0 wr : World} {g r b : Nat} {k gr o wi l sz f t : Int} (h : DS w0 g r b ⟨k, gr, o, wi, l, sz, f, t⟩ wr) (x : Int) : DS w0 g r b ⟨k, gr, o, wi, l, x, f, t⟩ (wr.setCell ⟨b, 5, none⟩ (.int .i64 x)) :=
  h.wrote (grown_set wr b 5 _) (h.ev.setS x)
theorem DS.setF {w0 wr : World} {g r b : Nat} {k gr o wi l sz f t : Int} (h : DS w0 g r b ⟨k, gr, o, wi, l, sz, f, t⟩ wr) (x : Int) : DS w0 g r b ⟨k, gr, o, wi, l, sz, x, t⟩ (wr.setCell ⟨b, 6, none⟩ (.int .i64 x)) :=
  h.wrote (grown_set wr b 6 _) (h.ev.setF x)
theorem DS.setT {w0 wr : World} {g r b : Nat} {k gr o wi l sz f t : Int} (h : DS w0 g r b ⟨k, gr, o, wi, l, sz, f, t⟩ wr) (x : Int) : DS w0 g r b ⟨k, gr, o, wi, l, sz, f, x⟩ (wr.setCell ⟨b, 7, none⟩ (.int .i64 x)) :=
  h.wrote (grown_set wr b 7 _) (h.ev.setT x)

theorem DS.fin {w0 wr w' : World} {g r b : Nat} {e : Ev} (h : DS w0 g r b e wr) (k : wr.grownBy w' (some r)) : Cur w' g ∧ w0.grownBy w' (some g) := by
  obtain ⟨h1, h2, h3, h4, h5, h6, h7⟩ := h
  exact ⟨h1.other k (by intro j hj; simp only [Option.some.injEq] at hj; omega), grown_then h2 k (by intro j hj; simp only [Option.some.injEq] at hj; omega)⟩

theorem has_ways (k : Int) (h0 : 1 ≤ k) (h1 : k ≤ 22) :
    (hasB k 1 = true ∧ hasB k 2 = false ∧ hasB k 4 = false ∧ hasB k 8 = false ∧ hasB k 16 = false ∧ hasB k 32 = false) ∨
    (hasB k 1 = true ∧ hasB k 2 = true ∧ hasB k 4 = false ∧ hasB k 8 = false ∧ hasB k 16 = false ∧ hasB k 32 = false) ∨
    (hasB k 1 = true ∧ hasB k 2 = false ∧ hasB k 4 = false ∧ hasB k 8 = true ∧ hasB k 16 = false ∧ hasB k 32 = false) ∨
    (hasB k 1 = false ∧ hasB k 2 = false ∧ hasB k 4 = true ∧ hasB k 8 = true ∧ hasB k 16 = false ∧ hasB k 32 = false) ∨
    (hasB k 1 = false ∧ hasB k 2 = false ∧ hasB k 4 = true ∧ hasB k 8 = true ∧ hasB k 16 = true ∧ hasB k 32 = true) := by
  obtain ⟨n, hn, rfl⟩ := kinds (inB_mk h0 h1)
  exact (by decide +kernel : ∀ n : Nat, n < 22 →
    (hasB ((n : Int) + 1) 1 = true ∧ hasB ((n : Int) + 1) 2 = false ∧ hasB ((n : Int) + 1) 4 = false ∧ hasB ((n : Int) + 1) 8 = false ∧ hasB ((n : Int) + 1) 16 = false ∧ hasB ((n : Int) + 1) 32 = false) ∨
    (hasB ((n : Int) + 1) 1 = true ∧ hasB ((n : Int) + 1) 2 = true ∧ hasB ((n : Int) + 1) 4 = false ∧ hasB ((n : Int) + 1) 8 = false ∧ hasB ((n : Int) + 1) 16 = false ∧ hasB ((n : Int) + 1) 32 = false) ∨
    (hasB ((n : Int) + 1) 1 = true ∧ hasB ((n : Int) + 1) 2 = false ∧ hasB ((n : Int) + 1) 4 = false ∧ hasB ((n : Int) + 1) 8 = true ∧ hasB ((n : Int) + 1) 16 = false ∧ hasB ((n : Int) + 1) 32 = false) ∨
    (hasB ((n : Int) + 1) 1 = false ∧ hasB ((n : Int) + 1) 2 = false ∧ hasB ((n : Int) + 1) 4 = true ∧ hasB ((n : Int) + 1) 8 = true ∧ hasB ((n : Int) + 1) 16 = false ∧ hasB ((n : Int) + 1) 32 = false) ∨
    (hasB ((n : Int) + 1) 1 = false ∧ hasB ((n : Int) + 1) 2 = false ∧ hasB ((n : Int) + 1) 4 = true ∧ hasB ((n : Int) + 1) 8 = true ∧ hasB ((n : Int) + 1) 16 = true ∧ hasB ((n : Int) + 1) 32 = true)) n hn
theorem size_in (k : Int) : 0 ≤ loV k ∧ loV k ≤ hiV k ∧ hiV k ≤ 64 := by
  unfold loV hiV
  repeat (split <;> try omega)

theorem put8 (w : World) (r : Nat) (v0 v1 v2 v3 v4 v5 v6 v7 : Value) :
    w.grownBy ((((((((w.setCell ⟨r, 0, none⟩ v0).setCell ⟨r, 1, none⟩ v1).setCell ⟨r, 2, none⟩ v2).setCell ⟨r, 3, none⟩ v3).setCell ⟨r, 4, none⟩ v4).setCell ⟨r, 5, none⟩ v5).setCell ⟨r, 6, none⟩ v6).setCell ⟨r, 7, none⟩ v7) (some r) :=
  grown_trans (grown_trans (grown_trans (grown_trans (grown_trans (grown_trans (grown_trans (grown_set _ r 0 _) (grown_set _ r 1 _)) (grown_set _ r 2 _)) (grown_set _ r 3 _)) (grown_set _ r 4 _)) (grown_set _ r 5 _)) (grown_set _ r 6 _)) (grown_set _ r 7 _)

set_option maxHeartbeats 4000000 in
theorem l2Draw_any (g : Nat) (w : World) (hc : Cur w g) :
    Calls Tryz.prog 91 #[.pointer (some ⟨g, 0, none⟩)] w fun x w' => ∃ e : Ev, x = .returned (.agg #[.int .i64 e.k, .int .i64 e.g, .int .i64 e.o, .int .i64 e.w, .int .i64 e.l, .int .i64 e.s, .int .i64 e.f, .int .i64 e.t]) ∧ EvI e ∧ Cur w' g ∧ w.grownBy w' (some g) := by
  have hgl := hc.lt
  go_enter Tryz.func91, Tryz.ntmps91
  have hr0 := EvB.new w ⟨0, 0, 0, 0, 0, 0, 0, 0⟩
  go_wp2_with fail
  refine (l1From_any _ _ _ _ (hc.fr (Fr.alloc _ _)) (by decide) (by decide) (by decide)).mono ?_
  rintro e w1 ⟨k, rfl, k0, k1, c1, g1⟩
  go_wp2_with fail
  refine (l1Below_any _ _ _ c1).mono ?_
  rintro e w2 ⟨gor, rfl, r0, -, r1, c2, g2⟩
  have h : DS w g w.heap.size w2.heap.size ⟨k, gor, 0, 0, 0, 0, 0, 0⟩ (w2.alloc (.cells #[.int .i64 k, .int .i64 gor, .int .i64 0, .int .i64 0, .int .i64 0, .int .i64 0, .int .i64 0, .int .i64 0] 31)) := by
    have ga := grown_trans g1 g2
    have hlt := (hr0.keep ga (by simp; omega)).lt
    exact ⟨c2.fr (Fr.alloc _ _), grown_then (grown_then (Fr.alloc w _).wide ga (row_some (.inr rfl))) (Fr.alloc _ _) (by simp), EvB.new _ ⟨k, gor, 0, 0, 0, 0, 0, 0⟩, (hr0.keep ga (by simp; omega)).keep (Fr.alloc _ _) (by simp), hgl, Nat.le_refl _, hlt⟩
  obtain ⟨r, hr⟩ : ∃ r, r = w.heap.size := ⟨_, rfl⟩
  simp only [← hr] at h ⊢
  clear hr hr0 c1 g1 c2 g2 hc hgl
  go_wp2_with fail
  refine (l1Once_any _ _ _ h.cur).mono ?_
  rintro e w3 ⟨once, rfl, c3, g3⟩
  have h0 := h.draw c3 g3
  clear h
  obtain ⟨b, hb⟩ : ∃ b, b = w2.heap.size := ⟨_, rfl⟩
  simp only [← hb] at h0 ⊢
  clear hb c3 g3 w2 w1
  have n0 : w3.cell? ⟨b, 0, none⟩ = some (.int .i64 k) := h0.ev.at.1
  cases once
  · have hw := has_ways k k0 k1
    rcases hw with ⟨p0, p1, p2, p3, p4, p5⟩ | ⟨p0, p1, p2, p3, p4, p5⟩ | ⟨p0, p1, p2, p3, p4, p5⟩ | ⟨p0, p1, p2, p3, p4, p5⟩ | ⟨p0, p1, p2, p3, p4, p5⟩
    · have hz := size_in k
      have t0 := fun w => l2Has_any k 1 w (by simp)
      simp only [p0] at t0
      have t1 := fun w => l2Has_any k 2 w (by simp)
      simp only [p1] at t1
      have t2 := fun w => l2Has_any k 4 w (by simp)
      simp only [p2] at t2
      have t3 := fun w => l2Has_any k 8 w (by simp)
      simp only [p3] at t3
      have t4 := fun w => l2Has_any k 16 w (by simp)
      simp only [p4] at t4
      have t5 := fun w => l2Has_any k 32 w (by simp)
      simp only [p5] at t5
      clear p0 p1 p2 p3 p4 p5
      have ts := fun w => l2Sizes_any k w
      obtain ⟨lo, elo⟩ : ∃ z, z = loV k := ⟨_, rfl⟩
      obtain ⟨hi, ehi⟩ : ∃ z, z = hiV k := ⟨_, rfl⟩
      simp only [← elo, ← ehi] at hz ts
      clear elo ehi
      obtain ⟨hz0, hz1, hz2⟩ := hz
      go_wp2_with fail
      refine (ts _).mono ?_
      rintro e y0 ⟨rfl, rfl⟩
      go_wp2_with fail
      refine (t0 _).mono ?_
      rintro e y1 ⟨rfl, f1⟩
      have h1 := h0.fr f1
      clear n0 f1 h0
      have n0 : y1.cell? ⟨b, 0, none⟩ = some (.int .i64 k) := h1.ev.at.1
      go_wp2_with fail
      refine (l1Below_any _ _ _ h1.cur).mono ?_
      rintro e y2 ⟨x2, rfl, a2, -, b2, c2, q2⟩
      have g2 := h1.draw c2 q2
      clear n0 c2 q2 h1
      have n0 : y2.cell? ⟨b, 0, none⟩ = some (.int .i64 k) := g2.ev.at.1
      have cc : y2.cell? ⟨b, 2, none⟩ = some (.int .i64 0) := g2.ev.at.2.2.1
      have zz := g2.ev.free 2
      have h2 := g2.setO x2
      clear g2
      go_wp2_with fail
      refine (t1 _).mono ?_
      rintro e y3 ⟨rfl, f3⟩
      have h3 := h2.fr f3
      clear n0 f3 h2 cc zz
      have n0 : y3.cell? ⟨b, 0, none⟩ = some (.int .i64 k) := h3.ev.at.1
      go_wp2_with fail
      refine (t2 _).mono ?_
      rintro e y4 ⟨rfl, f4⟩
      have h4 := h3.fr f4
      clear n0 f4 h3
      have n0 : y4.cell? ⟨b, 0, none⟩ = some (.int .i64 k) := h4.ev.at.1
      go_wp2_with fail
      refine (t3 _).mono ?_
      rintro e y5 ⟨rfl, f5⟩
      have h5 := h4.fr f5
      clear n0 f5 h4
      have n0 : y5.cell? ⟨b, 0, none⟩ = some (.int .i64 k) := h5.ev.at.1
      go_wp2_with fail
      refine (t4 _).mono ?_
      rintro e y6 ⟨rfl, f6⟩
      have h6 := h5.fr f6
      clear n0 f6 h5
      have n0 : y6.cell? ⟨b, 0, none⟩ = some (.int .i64 k) := h6.ev.at.1
      go_wp2_with fail
      refine (t5 _).mono ?_
      rintro e y7 ⟨rfl, f7⟩
      have h7 := h6.fr f7
      clear n0 f7 h6
      obtain ⟨e0, e1, e2, e3, e4, e5, e6, e7⟩ := h7.ev.at
      obtain ⟨u0, u1, u2, u3, u4, u5, u6, u7⟩ := h7.res.at
      have hbr := h7.bl
      have v0 := h7.res.free 0
      have v1 := h7.res.free 1
      have v2 := h7.res.free 2
      have v3 := h7.res.free 3
      have v4 := h7.res.free 4
      have v5 := h7.res.free 5
      have v6 := h7.res.free 6
      have v7 := h7.res.free 7
      simp only at e0 e1 e2 e3 e4 e5 e6 e7 u0 u1 u2 u3 u4 u5 u6 u7
      have hfin := fun v0 v1 v2 v3 v4 v5 v6 v7 => h7.fin (put8 _ r v0 v1 v2 v3 v4 v5 v6 v7)
      clear h7
      go_wp2_with fail
      refine bodyPost_ret (v := .agg #[.int .i64 k, .int .i64 gor, .int .i64 x2, .int .i64 0, .int .i64 0, .int .i64 0, .int .i64 0, .int .i64 0]) (by simp [results, Tryz.results91, go_sem, u0, u1, u2, u3, u4, u5, u6, u7]) rfl ⟨⟨k, gor, x2, 0, 0, 0, 0, 0⟩, rfl, ?_, (hfin _ _ _ _ _ _ _ _).1, (hfin _ _ _ _ _ _ _ _).2⟩
      refine ⟨⟨?_, ?_⟩, ⟨?_, ?_⟩, ⟨?_, ?_⟩, ⟨?_, ?_⟩, ⟨?_, ?_⟩, ⟨?_, ?_⟩, ⟨?_, ?_⟩, ⟨?_, ?_⟩⟩ <;> simp only <;> omega
    · have hz := size_in k
      have t0 := fun w => l2Has_any k 1 w (by simp)
      simp only [p0] at t0
      have t1 := fun w => l2Has_any k 2 w (by simp)
      simp only [p1] at t1
      have t2 := fun w => l2Has_any k 4 w (by simp)
      simp only [p2] at t2
      have t3 := fun w => l2Has_any k 8 w (by simp)
      simp only [p3] at t3
      have t4 := fun w => l2Has_any k 16 w (by simp)
      simp only [p4] at t4
      have t5 := fun w => l2Has_any k 32 w (by simp)
      simp only [p5] at t5
      clear p0 p1 p2 p3 p4 p5
      have ts := fun w => l2Sizes_any k w
      obtain ⟨lo, elo⟩ : ∃ z, z = loV k := ⟨_, rfl⟩
      obtain ⟨hi, ehi⟩ : ∃ z, z = hiV k := ⟨_, rfl⟩
      simp only [← elo, ← ehi] at hz ts
      clear elo ehi
      obtain ⟨hz0, hz1, hz2⟩ := hz
      go_wp2_with fail
      refine (ts _).mono ?_
      rintro e y0 ⟨rfl, rfl⟩
      go_wp2_with fail
      refine (t0 _).mono ?_
      rintro e y1 ⟨rfl, f1⟩
      have h1 := h0.fr f1
      clear n0 f1 h0
      have n0 : y1.cell? ⟨b, 0, none⟩ = some (.int .i64 k) := h1.ev.at.1
      go_wp2_with fail
      refine (l1Below_any _ _ _ h1.cur).mono ?_
      rintro e y2 ⟨x2, rfl, a2, -, b2, c2, q2⟩
      have g2 := h1.draw c2 q2
      clear n0 c2 q2 h1
      have n0 : y2.cell? ⟨b, 0, none⟩ = some (.int .i64 k) := g2.ev.at.1
      have cc : y2.cell? ⟨b, 2, none⟩ = some (.int .i64 0) := g2.ev.at.2.2.1
      have zz := g2.ev.free 2
      have h2 := g2.setO x2
      clear g2
      go_wp2_with fail
      refine (t1 _).mono ?_
      rintro e y3 ⟨rfl, f3⟩
      have h3 := h2.fr f3
      clear n0 f3 h2 cc zz
      have n0 : y3.cell? ⟨b, 0, none⟩ = some (.int .i64 k) := h3.ev.at.1
      go_wp2_with fail
      refine (l1Below_any _ _ _ h3.cur).mono ?_
      rintro e y4 ⟨x3, rfl, a3, -, b3, c4, q4⟩
      have g4 := h3.draw c4 q4
      clear n0 c4 q4 h3
      have n0 : y4.cell? ⟨b, 0, none⟩ = some (.int .i64 k) := g4.ev.at.1
      have cc : y4.cell? ⟨b, 3, none⟩ = some (.int .i64 0) := g4.ev.at.2.2.2.1
      have zz := g4.ev.free 3
      have h4 := g4.setW x3
      clear g4
      go_wp2_with fail
      refine (t2 _).mono ?_
      rintro e y5 ⟨rfl, f5⟩
      have h5 := h4.fr f5
      clear n0 f5 h4 cc zz
      have n0 : y5.cell? ⟨b, 0, none⟩ = some (.int .i64 k) := h5.ev.at.1
      go_wp2_with fail
      refine (t3 _).mono ?_
      rintro e y6 ⟨rfl, f6⟩
      have h6 := h5.fr f6
      clear n0 f6 h5
      have n0 : y6.cell? ⟨b, 0, none⟩ = some (.int .i64 k) := h6.ev.at.1
      go_wp2_with fail
      refine (t4 _).mono ?_
      rintro e y7 ⟨rfl, f7⟩
      have h7 := h6.fr f7
      clear n0 f7 h6
      have n0 : y7.cell? ⟨b, 0, none⟩ = some (.int .i64 k) := h7.ev.at.1
      go_wp2_with fail
      refine (t5 _).mono ?_
      rintro e y8 ⟨rfl, f8⟩
      have h8 := h7.fr f8
      clear n0 f8 h7
      obtain ⟨e0, e1, e2, e3, e4, e5, e6, e7⟩ := h8.ev.at
      obtain ⟨u0, u1, u2, u3, u4, u5, u6, u7⟩ := h8.res.at
      have hbr := h8.bl
      have v0 := h8.res.free 0
      have v1 := h8.res.free 1
      have v2 := h8.res.free 2
      have v3 := h8.res.free 3
      have v4 := h8.res.free 4
      have v5 := h8.res.free 5
      have v6 := h8.res.free 6
      have v7 := h8.res.free 7
      simp only at e0 e1 e2 e3 e4 e5 e6 e7 u0 u1 u2 u3 u4 u5 u6 u7
      have hfin := fun v0 v1 v2 v3 v4 v5 v6 v7 => h8.fin (put8 _ r v0 v1 v2 v3 v4 v5 v6 v7)
      clear h8
      go_wp2_with fail
      refine bodyPost_ret (v := .agg #[.int .i64 k, .int .i64 gor, .int .i64 x2, .int .i64 x3, .int .i64 0, .int .i64 0, .int .i64 0, .int .i64 0]) (by simp [results, Tryz.results91, go_sem, u0, u1, u2, u3, u4, u5, u6, u7]) rfl ⟨⟨k, gor, x2, x3, 0, 0, 0, 0⟩, rfl, ?_, (hfin _ _ _ _ _ _ _ _).1, (hfin _ _ _ _ _ _ _ _).2⟩
      refine ⟨⟨?_, ?_⟩, ⟨?_, ?_⟩, ⟨?_, ?_⟩, ⟨?_, ?_⟩, ⟨?_, ?_⟩, ⟨?_, ?_⟩, ⟨?_, ?_⟩, ⟨?_, ?_⟩⟩ <;> simp only <;> omega
    · have hz := size_in k
      have t0 := fun w => l2Has_any k 1 w (by simp)
      simp only [p0] at t0
      have t1 := fun w => l2Has_any k 2 w (by simp)
      simp only [p1] at t1
      have t2 := fun w => l2Has_any k 4 w (by simp)
      simp only [p2] at t2
      have t3 := fun w => l2Has_any k 8 w (by simp)
      simp only [p3] at t3
      have t4 := fun w => l2Has_any k 16 w (by simp)
      simp only [p4] at t4
      have t5 := fun w => l2Has_any k 32 w (by simp)
      simp only [p5] at t5
      clear p0 p1 p2 p3 p4 p5
      have ts := fun w => l2Sizes_any k w
      obtain ⟨lo, elo⟩ : ∃ z, z = loV k := ⟨_, rfl⟩
      obtain ⟨hi, ehi⟩ : ∃ z, z = hiV k := ⟨_, rfl⟩
      simp only [← elo, ← ehi] at hz ts
      clear elo ehi
      obtain ⟨hz0, hz1, hz2⟩ := hz
      go_wp2_with fail
      refine (ts _).mono ?_
      rintro e y0 ⟨rfl, rfl⟩
      go_wp2_with fail
      refine (t0 _).mono ?_
      rintro e y1 ⟨rfl, f1⟩
      have h1 := h0.fr f1
      clear n0 f1 h0
      have n0 : y1.cell? ⟨b, 0, none⟩ = some (.int .i64 k) := h1.ev.at.1
      go_wp2_with fail
      refine (l1Below_any _ _ _ h1.cur).mono ?_
      rintro e y2 ⟨x2, rfl, a2, -, b2, c2, q2⟩
      have g2 := h1.draw c2 q2
      clear n0 c2 q2 h1
      have n0 : y2.cell? ⟨b, 0, none⟩ = some (.int .i64 k) := g2.ev.at.1
      have cc : y2.cell? ⟨b, 2, none⟩ = some (.int .i64 0) := g2.ev.at.2.2.1
      have zz := g2.ev.free 2
      have h2 := g2.setO x2
      clear g2
      go_wp2_with fail
      refine (t1 _).mono ?_
      rintro e y3 ⟨rfl, f3⟩
      have h3 := h2.fr f3
      clear n0 f3 h2 cc zz
      have n0 : y3.cell? ⟨b, 0, none⟩ = some (.int .i64 k) := h3.ev.at.1
      go_wp2_with fail
      refine (t2 _).mono ?_
      rintro e y4 ⟨rfl, f4⟩
      have h4 := h3.fr f4
      clear n0 f4 h3
      have n0 : y4.cell? ⟨b, 0, none⟩ = some (.int .i64 k) := h4.ev.at.1
      go_wp2_with fail
      refine (t3 _).mono ?_
      rintro e y5 ⟨rfl, f5⟩
      have h5 := h4.fr f5
      clear n0 f5 h4
      have n0 : y5.cell? ⟨b, 0, none⟩ = some (.int .i64 k) := h5.ev.at.1
      obtain ⟨mn, emn⟩ : ∃ z, z = min hi (lo + 3) := ⟨_, rfl⟩
      have hm : lo ≤ mn ∧ mn ≤ 64 := by omega
      obtain ⟨hm0, hm1⟩ := hm
      have tm := fun w => l1Min_any hi (lo + 3) w
      simp only [← emn] at tm
      clear emn
      go_wp2_with fail
      refine (tm _).mono ?_
      rintro e y5 ⟨rfl, rfl⟩
      go_wp2_with fail
      refine (l1From_any _ _ _ _ h5.cur (by omega) (by omega) (by omega)).mono ?_
      rintro e y6 ⟨x5, rfl, a5, b5, c6, q6⟩
      have g6 := h5.draw c6 q6
      clear n0 c6 q6 h5
      have n0 : y6.cell? ⟨b, 0, none⟩ = some (.int .i64 k) := g6.ev.at.1
      have cc : y6.cell? ⟨b, 5, none⟩ = some (.int .i64 0) := g6.ev.at.2.2.2.2.2.1
      have zz := g6.ev.free 5
      have h6 := g6.setS x5
      clear g6
      go_wp2_with fail
      refine (t4 _).mono ?_
      rintro e y7 ⟨rfl, f7⟩
      have h7 := h6.fr f7
      clear n0 f7 h6 cc zz
      have n0 : y7.cell? ⟨b, 0, none⟩ = some (.int .i64 k) := h7.ev.at.1
      go_wp2_with fail
      refine (t5 _).mono ?_
      rintro e y8 ⟨rfl, f8⟩
      have h8 := h7.fr f8
      clear n0 f8 h7
      obtain ⟨e0, e1, e2, e3, e4, e5, e6, e7⟩ := h8.ev.at
      obtain ⟨u0, u1, u2, u3, u4, u5, u6, u7⟩ := h8.res.at
      have hbr := h8.bl
      have v0 := h8.res.free 0
      have v1 := h8.res.free 1
      have v2 := h8.res.free 2
      have v3 := h8.res.free 3
      have v4 := h8.res.free 4
      have v5 := h8.res.free 5
      have v6 := h8.res.free 6
      have v7 := h8.res.free 7
      simp only at e0 e1 e2 e3 e4 e5 e6 e7 u0 u1 u2 u3 u4 u5 u6 u7
      have hfin := fun v0 v1 v2 v3 v4 v5 v6 v7 => h8.fin (put8 _ r v0 v1 v2 v3 v4 v5 v6 v7)
      clear h8
      go_wp2_with fail
      refine bodyPost_ret (v := .agg #[.int .i64 k, .int .i64 gor, .int .i64 x2, .int .i64 0, .int .i64 0, .int .i64 x5, .int .i64 0, .int .i64 0]) (by simp [results, Tryz.results91, go_sem, u0, u1, u2, u3, u4, u5, u6, u7]) rfl ⟨⟨k, gor, x2, 0, 0, x5, 0, 0⟩, rfl, ?_, (hfin _ _ _ _ _ _ _ _).1, (hfin _ _ _ _ _ _ _ _).2⟩
      refine ⟨⟨?_, ?_⟩, ⟨?_, ?_⟩, ⟨?_, ?_⟩, ⟨?_, ?_⟩, ⟨?_, ?_⟩, ⟨?_, ?_⟩, ⟨?_, ?_⟩, ⟨?_, ?_⟩⟩ <;> simp only <;> omega
    · have hz := size_in k
      have t0 := fun w => l2Has_any k 1 w (by simp)
      simp only [p0] at t0
      have t1 := fun w => l2Has_any k 2 w (by simp)
      simp only [p1] at t1
      have t2 := fun w => l2Has_any k 4 w (by simp)
      simp only [p2] at t2
      have t3 := fun w => l2Has_any k 8 w (by simp)
      simp only [p3] at t3
      have t4 := fun w => l2Has_any k 16 w (by simp)
      simp only [p4] at t4
      have t5 := fun w => l2Has_any k 32 w (by simp)
      simp only [p5] at t5
      clear p0 p1 p2 p3 p4 p5
      have ts := fun w => l2Sizes_any k w
      obtain ⟨lo, elo⟩ : ∃ z, z = loV k := ⟨_, rfl⟩
      obtain ⟨hi, ehi⟩ : ∃ z, z = hiV k := ⟨_, rfl⟩
      simp only [← elo, ← ehi] at hz ts
      clear elo ehi
      obtain ⟨hz0, hz1, hz2⟩ := hz
      go_wp2_with fail
      refine (ts _).mono ?_
      rintro e y0 ⟨rfl, rfl⟩
      go_wp2_with fail
      refine (t0 _).mono ?_
      rintro e y1 ⟨rfl, f1⟩
      have h1 := h0.fr f1
      clear n0 f1 h0
      have n0 : y1.cell? ⟨b, 0, none⟩ = some (.int .i64 k) := h1.ev.at.1
      go_wp2_with fail
      refine (t1 _).mono ?_
      rintro e y2 ⟨rfl, f2⟩
      have h2 := h1.fr f2
      clear n0 f2 h1
      have n0 : y2.cell? ⟨b, 0, none⟩ = some (.int .i64 k) := h2.ev.at.1
      go_wp2_with fail
      refine (t2 _).mono ?_
      rintro e y3 ⟨rfl, f3⟩
      have h3 := h2.fr f3
      clear n0 f3 h2
      have n0 : y3.cell? ⟨b, 0, none⟩ = some (.int .i64 k) := h3.ev.at.1
      go_wp2_with fail
      refine (l1Below_any _ _ _ h3.cur).mono ?_
      rintro e y4 ⟨x4, rfl, a4, -, b4, c4, q4⟩
      have g4 := h3.draw c4 q4
      clear n0 c4 q4 h3
      have n0 : y4.cell? ⟨b, 0, none⟩ = some (.int .i64 k) := g4.ev.at.1
      have cc : y4.cell? ⟨b, 4, none⟩ = some (.int .i64 0) := g4.ev.at.2.2.2.2.1
      have zz := g4.ev.free 4
      have h4 := g4.setL x4
      clear g4
      go_wp2_with fail
      refine (t3 _).mono ?_
      rintro e y5 ⟨rfl, f5⟩
      have h5 := h4.fr f5
      clear n0 f5 h4 cc zz
      have n0 : y5.cell? ⟨b, 0, none⟩ = some (.int .i64 k) := h5.ev.at.1
      obtain ⟨mn, emn⟩ : ∃ z, z = min hi (lo + 3) := ⟨_, rfl⟩
      have hm : lo ≤ mn ∧ mn ≤ 64 := by omega
      obtain ⟨hm0, hm1⟩ := hm
      have tm := fun w => l1Min_any hi (lo + 3) w
      simp only [← emn] at tm
      clear emn
      go_wp2_with fail
      refine (tm _).mono ?_
      rintro e y5 ⟨rfl, rfl⟩
      go_wp2_with fail
      refine (l1From_any _ _ _ _ h5.cur (by omega) (by omega) (by omega)).mono ?_
      rintro e y6 ⟨x5, rfl, a5, b5, c6, q6⟩
      have g6 := h5.draw c6 q6
      clear n0 c6 q6 h5
      have n0 : y6.cell? ⟨b, 0, none⟩ = some (.int .i64 k) := g6.ev.at.1
      have cc : y6.cell? ⟨b, 5, none⟩ = some (.int .i64 0) := g6.ev.at.2.2.2.2.2.1
      have zz := g6.ev.free 5
      have h6 := g6.setS x5
      clear g6
      go_wp2_with fail
      refine (t4 _).mono ?_
      rintro e y7 ⟨rfl, f7⟩
      have h7 := h6.fr f7
      clear n0 f7 h6 cc zz
      have n0 : y7.cell? ⟨b, 0, none⟩ = some (.int .i64 k) := h7.ev.at.1
      go_wp2_with fail
      refine (t5 _).mono ?_
      rintro e y8 ⟨rfl, f8⟩
      have h8 := h7.fr f8
      clear n0 f8 h7
      obtain ⟨e0, e1, e2, e3, e4, e5, e6, e7⟩ := h8.ev.at
      obtain ⟨u0, u1, u2, u3, u4, u5, u6, u7⟩ := h8.res.at
      have hbr := h8.bl
      have v0 := h8.res.free 0
      have v1 := h8.res.free 1
      have v2 := h8.res.free 2
      have v3 := h8.res.free 3
      have v4 := h8.res.free 4
      have v5 := h8.res.free 5
      have v6 := h8.res.free 6
      have v7 := h8.res.free 7
      simp only at e0 e1 e2 e3 e4 e5 e6 e7 u0 u1 u2 u3 u4 u5 u6 u7
      have hfin := fun v0 v1 v2 v3 v4 v5 v6 v7 => h8.fin (put8 _ r v0 v1 v2 v3 v4 v5 v6 v7)
      clear h8
      go_wp2_with fail
      refine bodyPost_ret (v := .agg #[.int .i64 k, .int .i64 gor, .int .i64 0, .int .i64 0, .int .i64 x4, .int .i64 x5, .int .i64 0, .int .i64 0]) (by simp [results, Tryz.results91, go_sem, u0, u1, u2, u3, u4, u5, u6, u7]) rfl ⟨⟨k, gor, 0, 0, x4, x5, 0, 0⟩, rfl, ?_, (hfin _ _ _ _ _ _ _ _).1, (hfin _ _ _ _ _ _ _ _).2⟩
      refine ⟨⟨?_, ?_⟩, ⟨?_, ?_⟩, ⟨?_, ?_⟩, ⟨?_, ?_⟩, ⟨?_, ?_⟩, ⟨?_, ?_⟩, ⟨?_, ?_⟩, ⟨?_, ?_⟩⟩ <;> simp only <;> omega
    · have hz := size_in k
      have t0 := fun w => l2Has_any k 1 w (by simp)
      simp only [p0] at t0
      have t1 := fun w => l2Has_any k 2 w (by simp)
      simp only [p1] at t1
      have t2 := fun w => l2Has_any k 4 w (by simp)
      simp only [p2] at t2
      have t3 := fun w => l2Has_any k 8 w (by simp)
      simp only [p3] at t3
      have t4 := fun w => l2Has_any k 16 w (by simp)
      simp only [p4] at t4
      have t5 := fun w => l2Has_any k 32 w (by simp)
      simp only [p5] at t5
      clear p0 p1 p2 p3 p4 p5
      have ts := fun w => l2Sizes_any k w
      obtain ⟨lo, elo⟩ : ∃ z, z = loV k := ⟨_, rfl⟩
      obtain ⟨hi, ehi⟩ : ∃ z, z = hiV k := ⟨_, rfl⟩
      simp only [← elo, ← ehi] at hz ts
      clear elo ehi
      obtain ⟨hz0, hz1, hz2⟩ := hz
      go_wp2_with fail
      refine (ts _).mono ?_
      rintro e y0 ⟨rfl, rfl⟩
      go_wp2_with fail
      refine (t0 _).mono ?_
      rintro e y1 ⟨rfl, f1⟩
      have h1 := h0.fr f1
      clear n0 f1 h0
      have n0 : y1.cell? ⟨b, 0, none⟩ = some (.int .i64 k) := h1.ev.at.1
      go_wp2_with fail
      refine (t1 _).mono ?_
      rintro e y2 ⟨rfl, f2⟩
      have h2 := h1.fr f2
      clear n0 f2 h1
      have n0 : y2.cell? ⟨b, 0, none⟩ = some (.int .i64 k) := h2.ev.at.1
      go_wp2_with fail
      refine (t2 _).mono ?_
      rintro e y3 ⟨rfl, f3⟩
      have h3 := h2.fr f3
      clear n0 f3 h2
      have n0 : y3.cell? ⟨b, 0, none⟩ = some (.int .i64 k) := h3.ev.at.1
      go_wp2_with fail
      refine (l1Below_any _ _ _ h3.cur).mono ?_
      rintro e y4 ⟨x4, rfl, a4, -, b4, c4, q4⟩
      have g4 := h3.draw c4 q4
      clear n0 c4 q4 h3
      have n0 : y4.cell? ⟨b, 0, none⟩ = some (.int .i64 k) := g4.ev.at.1
      have cc : y4.cell? ⟨b, 4, none⟩ = some (.int .i64 0) := g4.ev.at.2.2.2.2.1
      have zz := g4.ev.free 4
      have h4 := g4.setL x4
      clear g4
      go_wp2_with fail
      refine (t3 _).mono ?_
      rintro e y5 ⟨rfl, f5⟩
      have h5 := h4.fr f5
      clear n0 f5 h4 cc zz
      have n0 : y5.cell? ⟨b, 0, none⟩ = some (.int .i64 k) := h5.ev.at.1
      obtain ⟨mn, emn⟩ : ∃ z, z = min hi (lo + 3) := ⟨_, rfl⟩
      have hm : lo ≤ mn ∧ mn ≤ 64 := by omega
      obtain ⟨hm0, hm1⟩ := hm
      have tm := fun w => l1Min_any hi (lo + 3) w
      simp only [← emn] at tm
      clear emn
      go_wp2_with fail
      refine (tm _).mono ?_
      rintro e y5 ⟨rfl, rfl⟩
      go_wp2_with fail
      refine (l1From_any _ _ _ _ h5.cur (by omega) (by omega) (by omega)).mono ?_
      rintro e y6 ⟨x5, rfl, a5, b5, c6, q6⟩
      have g6 := h5.draw c6 q6
      clear n0 c6 q6 h5
      have n0 : y6.cell? ⟨b, 0, none⟩ = some (.int .i64 k) := g6.ev.at.1
      have cc : y6.cell? ⟨b, 5, none⟩ = some (.int .i64 0) := g6.ev.at.2.2.2.2.2.1
      have zz := g6.ev.free 5
      have h6 := g6.setS x5
      clear g6
      go_wp2_with fail
      refine (t4 _).mono ?_
      rintro e y7 ⟨rfl, f7⟩
      have h7 := h6.fr f7
      clear n0 f7 h6 cc zz
      have n0 : y7.cell? ⟨b, 0, none⟩ = some (.int .i64 k) := h7.ev.at.1
      go_wp2_with fail
      refine (l1Below_any _ _ _ h7.cur).mono ?_
      rintro e y8 ⟨x6, rfl, a6, -, b6, c8, q8⟩
      have g8 := h7.draw c8 q8
      clear n0 c8 q8 h7
      have n0 : y8.cell? ⟨b, 0, none⟩ = some (.int .i64 k) := g8.ev.at.1
      have cc : y8.cell? ⟨b, 6, none⟩ = some (.int .i64 0) := g8.ev.at.2.2.2.2.2.2.1
      have zz := g8.ev.free 6
      have h8 := g8.setF x6
      clear g8
      go_wp2_with fail
      refine (t5 _).mono ?_
      rintro e y9 ⟨rfl, f9⟩
      have h9 := h8.fr f9
      clear n0 f9 h8 cc zz
      have n0 : y9.cell? ⟨b, 0, none⟩ = some (.int .i64 k) := h9.ev.at.1
      go_wp2_with fail
      refine (l1Below_any _ _ _ h9.cur).mono ?_
      rintro e y10 ⟨x7, rfl, a7, -, b7, c10, q10⟩
      have g10 := h9.draw c10 q10
      clear n0 c10 q10 h9
      have n0 : y10.cell? ⟨b, 0, none⟩ = some (.int .i64 k) := g10.ev.at.1
      have cc : y10.cell? ⟨b, 7, none⟩ = some (.int .i64 0) := g10.ev.at.2.2.2.2.2.2.2
      have zz := g10.ev.free 7
      have h10 := g10.setT x7
      obtain ⟨e0, e1, e2, e3, e4, e5, e6, e7⟩ := g10.ev.at
      obtain ⟨u0, u1, u2, u3, u4, u5, u6, u7⟩ := g10.res.at
      have hbr := g10.bl
      have v0 := g10.res.free 0
      have v1 := g10.res.free 1
      have v2 := g10.res.free 2
      have v3 := g10.res.free 3
      have v4 := g10.res.free 4
      have v5 := g10.res.free 5
      have v6 := g10.res.free 6
      have v7 := g10.res.free 7
      clear n0 cc
      simp only at e0 e1 e2 e3 e4 e5 e6 e7 u0 u1 u2 u3 u4 u5 u6 u7
      have hfin := fun v0 v1 v2 v3 v4 v5 v6 v7 => h10.fin (put8 _ r v0 v1 v2 v3 v4 v5 v6 v7)
      clear h10 g10
      go_wp2_with fail
      refine bodyPost_ret (v := .agg #[.int .i64 k, .int .i64 gor, .int .i64 0, .int .i64 0, .int .i64 x4, .int .i64 x5, .int .i64 x6, .int .i64 x7]) (by simp [results, Tryz.results91, go_sem, u0, u1, u2, u3, u4, u5, u6, u7]) rfl ⟨⟨k, gor, 0, 0, x4, x5, x6, x7⟩, rfl, ?_, (hfin _ _ _ _ _ _ _ _).1, (hfin _ _ _ _ _ _ _ _).2⟩
      refine ⟨⟨?_, ?_⟩, ⟨?_, ?_⟩, ⟨?_, ?_⟩, ⟨?_, ?_⟩, ⟨?_, ?_⟩, ⟨?_, ?_⟩, ⟨?_, ?_⟩, ⟨?_, ?_⟩⟩ <;> simp only <;> omega
  · clear k0 k1
    go_wp2_with fail
    refine (l1From_any _ _ _ _ h0.cur (by decide) (by decide) (by decide)).mono ?_
    rintro e w4 ⟨kk, rfl, k0, k1, c4, g4⟩
    have h1 := h0.draw c4 g4
    clear n0 h0
    have n0 : w4.cell? ⟨b, 0, none⟩ = some (.int .i64 k) := h1.ev.at.1
    have z0 := h1.ev.free 0
    have h0 := h1.setK kk
    clear h1 c4 g4
    have hw : hasB kk 1 = false ∧ hasB kk 2 = false ∧ hasB kk 4 = true ∧ hasB kk 8 = true ∧ hasB kk 16 = true ∧ hasB kk 32 = true := by
      have e : kk = 20 ∨ kk = 21 := by omega
      rcases e with rfl | rfl <;> decide +kernel
    obtain ⟨p0, p1, p2, p3, p4, p5⟩ := hw
    have hz := size_in kk
    have t0 := fun w => l2Has_any kk 1 w (by simp)
    simp only [p0] at t0
    have t1 := fun w => l2Has_any kk 2 w (by simp)
    simp only [p1] at t1
    have t2 := fun w => l2Has_any kk 4 w (by simp)
    simp only [p2] at t2
    have t3 := fun w => l2Has_any kk 8 w (by simp)
    simp only [p3] at t3
    have t4 := fun w => l2Has_any kk 16 w (by simp)
    simp only [p4] at t4
    have t5 := fun w => l2Has_any kk 32 w (by simp)
    simp only [p5] at t5
    clear p0 p1 p2 p3 p4 p5
    have ts := fun w => l2Sizes_any kk w
    obtain ⟨lo, elo⟩ : ∃ z, z = loV kk := ⟨_, rfl⟩
    obtain ⟨hi, ehi⟩ : ∃ z, z = hiV kk := ⟨_, rfl⟩
    simp only [← elo, ← ehi] at hz ts
    clear elo ehi
    obtain ⟨hz0, hz1, hz2⟩ := hz
    go_wp2_with fail
    refine (ts _).mono ?_
    rintro e y0 ⟨rfl, rfl⟩
    go_wp2_with fail
    refine (t0 _).mono ?_
    rintro e y1 ⟨rfl, f1⟩
    have h1 := h0.fr f1
    clear n0 f1 h0 z0
    have n0 : y1.cell? ⟨b, 0, none⟩ = some (.int .i64 kk) := h1.ev.at.1
    go_wp2_with fail
    refine (t1 _).mono ?_
    rintro e y2 ⟨rfl, f2⟩
    have h2 := h1.fr f2
    clear n0 f2 h1
    have n0 : y2.cell? ⟨b, 0, none⟩ = some (.int .i64 kk) := h2.ev.at.1
    go_wp2_with fail
    refine (t2 _).mono ?_
    rintro e y3 ⟨rfl, f3⟩
    have h3 := h2.fr f3
    clear n0 f3 h2
    have n0 : y3.cell? ⟨b, 0, none⟩ = some (.int .i64 kk) := h3.ev.at.1
    go_wp2_with fail
    refine (l1Below_any _ _ _ h3.cur).mono ?_
    rintro e y4 ⟨x4, rfl, a4, -, b4, c4, q4⟩
    have g4 := h3.draw c4 q4
    clear n0 c4 q4 h3
    have n0 : y4.cell? ⟨b, 0, none⟩ = some (.int .i64 kk) := g4.ev.at.1
    have cc : y4.cell? ⟨b, 4, none⟩ = some (.int .i64 0) := g4.ev.at.2.2.2.2.1
    have zz := g4.ev.free 4
    have h4 := g4.setL x4
    clear g4
    go_wp2_with fail
    refine (t3 _).mono ?_
    rintro e y5 ⟨rfl, f5⟩
    have h5 := h4.fr f5
    clear n0 f5 h4 cc zz
    have n0 : y5.cell? ⟨b, 0, none⟩ = some (.int .i64 kk) := h5.ev.at.1
    obtain ⟨mn, emn⟩ : ∃ z, z = min hi (lo + 3) := ⟨_, rfl⟩
    have hm : lo ≤ mn ∧ mn ≤ 64 := by omega
    obtain ⟨hm0, hm1⟩ := hm
    have tm := fun w => l1Min_any hi (lo + 3) w
    simp only [← emn] at tm
    clear emn
    go_wp2_with fail
    refine (tm _).mono ?_
    rintro e y5 ⟨rfl, rfl⟩
    go_wp2_with fail
    refine (l1From_any _ _ _ _ h5.cur (by omega) (by omega) (by omega)).mono ?_
    rintro e y6 ⟨x5, rfl, a5, b5, c6, q6⟩
    have g6 := h5.draw c6 q6
    clear n0 c6 q6 h5
    have n0 : y6.cell? ⟨b, 0, none⟩ = some (.int .i64 kk) := g6.ev.at.1
    have cc : y6.cell? ⟨b, 5, none⟩ = some (.int .i64 0) := g6.ev.at.2.2.2.2.2.1
    have zz := g6.ev.free 5
    have h6 := g6.setS x5
    clear g6
    go_wp2_with fail
    refine (t4 _).mono ?_
    rintro e y7 ⟨rfl, f7⟩
    have h7 := h6.fr f7
    clear n0 f7 h6 cc zz
    have n0 : y7.cell? ⟨b, 0, none⟩ = some (.int .i64 kk) := h7.ev.at.1
    go_wp2_with fail
    refine (l1Below_any _ _ _ h7.cur).mono ?_
    rintro e y8 ⟨x6, rfl, a6, -, b6, c8, q8⟩
    have g8 := h7.draw c8 q8
    clear n0 c8 q8 h7
    have n0 : y8.cell? ⟨b, 0, none⟩ = some (.int .i64 kk) := g8.ev.at.1
    have cc : y8.cell? ⟨b, 6, none⟩ = some (.int .i64 0) := g8.ev.at.2.2.2.2.2.2.1
    have zz := g8.ev.free 6
    have h8 := g8.setF x6
    clear g8
    go_wp2_with fail
    refine (t5 _).mono ?_
    rintro e y9 ⟨rfl, f9⟩
    have h9 := h8.fr f9
    clear n0 f9 h8 cc zz
    have n0 : y9.cell? ⟨b, 0, none⟩ = some (.int .i64 kk) := h9.ev.at.1
    go_wp2_with fail
    refine (l1Below_any _ _ _ h9.cur).mono ?_
    rintro e y10 ⟨x7, rfl, a7, -, b7, c10, q10⟩
    have g10 := h9.draw c10 q10
    clear n0 c10 q10 h9
    have n0 : y10.cell? ⟨b, 0, none⟩ = some (.int .i64 kk) := g10.ev.at.1
    have cc : y10.cell? ⟨b, 7, none⟩ = some (.int .i64 0) := g10.ev.at.2.2.2.2.2.2.2
    have zz := g10.ev.free 7
    have h10 := g10.setT x7
    obtain ⟨e0, e1, e2, e3, e4, e5, e6, e7⟩ := g10.ev.at
    obtain ⟨u0, u1, u2, u3, u4, u5, u6, u7⟩ := g10.res.at
    have hbr := g10.bl
    have v0 := g10.res.free 0
    have v1 := g10.res.free 1
    have v2 := g10.res.free 2
    have v3 := g10.res.free 3
    have v4 := g10.res.free 4
    have v5 := g10.res.free 5
    have v6 := g10.res.free 6
    have v7 := g10.res.free 7
    clear n0 cc
    simp only at e0 e1 e2 e3 e4 e5 e6 e7 u0 u1 u2 u3 u4 u5 u6 u7
    have hfin := fun v0 v1 v2 v3 v4 v5 v6 v7 => h10.fin (put8 _ r v0 v1 v2 v3 v4 v5 v6 v7)
    clear h10 g10
    go_wp2_with fail
    refine bodyPost_ret (v := .agg #[.int .i64 kk, .int .i64 gor, .int .i64 0, .int .i64 0, .int .i64 x4, .int .i64 x5, .int .i64 x6, .int .i64 x7]) (by simp [results, Tryz.results91, go_sem, u0, u1, u2, u3, u4, u5, u6, u7]) rfl ⟨⟨kk, gor, 0, 0, x4, x5, x6, x7⟩, rfl, ?_, (hfin _ _ _ _ _ _ _ _).1, (hfin _ _ _ _ _ _ _ _).2⟩
    refine ⟨⟨?_, ?_⟩, ⟨?_, ?_⟩, ⟨?_, ?_⟩, ⟨?_, ?_⟩, ⟨?_, ?_⟩, ⟨?_, ?_⟩, ⟨?_, ?_⟩, ⟨?_, ?_⟩⟩ <;> simp only <;> omega
end Go.Proofs.YtcofhmikdkkigaaGreatDoor
