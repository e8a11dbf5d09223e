/-
  What is drawn for the law on clashes: two events.
-/
import Derived.Test.YtimnoajphgljfaaDoorEvDraw2
import Derived.RegionTactic
import Derived.BigRegion
namespace Go.Proofs.YtimnoajphgljfaaDoor
open Go.RowKit

/-- Behind the draws: two events in their blocks, room for two answers; nothing that was there has turned. -/
structure D2 (w0 : World) (g r q a b : Nat) (ea eb : Ev) (wr : World) : Prop where
  cur : Cur wr g
  gro : Fr w0 wr
  eva : EvB wr a ea
  evb : EvB wr b eb
  resr : EvB wr r ⟨0, 0, 0, 0, 0, 0, 0, 0⟩
  resq : EvB wr q ⟨0, 0, 0, 0, 0, 0, 0, 0⟩
  rl : w0.heap.size ≤ r
  rq : r < q
  qg : q < g
  ga : g < a
  ab : a < b

theorem D2.draw {w0 wr w' : World} {g r q a b : Nat} {ea eb : Ev} (h : D2 w0 g r q a b ea eb wr) (c : Cur w' g) (k : wr.grownBy w' (some g)) : D2 w0 g r q a b ea eb w' := by
  obtain ⟨h1, h2, h3, h4, h5, h6, h7, h8, h9, ha, hb⟩ := h
  exact ⟨c, h2.then k (by intro j hj; simp only [Option.some.injEq] at hj; omega), h3.keep k (by simp; omega), h4.keep k (by simp; omega), h5.keep k (by simp; omega), h6.keep k (by simp; omega), h7, h8, h9, ha, hb⟩
theorem D2.wrote {w0 wr w' : World} {g r q a b : Nat} {ea ea' eb : Ev} (h : D2 w0 g r q a b ea eb wr) (k : wr.grownBy w' (some a)) (hb : EvB w' a ea') : D2 w0 g r q a b ea' eb w' := by
  obtain ⟨h1, h2, h3, h4, h5, h6, h7, h8, h9, ha, hab⟩ := h
  exact ⟨h1.other k (by intro j hj; simp only [Option.some.injEq] at hj; omega), h2.then k (by intro j hj; simp only [Option.some.injEq] at hj; omega), hb, h4.keep k (by simp; omega), h5.keep k (by simp; omega), h6.keep k (by simp; omega), h7, h8, h9, ha, hab⟩

theorem D2.setK {w0 wr : World} {g r q a b : Nat} {k gr o wi l sz f t : Int} {eb : Ev} (h : D2 w0 g r q a b ⟨k, gr, o, wi, l, sz, f, t⟩ eb wr) (x : Int) : D2 w0 g r q a b ⟨x, gr, o, wi, l, sz, f, t⟩ eb (wr.setCell ⟨a, 0, none⟩ (.int .i64 x)) :=
  h.wrote (grown_set wr a 0 _) (h.eva.setK x)
theorem D2.setO {w0 wr : World} {g r q a b : Nat} {k gr o wi l sz f t : Int} {eb : Ev} (h : D2 w0 g r q a b ⟨k, gr, o, wi, l, sz, f, t⟩ eb wr) (x : Int) : D2 w0 g r q a b ⟨k, gr, x, wi, l, sz, f, t⟩ eb (wr.setCell ⟨a, 2, none⟩ (.int .i64 x)) :=
  h.wrote (grown_set wr a 2 _) (h.eva.setO x)
theorem D2.setW {w0 wr : World} {g r q a b : Nat} {k gr o wi l sz f t : Int} {eb : Ev} (h : D2 w0 g r q a b ⟨k, gr, o, wi, l, sz, f, t⟩ eb wr) (x : Int) : D2 w0 g r q a b ⟨k, gr, o, x, l, sz, f, t⟩ eb (wr.setCell ⟨a, 3, none⟩ (.int .i64 x)) :=
  h.wrote (grown_set wr a 3 _) (h.eva.setW x)
theorem D2.setS {w0 wr : World} {g r q a b : Nat} {k gr o wi l sz f t : Int} {eb : Ev} (h : D2 w0 g r q a b ⟨k, gr, o, wi, l, sz, f, t⟩ eb wr) (x : Int) : D2 w0 g r q a b ⟨k, gr, o, wi, l, x, f, t⟩ eb (wr.setCell ⟨a, 5, none⟩ (.int .i64 x)) :=
  h.wrote (grown_set wr a 5 _) (h.eva.setS x)
theorem D2.fin {w0 wr w1 w2 : World} {g r q a b : Nat} {ea eb : Ev} (h : D2 w0 g r q a b ea eb wr) (k1 : wr.grownBy w1 (some r)) (k2 : w1.grownBy w2 (some q)) : Fr w0 w2.drew := by
  have hr := h.rl
  have hq := h.rq
  exact ((h.gro.then k1 (by intro j hj; simp only [Option.some.injEq] at hj; omega)).then k2 (by intro j hj; simp only [Option.some.injEq] at hj; omega)).trans (Fr.drew _)

set_option maxHeartbeats 4000000 in
theorem drawClashing_any (ao : Option Addr) (n cap : Nat) (w : World) (hbr : ByteRow w ao n) (hn : n ≤ 4096) :
    Calls Tryd.prog 10 #[.slice ao n cap] w fun x w' => ∃ a b : Ev, x = .returned (.tuple #[.agg #[.int .i64 a.k, .int .i64 a.g, .int .i64 a.o, .int .i64 a.w, .int .i64 a.l, .int .i64 a.s, .int .i64 a.f, .int .i64 a.t], .agg #[.int .i64 b.k, .int .i64 b.g, .int .i64 b.o, .int .i64 b.w, .int .i64 b.l, .int .i64 b.s, .int .i64 b.f, .int .i64 b.t]]) ∧ EvI a ∧ EvI b ∧ Fr w w' := by
  go_enter Tryd.func10, Tryd.ntmps10
  have z1 := EvB.new w ⟨0, 0, 0, 0, 0, 0, 0, 0⟩
  have z2 := EvB.new (w.alloc (.cells #[.int .i64 0, .int .i64 0, .int .i64 0, .int .i64 0, .int .i64 0, .int .i64 0, .int .i64 0, .int .i64 0] 25)) ⟨0, 0, 0, 0, 0, 0, 0, 0⟩
  go_wp2_with fail
  refine (l1New_any _ _ _ _ (hbr.fr ((Fr.alloc _ _).trans (Fr.alloc _ _))) (by omega)).mono ?_
  rintro e w1 ⟨rfl, c1, f1⟩
  simp at c1
  have Z1 := (z1.keep (Fr.alloc _ _) (by simp)).keep f1 (by simp)
  have Z2 := z2.keep f1 (by simp)
  have fa := ((Fr.alloc _ _).trans (Fr.alloc _ _)).trans f1
  simp at Z2
  clear z1 z2 f1 hbr
  go_wp2_with fail
  obtain ⟨r, hr⟩ : ∃ r, r = w.heap.size := ⟨_, rfl⟩
  obtain ⟨q, hq⟩ : ∃ q, q = r + 1 := ⟨_, rfl⟩
  obtain ⟨g, hg⟩ : ∃ g, g = q + 1 := ⟨_, rfl⟩
  simp only [← hr, ← hq, ← hg] at Z1 Z2 c1 ⊢
  have hall : Hid (r = w.heap.size ∧ q = r + 1 ∧ g = q + 1) := ⟨hr, hq, hg⟩
  clear hr hq hg
  refine (l2DrawAny_any _ _ c1).mono ?_
  rintro e w2 ⟨⟨k, gr, o, wi, l, sz, f, t⟩, rfl, ia, c2, g2⟩
  simp only
  go_wp2_with fail
  refine (l2DrawAny_any _ _ (c2.fr (Fr.alloc _ _))).mono ?_
  rintro e w3 ⟨⟨k', gr', o', wi', l', sz', f', t'⟩, rfl, ib, c3, g3⟩
  simp only
  have h : D2 w g r q w2.heap.size w3.heap.size ⟨k, gr, o, wi, l, sz, f, t⟩ ⟨k', gr', o', wi', l', sz', f', t'⟩ (w3.alloc (.cells #[.int .i64 k', .int .i64 gr', .int .i64 o', .int .i64 wi', .int .i64 l', .int .i64 sz', .int .i64 f', .int .i64 t'] 25)) := by
    have ea : EvB (w2.alloc (.cells #[.int .i64 k, .int .i64 gr, .int .i64 o, .int .i64 wi, .int .i64 l, .int .i64 sz, .int .i64 f, .int .i64 t] 25)) w2.heap.size ⟨k, gr, o, wi, l, sz, f, t⟩ := EvB.new w2 ⟨k, gr, o, wi, l, sz, f, t⟩
    have l1 := c2.lt
    obtain ⟨hr, hq, hg⟩ := hall.out
    have ea3 := ea.keep g3 (by simp; omega)
    exact ⟨c3.fr (Fr.alloc _ _), ((fa.then g2 (by intro j hj; simp only [Option.some.injEq] at hj; omega)).trans (Fr.alloc _ _)).then (grown_trans g3 (Fr.alloc _ _).wide) (by intro j hj; simp only [Option.some.injEq] at hj; omega),
      ea3.keep (Fr.alloc _ _) (by simp), EvB.new w3 ⟨k', gr', o', wi', l', sz', f', t'⟩,
      (((Z1.keep g2 (by simp; omega)).keep (Fr.alloc _ _) (by simp)).keep g3 (by simp; omega)).keep (Fr.alloc _ _) (by simp),
      (((Z2.keep g2 (by simp; omega)).keep (Fr.alloc _ _) (by simp)).keep g3 (by simp; omega)).keep (Fr.alloc _ _) (by simp), by omega, by omega, by omega, by omega, ea3.lt⟩
  clear Z1 Z2 c1 c2 c3 g2 g3 fa hall
  go_wp2_with fail
  refine (l1Once_any _ _ _ h.cur).mono ?_
  rintro e w4 ⟨once, rfl, c4, g4⟩
  have h0 := h.draw c4 g4
  clear h c4 g4
  obtain ⟨a, ha⟩ : ∃ a, a = w2.heap.size := ⟨_, rfl⟩
  obtain ⟨b, hb⟩ : ∃ b, b = w3.heap.size := ⟨_, rfl⟩
  simp only [← ha, ← hb] at h0 ⊢
  clear ha hb w1 w2 w3
  cases once
  · obtain ⟨e0, e1, e2, e3, e4, e5, e6, e7⟩ := h0.eva.at
    obtain ⟨d0, d1, d2, d3, d4, d5, d6, d7⟩ := h0.evb.at
    obtain ⟨u0, u1, u2, u3, u4, u5, u6, u7⟩ := h0.resr.at
    obtain ⟨s0, s1, s2, s3, s4, s5, s6, s7⟩ := h0.resq.at
    simp only at e0 e1 e2 e3 e4 e5 e6 e7 d0 d1 d2 d3 d4 d5 d6 d7 u0 u1 u2 u3 u4 u5 u6 u7 s0 s1 s2 s3 s4 s5 s6 s7
    have vr := fun i => h0.resr.free i
    have vq := fun i => h0.resq.free i
    have o1 := h0.rq
    have o2 := h0.qg
    have o3 := h0.ga
    have o4 := h0.ab
    have hfin := fun v0 v1 v2 v3 v4 v5 v6 v7 x0 x1 x2 x3 x4 x5 x6 x7 => h0.fin (put8 _ r v0 v1 v2 v3 v4 v5 v6 v7) (put8 _ q x0 x1 x2 x3 x4 x5 x6 x7)
    clear h0
    go_wp2_with fail
    go_region
    go_wp2_with fail
    refine bodyPost_ret (v := .tuple #[.agg #[.int .i64 k, .int .i64 gr, .int .i64 o, .int .i64 wi, .int .i64 l, .int .i64 sz, .int .i64 f, .int .i64 t], .agg #[.int .i64 k', .int .i64 gr', .int .i64 o', .int .i64 wi', .int .i64 l', .int .i64 sz', .int .i64 f', .int .i64 t']]) (by simp [results, Tryd.results10, go_sem, u0, u1, u2, u3, u4, u5, u6, u7, s0, s1, s2, s3, s4, s5, s6, s7]) rfl ⟨⟨k, gr, o, wi, l, sz, f, t⟩, ⟨k', gr', o', wi', l', sz', f', t'⟩, rfl, ia, ib, hfin _ _ _ _ _ _ _ _ _ _ _ _ _ _ _ _⟩
  · obtain ⟨e0, e1, e2, e3, e4, e5, e6, e7⟩ := h0.eva.at
    simp only at e0 e1 e2 e3 e4 e5 e6 e7
    have va := fun i => h0.eva.free i
    have h1 := ((h0.setK 21).setO 0).setW 0
    clear h0
    go_wp2_with fail
    refine (l1Below_any _ _ _ h1.cur).mono ?_
    rintro e w5 ⟨x, rfl, x0, x1, x2, c5, g5⟩
    have x3 : x < 8 := x1 (by omega)
    have h2 := h1.draw c5 g5
    clear h1 c5 g5 x1 x2 va e0 e1 e2 e3 e4 e5 e6 e7
    have va := fun i => h2.eva.free i
    have h3 := h2.setS (1 + x)
    obtain ⟨e0, e1, e2, e3, e4, e5, e6, e7⟩ := h2.eva.at
    obtain ⟨d0, d1, d2, d3, d4, d5, d6, d7⟩ := h2.evb.at
    obtain ⟨u0, u1, u2, u3, u4, u5, u6, u7⟩ := h2.resr.at
    obtain ⟨s0, s1, s2, s3, s4, s5, s6, s7⟩ := h2.resq.at
    simp only at e0 e1 e2 e3 e4 e5 e6 e7 d0 d1 d2 d3 d4 d5 d6 d7 u0 u1 u2 u3 u4 u5 u6 u7 s0 s1 s2 s3 s4 s5 s6 s7
    have vr := fun i => h2.resr.free i
    have vq := fun i => h2.resq.free i
    have o1 := h2.rq
    have o2 := h2.qg
    have o3 := h2.ga
    have o4 := h2.ab
    have hfin := fun v0 v1 v2 v3 v4 v5 v6 v7 x0 x1 x2 x3 x4 x5 x6 x7 => h3.fin (put8 _ r v0 v1 v2 v3 v4 v5 v6 v7) (put8 _ q x0 x1 x2 x3 x4 x5 x6 x7)
    clear h2 h3
    go_wp2_with fail
    go_region
    go_wp2_with fail
    refine bodyPost_ret (v := .tuple #[.agg #[.int .i64 21, .int .i64 gr, .int .i64 0, .int .i64 0, .int .i64 l, .int .i64 (1 + x), .int .i64 f, .int .i64 t], .agg #[.int .i64 k', .int .i64 gr', .int .i64 o', .int .i64 wi', .int .i64 l', .int .i64 sz', .int .i64 f', .int .i64 t']]) (by simp [results, Tryd.results10, go_sem, u0, u1, u2, u3, u4, u5, u6, u7, s0, s1, s2, s3, s4, s5, s6, s7]) rfl ⟨⟨21, gr, 0, 0, l, (1 + x), f, t⟩, ⟨k', gr', o', wi', l', sz', f', t'⟩, rfl, ⟨⟨by simp only; omega, by simp only; omega⟩, ia.2.1, ⟨by simp only; omega, by simp only; omega⟩, ⟨by simp only; omega, by simp only; omega⟩, ia.2.2.2.2.1, ⟨by simp only; omega, by simp only; omega⟩, ia.2.2.2.2.2.2.1, ia.2.2.2.2.2.2.2⟩, ib, hfin _ _ _ _ _ _ _ _ _ _ _ _ _ _ _ _⟩
end Go.Proofs.YtimnoajphgljfaaDoor
