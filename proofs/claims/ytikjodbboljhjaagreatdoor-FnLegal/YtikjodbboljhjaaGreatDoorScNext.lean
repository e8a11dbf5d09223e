/-
  An event that can mostly be done next: l5Next.
-/
import Derived.Test.YtikjodbboljhjaaGreatDoorScCodeIn
import Derived.Test.YtikjodbboljhjaaGreatDoorEvDraw2
import Derived.Test.YtikjodbboljhjaaGreatDoorRev
import Derived.Deep.DeepCutAuto
namespace Go.Proofs.YtikjodbboljhjaaGreatDoor
open Go.RowKit

theorem l1Max_any2 (a b : Int) (w : World) :
    Calls Tryz.prog 146 #[.int .i64 a, .int .i64 b] w fun e w' => e = .returned (.int .i64 (max a b)) ∧ w' = w := by
  by_cases h : b < a
  · go_enter Tryz.func146, Tryz.ntmps146
    go_wp2
    go_ret
    exact ⟨ret_int (by omega), rfl⟩
  · go_enter Tryz.func146, Tryz.ntmps146
    go_wp2
    go_ret
    exact ⟨ret_int (by omega), rfl⟩

/-- The state in the midst of l5Next: the cursor in g, the boxed scene in sb, the answer's cell in rb, the event in eb. -/
structure NX (B : Nat → Prop) (w0 : World) (g sb rb eb : Nat) (s : Sv) (m : Scn) (e : Ev) (wr : World) : Prop where
  cur : Cur wr g
  gro : w0.grownBy wr (some g)
  sc : ScK wr sb s
  rs : EvB wr rb ⟨0, 0, 0, 0, 0, 0, 0, 0⟩
  ev : EvB wr eb e
  scr : ScR B wr s m
  gl : g < w0.heap.size
  sl : w0.heap.size ≤ sb
  rl : sb < rb
  el : rb < eb
  bB : ∀ b, B b → b < w0.heap.size ∧ b ≠ g
theorem NX.draw {B : Nat → Prop} {w0 wr w' : World} {g sb rb eb : Nat} {s : Sv} {m : Scn} {e : Ev} (h : NX B w0 g sb rb eb s m e wr) (c : Cur w' g) (k : wr.grownBy w' (some g)) : NX B w0 g sb rb eb s m e w' := by
  have h1 := h.gl; have h2 := h.sl; have h3 := h.rl; have h4 := h.el
  exact { h with cur := c, gro := grown_trans h.gro k, sc := h.sc.keep k (by simp; omega), rs := h.rs.keep k (by simp; omega), ev := h.ev.keep k (by simp; omega), scr := h.scr.keep k (fun j hj => by cases hj; exact fun q => (h.bB _ q).2 rfl) }
theorem NX.fr {B : Nat → Prop} {w0 wr w' : World} {g sb rb eb : Nat} {s : Sv} {m : Scn} {e : Ev} (h : NX B w0 g sb rb eb s m e wr) (k : Fr wr w') : NX B w0 g sb rb eb s m e w' :=
  { h with cur := h.cur.fr k, gro := grown_trans h.gro k.wide, sc := h.sc.fr k, rs := h.rs.keep k (by simp), ev := h.ev.keep k (by simp), scr := h.scr.fr k }
theorem NX.wrote {B : Nat → Prop} {w0 wr w' : World} {g sb rb eb : Nat} {s : Sv} {m : Scn} {e e' : Ev} (h : NX B w0 g sb rb eb s m e wr) (k : wr.grownBy w' (some eb)) (hb : EvB w' eb e') : NX B w0 g sb rb eb s m e' w' := by
  have h1 := h.gl; have h2 := h.sl; have h3 := h.rl; have h4 := h.el
  exact { h with cur := h.cur.other k (by intro j hj; simp only [Option.some.injEq] at hj; omega), gro := grown_then h.gro k (by intro j hj; simp only [Option.some.injEq] at hj; omega), sc := h.sc.keep k (by simp; omega), rs := h.rs.keep k (by simp; omega), ev := hb, scr := h.scr.keep k (fun j hj => by cases hj; intro q; have := (h.bB _ q).1; omega) }

theorem NX.fin {B : Nat → Prop} {w0 wr : World} {g sb rb eb : Nat} {s : Sv} {m : Scn} {e : Ev} (h : NX B w0 g sb rb eb s m e wr) (v0 v1 v2 v3 v4 v5 v6 v7 : Value) :
    Cur ((((((((wr.setCell ⟨rb, 0, none⟩ v0).setCell ⟨rb, 1, none⟩ v1).setCell ⟨rb, 2, none⟩ v2).setCell ⟨rb, 3, none⟩ v3).setCell ⟨rb, 4, none⟩ v4).setCell ⟨rb, 5, none⟩ v5).setCell ⟨rb, 6, none⟩ v6).setCell ⟨rb, 7, none⟩ v7) g ∧
    w0.grownBy ((((((((wr.setCell ⟨rb, 0, none⟩ v0).setCell ⟨rb, 1, none⟩ v1).setCell ⟨rb, 2, none⟩ v2).setCell ⟨rb, 3, none⟩ v3).setCell ⟨rb, 4, none⟩ v4).setCell ⟨rb, 5, none⟩ v5).setCell ⟨rb, 6, none⟩ v6).setCell ⟨rb, 7, none⟩ v7) (some g) := by
  have k := grown_st8 wr rb v0 v1 v2 v3 v4 v5 v6 v7
  have h1 := h.gl; have h2 := h.sl; have h3 := h.rl
  exact ⟨h.cur.other k (by intro j hj; simp only [Option.some.injEq] at hj; omega), grown_then h.gro k (by intro j hj; simp only [Option.some.injEq] at hj; omega)⟩

set_option maxRecDepth 20000 in
set_option maxHeartbeats 8000000 in
theorem l5Next_any {B : Nat → Prop} (g : Nat) (s : Sv) (m : Scn) (w : World) (hc : Cur w g) (hB : ∀ b, B b → b < w.heap.size ∧ b ≠ g) (h : ScR B w s m) :
    Calls Tryz.prog 90 #[.pointer (some ⟨g, 0, none⟩), .agg #[.int .i64 s.g, .slice s.lo s.ll s.lc, .slice s.co s.cl s.cc, .slice s.no s.nl s.nc, .slice s.oo s.ol s.oc]] w fun x w' => ∃ e : Ev, x = .returned (.agg #[.int .i64 e.k, .int .i64 e.g, .int .i64 e.o, .int .i64 e.w, .int .i64 e.l, .int .i64 e.s, .int .i64 e.f, .int .i64 e.t]) ∧ EvI e ∧ Cur w' g ∧ w.grownBy w' (some g) := by
  have hgl := hc.lt
  have f1 := Fr.alloc w (.cells #[.int .i64 s.g, .slice s.lo s.ll s.lc, .slice s.co s.cl s.cc, .slice s.no s.nl s.nc, .slice s.oo s.ol s.oc] 29)
  have f2 := Fr.alloc (w.alloc (.cells #[.int .i64 s.g, .slice s.lo s.ll s.lc, .slice s.co s.cl s.cc, .slice s.no s.nl s.nc, .slice s.oo s.ol s.oc] 29)) (.cells #[.int .i64 0, .int .i64 0, .int .i64 0, .int .i64 0, .int .i64 0, .int .i64 0, .int .i64 0, .int .i64 0] 31)
  have f3 := Fr.alloc ((w.alloc (.cells #[.int .i64 s.g, .slice s.lo s.ll s.lc, .slice s.co s.cl s.cc, .slice s.no s.nl s.nc, .slice s.oo s.ol s.oc] 29)).alloc (.cells #[.int .i64 0, .int .i64 0, .int .i64 0, .int .i64 0, .int .i64 0, .int .i64 0, .int .i64 0, .int .i64 0] 31)) (.cells #[.int .i64 20, .int .i64 0, .int .i64 0, .int .i64 0, .int .i64 0, .int .i64 0, .int .i64 0, .int .i64 0] 31)
  have hN : NX B w g w.heap.size (w.heap.size + 1) (w.heap.size + 1 + 1) s m ⟨20, 0, 0, 0, 0, 0, 0, 0⟩ (((w.alloc (.cells #[.int .i64 s.g, .slice s.lo s.ll s.lc, .slice s.co s.cl s.cc, .slice s.no s.nl s.nc, .slice s.oo s.ol s.oc] 29)).alloc (.cells #[.int .i64 0, .int .i64 0, .int .i64 0, .int .i64 0, .int .i64 0, .int .i64 0, .int .i64 0, .int .i64 0] 31)).alloc (.cells #[.int .i64 20, .int .i64 0, .int .i64 0, .int .i64 0, .int .i64 0, .int .i64 0, .int .i64 0, .int .i64 0] 31)) := by
    have fA := (f1.trans f2).trans f3
    have r1 := (EvB.new (w.alloc (.cells #[.int .i64 s.g, .slice s.lo s.ll s.lc, .slice s.co s.cl s.cc, .slice s.no s.nl s.nc, .slice s.oo s.ol s.oc] 29)) ⟨0, 0, 0, 0, 0, 0, 0, 0⟩).keep f3 (by simp)
    have r2 := EvB.new ((w.alloc (.cells #[.int .i64 s.g, .slice s.lo s.ll s.lc, .slice s.co s.cl s.cc, .slice s.no s.nl s.nc, .slice s.oo s.ol s.oc] 29)).alloc (.cells #[.int .i64 0, .int .i64 0, .int .i64 0, .int .i64 0, .int .i64 0, .int .i64 0, .int .i64 0, .int .i64 0] 31)) ⟨20, 0, 0, 0, 0, 0, 0, 0⟩
    simp only [World.size_alloc] at r1 r2
    exact ⟨hc.fr fA, fA.wide, (ScK.new w s).fr (f2.trans f3), r1, r2, h.fr fA, hgl, Nat.le_refl _, by omega, by omega, hB⟩
  have hsg : I64 s.g := by rw [h.g]; exact h.ig
  obtain ⟨sg, lo, ll, lc, co, cl, cc, no, nl, nc, oo, ol, oc⟩ := s
  simp only at hN hsg ⊢
  clear h hB hc f1 f2 f3 hgl
  go_enter Tryz.func90, Tryz.ntmps90
  go_wp2_with fail
  obtain ⟨W, hW⟩ : ∃ W, W = (((w.alloc (.cells #[.int .i64 sg, .slice lo ll lc, .slice co cl cc, .slice no nl nc, .slice oo ol oc] 29)).alloc (.cells #[.int .i64 0, .int .i64 0, .int .i64 0, .int .i64 0, .int .i64 0, .int .i64 0, .int .i64 0, .int .i64 0] 31)).alloc (.cells #[.int .i64 20, .int .i64 0, .int .i64 0, .int .i64 0, .int .i64 0, .int .i64 0, .int .i64 0, .int .i64 0] 31)) := ⟨_, rfl⟩
  rw [← hW] at hN ⊢
  obtain ⟨sb, hsb⟩ : ∃ sb, sb = w.heap.size := ⟨_, rfl⟩
  obtain ⟨rb, hrb⟩ : ∃ rb, rb = w.heap.size + 1 := ⟨_, rfl⟩
  obtain ⟨eb, heb⟩ : ∃ eb, eb = w.heap.size + 1 + 1 := ⟨_, rfl⟩
  rw [← heb] at hN ⊢
  rw [← hrb] at hN ⊢
  rw [← hsb] at hN ⊢
  clear hW hsb hrb heb
  go_loopw [6] (fun i wr => ∃ (k : Nat) (e : Ev), k ≤ 12 ∧ i = .int .i64 k ∧ EvI e ∧ NX B w g sb rb eb ⟨sg, lo, ll, lc, co, cl, cc, no, nl, nc, oo, ol, oc⟩ m e wr) (fun i _ => 12 - (intOf i).toNat)
  case atStart => exact ⟨0, _, by omega, rfl, ⟨⟨by decide, by decide⟩, ⟨by decide, by decide⟩, ⟨by decide, by decide⟩, ⟨by decide, by decide⟩, ⟨by decide, by decide⟩, ⟨by decide, by decide⟩, ⟨by decide, by decide⟩, ⟨by decide, by decide⟩⟩, hN⟩
  case round =>
    clear hN
    obtain ⟨i, e, hi, rfl, hE, hN⟩ := hrel
    by_cases hlt : i < 12
    · go_wp2_with fail
      refine (l2Draw_any _ _ hN.cur).mono ?_
      rintro x w1 ⟨⟨k, gr, o, wi, l, sz, f, t⟩, rfl, ⟨i0, i1, i2, i3, i4, i5, i6, i7⟩, c1, g1⟩
      simp only at i0 i1 i2 i3 i4 i5 i6 i7 ⊢
      have h1 := hN.draw c1 g1
      clear hN hE c1 g1
      obtain ⟨a0, a1, a2, a3, a4, a5, a6, a7⟩ := h1.ev.at
      have af := fun i => h1.ev.free i
      have h2 := h1.wrote (grown_st8 w1 eb (.int .i64 k) (.int .i64 gr) (.int .i64 o) (.int .i64 wi) (.int .i64 l) (.int .i64 sz) (.int .i64 f) (.int .i64 t)) (h1.ev.set8 ⟨k, gr, o, wi, l, sz, f, t⟩)
      clear h1
      go_upto_region 6 with fail
      clear a0 a1 a2 a3 a4 a5 a6 a7 af
      obtain ⟨w2, hw2⟩ : ∃ w2, w2 = ((((((((w1.setCell ⟨eb, 0, none⟩ (.int .i64 k)).setCell ⟨eb, 1, none⟩ (.int .i64 gr)).setCell ⟨eb, 2, none⟩ (.int .i64 o)).setCell ⟨eb, 3, none⟩ (.int .i64 wi)).setCell ⟨eb, 4, none⟩ (.int .i64 l)).setCell ⟨eb, 5, none⟩ (.int .i64 sz)).setCell ⟨eb, 6, none⟩ (.int .i64 f)).setCell ⟨eb, 7, none⟩ (.int .i64 t)) := ⟨_, rfl⟩
      rw [← hw2] at h2 ⊢
      clear hw2
      have c0 := h2.sc.at.c0
      simp only at c0
      go_wp2_with fail
      refine (l1Min_any _ _ _).mono ?_
      rintro e y ⟨rfl, rfl⟩
      obtain ⟨q, hq⟩ : ∃ q, q = min sg 16 := ⟨_, rfl⟩
      simp only [← hq]
      clear hq
      go_wp2_with fail
      refine (l1Max_any2 _ _ _).mono ?_
      rintro e y ⟨rfl, rfl⟩
      obtain ⟨q2, hq2⟩ : ∃ q2, q2 = max 1 q := ⟨_, rfl⟩
      simp only [← hq2]
      clear hq2
      go_wp2_with fail
      refine (l1Below_any _ _ _ h2.cur).mono ?_
      rintro e w3 ⟨x, rfl, x0, -, x2, c3, g3⟩
      have h3 := h2.draw c3 g3
      have xf := h3.ev.free 1
      have xc := h3.ev.at.2.1
      simp only at xc
      have h4 := h3.wrote (grown_set w3 eb 1 (.int .i64 x)) (h3.ev.setG x)
      simp only at h4
      clear h2 h3 c3 g3 c0 y
      go_upto_region 7 with fail
      clear xf xc
      obtain ⟨w4, hw4⟩ : ∃ w4, w4 = w3.setCell ⟨eb, 1, none⟩ (.int .i64 x) := ⟨_, rfl⟩
      rw [← hw4] at h4 ⊢
      clear hw4
      have n0 := h4.ev.at.1
      simp only at n0
      have ix : I64 x := ⟨by omega, by omega⟩
      by_cases hk1 : k = 1
      · subst hk1
        by_cases h5g : 5 ≤ sg
        · have hd : decide (5 ≤ sg) = true := decide_eq_true h5g
          obtain ⟨a0, a1, a2, a3, a4, a5, a6, a7⟩ := h4.ev.at
          have af := fun i => h4.ev.free i
          have cg := h4.sc.at.c0
          have h5 := h4.wrote (grown_st8 w4 eb (.int .i64 17) (.int .i64 x) (.int .i64 0) (.int .i64 0) (.int .i64 0) (.int .i64 0) (.int .i64 0) (.int .i64 0)) (h4.ev.set8 ⟨17, x, 0, 0, 0, 0, 0, 0⟩)
          simp only at a0 a1 a2 a3 a4 a5 a6 a7 cg h5
          clear h4 n0
          go_upto_region 14 with fail
          clear a0 a1 a2 a3 a4 a5 a6 a7 af cg
          obtain ⟨w5, hw5⟩ : ∃ w5, w5 = ((((((((w4.setCell ⟨eb, 0, none⟩ (.int .i64 17)).setCell ⟨eb, 1, none⟩ (.int .i64 x)).setCell ⟨eb, 2, none⟩ (.int .i64 0)).setCell ⟨eb, 3, none⟩ (.int .i64 0)).setCell ⟨eb, 4, none⟩ (.int .i64 0)).setCell ⟨eb, 5, none⟩ (.int .i64 0)).setCell ⟨eb, 6, none⟩ (.int .i64 0)).setCell ⟨eb, 7, none⟩ (.int .i64 0)) := ⟨_, rfl⟩
          rw [← hw5] at h5 ⊢
          clear hw5
          have ho2 : I64 0 := ⟨by decide, by decide⟩
          have cI := fun u (hs : ScR B u ⟨sg, lo, ll, lc, co, cl, cc, no, nl, nc, oo, ol, oc⟩ m) => codeIn_any ⟨sg, lo, ll, lc, co, cl, cc, no, nl, nc, oo, ol, oc⟩ m ⟨17, x, 0, 0, 0, 0, 0, 0⟩ u ho2 hs
          simp only at cI
          have hE : EvI ⟨17, x, 0, 0, 0, 0, 0, 0⟩ := ⟨(show I64 17 from ⟨by decide, by decide⟩), ix, ho2, ho2, ho2, ho2, ho2, ho2⟩
          obtain ⟨R, hR⟩ : ∃ R, R = codeIn m ⟨17, x, 0, 0, 0, 0, 0, 0⟩ := ⟨_, rfl⟩
          simp only [← hR] at cI
          clear hR
          obtain ⟨s0, s1, s2, s3, s4⟩ := h5.sc.at
          obtain ⟨e0, e1, e2, e3, e4, e5, e6, e7⟩ := h5.ev.at
          simp only at s0 s1 s2 s3 s4 e0 e1 e2 e3 e4 e5 e6 e7
          go_wp2_with fail
          refine (cI _ h5.scr).mono ?_
          rintro y w6 ⟨rfl, f6⟩
          have h6 := h5.fr f6
          clear cI s0 s1 s2 s3 s4 e0 e1 e2 e3 e4 e5 e6 e7 h5 f6
          cases hr : (R == 0)
          · go_wp2_with fail
            go_roundw
            case rel => exact ⟨i + 1, _, by omega, by go_num, hE, h6⟩
            case measure => simp [intOf]; omega
          · obtain ⟨e0, e1, e2, e3, e4, e5, e6, e7⟩ := h6.ev.at
            obtain ⟨u0, u1, u2, u3, u4, u5, u6, u7⟩ := h6.rs.at
            simp only at e0 e1 e2 e3 e4 e5 e6 e7 u0 u1 u2 u3 u4 u5 u6 u7
            have uf := fun i => h6.rs.free i
            have HF : Hid (Cur (((((((((w6.setCell ⟨rb, 0, none⟩ (.int .i64 17)).setCell ⟨rb, 1, none⟩ (.int .i64 x)).setCell ⟨rb, 2, none⟩ (.int .i64 0)).setCell ⟨rb, 3, none⟩ (.int .i64 0)).setCell ⟨rb, 4, none⟩ (.int .i64 0)).setCell ⟨rb, 5, none⟩ (.int .i64 0)).setCell ⟨rb, 6, none⟩ (.int .i64 0)).setCell ⟨rb, 7, none⟩ (.int .i64 0))) g ∧ w.grownBy (((((((((w6.setCell ⟨rb, 0, none⟩ (.int .i64 17)).setCell ⟨rb, 1, none⟩ (.int .i64 x)).setCell ⟨rb, 2, none⟩ (.int .i64 0)).setCell ⟨rb, 3, none⟩ (.int .i64 0)).setCell ⟨rb, 4, none⟩ (.int .i64 0)).setCell ⟨rb, 5, none⟩ (.int .i64 0)).setCell ⟨rb, 6, none⟩ (.int .i64 0)).setCell ⟨rb, 7, none⟩ (.int .i64 0))) (some g)) := h6.fin _ _ _ _ _ _ _ _
            clear h6
            go_wp2_with fail
            refine bodyPost_ret (v := .agg #[.int .i64 17, .int .i64 x, .int .i64 0, .int .i64 0, .int .i64 0, .int .i64 0, .int .i64 0, .int .i64 0]) (by simp [results, Tryz.results90, go_sem, u0, u1, u2, u3, u4, u5, u6, u7]) rfl ⟨⟨17, x, 0, 0, 0, 0, 0, 0⟩, rfl, hE, HF.out.1, HF.out.2⟩
        · have hd : decide (5 ≤ sg) = false := decide_eq_false h5g
          have h5g' : sg < 5 := by omega
          have a2 := h4.ev.at.2.2.1
          have af := h4.ev.free 2
          have cg := h4.sc.at.c0
          have h5 := h4.wrote (grown_set w4 eb 2 (.int .i64 sg)) (h4.ev.setO sg)
          simp only at a2 cg h5
          clear h4
          go_upto_region 14 with fail
          clear a2 af cg n0
          obtain ⟨w5, hw5⟩ : ∃ w5, w5 = w4.setCell ⟨eb, 2, none⟩ (.int .i64 sg) := ⟨_, rfl⟩
          rw [← hw5] at h5 ⊢
          clear hw5
          have ho2 : I64 sg := hsg
          have cI := fun u (hs : ScR B u ⟨sg, lo, ll, lc, co, cl, cc, no, nl, nc, oo, ol, oc⟩ m) => codeIn_any ⟨sg, lo, ll, lc, co, cl, cc, no, nl, nc, oo, ol, oc⟩ m ⟨1, x, sg, wi, l, sz, f, t⟩ u ho2 hs
          simp only at cI
          have hE : EvI ⟨1, x, sg, wi, l, sz, f, t⟩ := ⟨i0, ix, hsg, i3, i4, i5, i6, i7⟩
          obtain ⟨R, hR⟩ : ∃ R, R = codeIn m ⟨1, x, sg, wi, l, sz, f, t⟩ := ⟨_, rfl⟩
          simp only [← hR] at cI
          clear hR
          obtain ⟨s0, s1, s2, s3, s4⟩ := h5.sc.at
          obtain ⟨e0, e1, e2, e3, e4, e5, e6, e7⟩ := h5.ev.at
          simp only at s0 s1 s2 s3 s4 e0 e1 e2 e3 e4 e5 e6 e7
          go_wp2_with fail
          refine (cI _ h5.scr).mono ?_
          rintro y w6 ⟨rfl, f6⟩
          have h6 := h5.fr f6
          clear cI s0 s1 s2 s3 s4 e0 e1 e2 e3 e4 e5 e6 e7 h5 f6
          cases hr : (R == 0)
          · go_wp2_with fail
            go_roundw
            case rel => exact ⟨i + 1, _, by omega, by go_num, hE, h6⟩
            case measure => simp [intOf]; omega
          · obtain ⟨e0, e1, e2, e3, e4, e5, e6, e7⟩ := h6.ev.at
            obtain ⟨u0, u1, u2, u3, u4, u5, u6, u7⟩ := h6.rs.at
            simp only at e0 e1 e2 e3 e4 e5 e6 e7 u0 u1 u2 u3 u4 u5 u6 u7
            have uf := fun i => h6.rs.free i
            have HF : Hid (Cur (((((((((w6.setCell ⟨rb, 0, none⟩ (.int .i64 1)).setCell ⟨rb, 1, none⟩ (.int .i64 x)).setCell ⟨rb, 2, none⟩ (.int .i64 sg)).setCell ⟨rb, 3, none⟩ (.int .i64 wi)).setCell ⟨rb, 4, none⟩ (.int .i64 l)).setCell ⟨rb, 5, none⟩ (.int .i64 sz)).setCell ⟨rb, 6, none⟩ (.int .i64 f)).setCell ⟨rb, 7, none⟩ (.int .i64 t))) g ∧ w.grownBy (((((((((w6.setCell ⟨rb, 0, none⟩ (.int .i64 1)).setCell ⟨rb, 1, none⟩ (.int .i64 x)).setCell ⟨rb, 2, none⟩ (.int .i64 sg)).setCell ⟨rb, 3, none⟩ (.int .i64 wi)).setCell ⟨rb, 4, none⟩ (.int .i64 l)).setCell ⟨rb, 5, none⟩ (.int .i64 sz)).setCell ⟨rb, 6, none⟩ (.int .i64 f)).setCell ⟨rb, 7, none⟩ (.int .i64 t))) (some g)) := h6.fin _ _ _ _ _ _ _ _
            clear h6
            go_wp2_with fail
            refine bodyPost_ret (v := .agg #[.int .i64 1, .int .i64 x, .int .i64 sg, .int .i64 wi, .int .i64 l, .int .i64 sz, .int .i64 f, .int .i64 t]) (by simp [results, Tryz.results90, go_sem, u0, u1, u2, u3, u4, u5, u6, u7]) rfl ⟨⟨1, x, sg, wi, l, sz, f, t⟩, rfl, hE, HF.out.1, HF.out.2⟩
      · have ek1 : (k == 1) = false := beq_eq_false_iff_ne.2 hk1
        by_cases hk9 : k = 9
        · subst hk9
          have cg := h4.sc.at.c0
          simp only at cg
          go_wp2_with fail
          refine (l1Min_any _ _ _).mono ?_
          rintro e y ⟨rfl, rfl⟩
          obtain ⟨q, hq⟩ : ∃ q, q = min sg 16 := ⟨_, rfl⟩
          simp only [← hq]
          clear hq
          go_wp2_with fail
          refine (l1Max_any2 _ _ _).mono ?_
          rintro e y ⟨rfl, rfl⟩
          obtain ⟨q2, hq2⟩ : ∃ q2, q2 = max 1 q := ⟨_, rfl⟩
          simp only [← hq2]
          clear hq2
          go_wp2_with fail
          refine (l1Below_any _ _ _ h4.cur).mono ?_
          rintro e w5 ⟨x5, rfl, x50, -, x52, c5, g5⟩
          have h5 := h4.draw c5 g5
          have xf := h5.ev.free 3
          have xc := h5.ev.at.2.2.2.1
          have h5 := h5.wrote (grown_set w5 eb 3 (.int .i64 x5)) (h5.ev.setW x5)
          simp only at xc h5
          clear h4 c5 g5 cg n0
          go_upto_region 14 with fail
          clear xf xc
          obtain ⟨w8, hw8⟩ : ∃ w8, w8 = w5.setCell ⟨eb, 3, none⟩ (.int .i64 x5) := ⟨_, rfl⟩
          rw [← hw8] at h5 ⊢
          clear hw8
          have ho2 : I64 o := i2
          have cI := fun u (hs : ScR B u ⟨sg, lo, ll, lc, co, cl, cc, no, nl, nc, oo, ol, oc⟩ m) => codeIn_any ⟨sg, lo, ll, lc, co, cl, cc, no, nl, nc, oo, ol, oc⟩ m ⟨9, x, o, x5, l, sz, f, t⟩ u ho2 hs
          simp only at cI
          have hE : EvI ⟨9, x, o, x5, l, sz, f, t⟩ := ⟨i0, ix, i2, (show I64 x5 from ⟨by omega, by omega⟩), i4, i5, i6, i7⟩
          obtain ⟨R, hR⟩ : ∃ R, R = codeIn m ⟨9, x, o, x5, l, sz, f, t⟩ := ⟨_, rfl⟩
          simp only [← hR] at cI
          clear hR
          obtain ⟨s0, s1, s2, s3, s4⟩ := h5.sc.at
          obtain ⟨e0, e1, e2, e3, e4, e5, e6, e7⟩ := h5.ev.at
          simp only at s0 s1 s2 s3 s4 e0 e1 e2 e3 e4 e5 e6 e7
          go_wp2_with fail
          refine (cI _ h5.scr).mono ?_
          rintro y w6 ⟨rfl, f6⟩
          have h6 := h5.fr f6
          clear cI s0 s1 s2 s3 s4 e0 e1 e2 e3 e4 e5 e6 e7 h5 f6
          cases hr : (R == 0)
          · go_wp2_with fail
            go_roundw
            case rel => exact ⟨i + 1, _, by omega, by go_num, hE, h6⟩
            case measure => simp [intOf]; omega
          · obtain ⟨e0, e1, e2, e3, e4, e5, e6, e7⟩ := h6.ev.at
            obtain ⟨u0, u1, u2, u3, u4, u5, u6, u7⟩ := h6.rs.at
            simp only at e0 e1 e2 e3 e4 e5 e6 e7 u0 u1 u2 u3 u4 u5 u6 u7
            have uf := fun i => h6.rs.free i
            have HF : Hid (Cur (((((((((w6.setCell ⟨rb, 0, none⟩ (.int .i64 9)).setCell ⟨rb, 1, none⟩ (.int .i64 x)).setCell ⟨rb, 2, none⟩ (.int .i64 o)).setCell ⟨rb, 3, none⟩ (.int .i64 x5)).setCell ⟨rb, 4, none⟩ (.int .i64 l)).setCell ⟨rb, 5, none⟩ (.int .i64 sz)).setCell ⟨rb, 6, none⟩ (.int .i64 f)).setCell ⟨rb, 7, none⟩ (.int .i64 t))) g ∧ w.grownBy (((((((((w6.setCell ⟨rb, 0, none⟩ (.int .i64 9)).setCell ⟨rb, 1, none⟩ (.int .i64 x)).setCell ⟨rb, 2, none⟩ (.int .i64 o)).setCell ⟨rb, 3, none⟩ (.int .i64 x5)).setCell ⟨rb, 4, none⟩ (.int .i64 l)).setCell ⟨rb, 5, none⟩ (.int .i64 sz)).setCell ⟨rb, 6, none⟩ (.int .i64 f)).setCell ⟨rb, 7, none⟩ (.int .i64 t))) (some g)) := h6.fin _ _ _ _ _ _ _ _
            clear h6
            go_wp2_with fail
            refine bodyPost_ret (v := .agg #[.int .i64 9, .int .i64 x, .int .i64 o, .int .i64 x5, .int .i64 l, .int .i64 sz, .int .i64 f, .int .i64 t]) (by simp [results, Tryz.results90, go_sem, u0, u1, u2, u3, u4, u5, u6, u7]) rfl ⟨⟨9, x, o, x5, l, sz, f, t⟩, rfl, hE, HF.out.1, HF.out.2⟩
        · have ek9 : (k == 9) = false := beq_eq_false_iff_ne.2 hk9
          clear hk1 hk9
          go_upto_region 14 with fail
          have h5 := h4
          clear h4 n0
          have ho2 : I64 o := i2
          have cI := fun u (hs : ScR B u ⟨sg, lo, ll, lc, co, cl, cc, no, nl, nc, oo, ol, oc⟩ m) => codeIn_any ⟨sg, lo, ll, lc, co, cl, cc, no, nl, nc, oo, ol, oc⟩ m ⟨k, x, o, wi, l, sz, f, t⟩ u ho2 hs
          simp only at cI
          have hE : EvI ⟨k, x, o, wi, l, sz, f, t⟩ := ⟨i0, ix, i2, i3, i4, i5, i6, i7⟩
          obtain ⟨R, hR⟩ : ∃ R, R = codeIn m ⟨k, x, o, wi, l, sz, f, t⟩ := ⟨_, rfl⟩
          simp only [← hR] at cI
          clear hR
          obtain ⟨s0, s1, s2, s3, s4⟩ := h5.sc.at
          obtain ⟨e0, e1, e2, e3, e4, e5, e6, e7⟩ := h5.ev.at
          simp only at s0 s1 s2 s3 s4 e0 e1 e2 e3 e4 e5 e6 e7
          go_wp2_with fail
          refine (cI _ h5.scr).mono ?_
          rintro y w6 ⟨rfl, f6⟩
          have h6 := h5.fr f6
          clear cI s0 s1 s2 s3 s4 e0 e1 e2 e3 e4 e5 e6 e7 h5 f6
          cases hr : (R == 0)
          · go_wp2_with fail
            go_roundw
            case rel => exact ⟨i + 1, _, by omega, by go_num, hE, h6⟩
            case measure => simp [intOf]; omega
          · obtain ⟨e0, e1, e2, e3, e4, e5, e6, e7⟩ := h6.ev.at
            obtain ⟨u0, u1, u2, u3, u4, u5, u6, u7⟩ := h6.rs.at
            simp only at e0 e1 e2 e3 e4 e5 e6 e7 u0 u1 u2 u3 u4 u5 u6 u7
            have uf := fun i => h6.rs.free i
            have HF : Hid (Cur (((((((((w6.setCell ⟨rb, 0, none⟩ (.int .i64 k)).setCell ⟨rb, 1, none⟩ (.int .i64 x)).setCell ⟨rb, 2, none⟩ (.int .i64 o)).setCell ⟨rb, 3, none⟩ (.int .i64 wi)).setCell ⟨rb, 4, none⟩ (.int .i64 l)).setCell ⟨rb, 5, none⟩ (.int .i64 sz)).setCell ⟨rb, 6, none⟩ (.int .i64 f)).setCell ⟨rb, 7, none⟩ (.int .i64 t))) g ∧ w.grownBy (((((((((w6.setCell ⟨rb, 0, none⟩ (.int .i64 k)).setCell ⟨rb, 1, none⟩ (.int .i64 x)).setCell ⟨rb, 2, none⟩ (.int .i64 o)).setCell ⟨rb, 3, none⟩ (.int .i64 wi)).setCell ⟨rb, 4, none⟩ (.int .i64 l)).setCell ⟨rb, 5, none⟩ (.int .i64 sz)).setCell ⟨rb, 6, none⟩ (.int .i64 f)).setCell ⟨rb, 7, none⟩ (.int .i64 t))) (some g)) := h6.fin _ _ _ _ _ _ _ _
            clear h6
            go_wp2_with fail
            refine bodyPost_ret (v := .agg #[.int .i64 k, .int .i64 x, .int .i64 o, .int .i64 wi, .int .i64 l, .int .i64 sz, .int .i64 f, .int .i64 t]) (by simp [results, Tryz.results90, go_sem, u0, u1, u2, u3, u4, u5, u6, u7]) rfl ⟨⟨k, x, o, wi, l, sz, f, t⟩, rfl, hE, HF.out.1, HF.out.2⟩
    · have et : i = 12 := by omega
      subst et
      obtain ⟨k, gr, o, wi, l, sz, f, t⟩ := e
      obtain ⟨e0, e1, e2, e3, e4, e5, e6, e7⟩ := hN.ev.at
      obtain ⟨u0, u1, u2, u3, u4, u5, u6, u7⟩ := hN.rs.at
      simp only at e0 e1 e2 e3 e4 e5 e6 e7 u0 u1 u2 u3 u4 u5 u6 u7
      have uf := fun i => hN.rs.free i
      have HF : Hid (Cur (((((((((wr.setCell ⟨rb, 0, none⟩ (.int .i64 k)).setCell ⟨rb, 1, none⟩ (.int .i64 gr)).setCell ⟨rb, 2, none⟩ (.int .i64 o)).setCell ⟨rb, 3, none⟩ (.int .i64 wi)).setCell ⟨rb, 4, none⟩ (.int .i64 l)).setCell ⟨rb, 5, none⟩ (.int .i64 sz)).setCell ⟨rb, 6, none⟩ (.int .i64 f)).setCell ⟨rb, 7, none⟩ (.int .i64 t))) g ∧ w.grownBy ((((((((wr.setCell ⟨rb, 0, none⟩ (.int .i64 k)).setCell ⟨rb, 1, none⟩ (.int .i64 gr)).setCell ⟨rb, 2, none⟩ (.int .i64 o)).setCell ⟨rb, 3, none⟩ (.int .i64 wi)).setCell ⟨rb, 4, none⟩ (.int .i64 l)).setCell ⟨rb, 5, none⟩ (.int .i64 sz)).setCell ⟨rb, 6, none⟩ (.int .i64 f)).setCell ⟨rb, 7, none⟩ (.int .i64 t)) (some g)) := hN.fin _ _ _ _ _ _ _ _
      clear hN
      go_wp2_with fail
      refine bodyPost_ret (v := .agg #[.int .i64 k, .int .i64 gr, .int .i64 o, .int .i64 wi, .int .i64 l, .int .i64 sz, .int .i64 f, .int .i64 t]) (by simp [results, Tryz.results90, go_sem, u0, u1, u2, u3, u4, u5, u6, u7]) rfl ⟨⟨k, gr, o, wi, l, sz, f, t⟩, rfl, hE, HF.out.1, HF.out.2⟩
end Go.Proofs.YtikjodbboljhjaaGreatDoor
