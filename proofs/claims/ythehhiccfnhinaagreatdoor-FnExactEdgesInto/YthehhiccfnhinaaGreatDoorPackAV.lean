/-
  An event that can mostly be done next: l5Next.
-/
import Derived.Test.YthehhiccfnhinaaGreatDoorPackAJ
import Derived.Test.YthehhiccfnhinaaGreatDoorPackAU
import Derived.Deep.DeepCutAuto
import Derived.Test.YthehhiccfnhinaaGreatDoorPackAD
import Derived.Test.YthehhiccfnhinaaGreatDoorPackAF
import Derived.Test.YthehhiccfnhinaaGreatDoorPackAA
import Derived.Maps.AppendAt
import Derived.Test.YthehhiccfnhinaaGreatDoorPackAP
namespace Go.Proofs.YthehhiccfnhinaaGreatDoor
open Go.RowKit

theorem l1Max_any2 (a b : Int) (w : World) :
    Calls Tryz.prog 169 #[.int .i64 a, .int .i64 b] w fun e w' => e = .returned (.int .i64 (max a b)) ∧ w' = w := by
  by_cases h : b < a
  · go_enter Tryz.func169, Tryz.ntmps169
    go_wp2
    go_ret
    exact ⟨ret_int (by omega), rfl⟩
  · go_enter Tryz.func169, Tryz.ntmps169
    go_wp2
    go_ret
    exact ⟨ret_int (by omega), rfl⟩

/-- The state in the midst of l5Next: the cursor in g, the boxed scene in sb, the answer's cell in rb, the event in eb. -/
structure NX (B : Nat → Prop) (w0 : World) (g sb rb eb : Nat) (s : Sv) (m : Scn) (e : Ev) (wr : World) : Prop where
  cur : Cur wr g
  gro : w0.grownBy wr (some g)
  sc : ScK wr sb s
  rs : EvB wr rb ⟨0, 0, 0, 0, 0, 0, 0, 0⟩
  ev : EvB wr eb e
  scr : ScR B wr s m
  gl : g < w0.heap.size
  sl : w0.heap.size ≤ sb
  rl : sb < rb
  el : rb < eb
  bB : ∀ b, B b → b < w0.heap.size ∧ b ≠ g
theorem NX.draw {B : Nat → Prop} {w0 wr w' : World} {g sb rb eb : Nat} {s : Sv} {m : Scn} {e : Ev} (h : NX B w0 g sb rb eb s m e wr) (c : Cur w' g) (k : wr.grownBy w' (some g)) : NX B w0 g sb rb eb s m e w' := by
  have h1 := h.gl; have h2 := h.sl; have h3 := h.rl; have h4 := h.el
  exact { h with cur := c, gro := grown_trans h.gro k, sc := h.sc.keep k (by simp; omega), rs := h.rs.keep k (by simp; omega), ev := h.ev.keep k (by simp; omega), scr := h.scr.keep k (fun j hj => by cases hj; exact fun q => (h.bB _ q).2 rfl) }
theorem NX.fr {B : Nat → Prop} {w0 wr w' : World} {g sb rb eb : Nat} {s : Sv} {m : Scn} {e : Ev} (h : NX B w0 g sb rb eb s m e wr) (k : Fr wr w') : NX B w0 g sb rb eb s m e w' :=
  { h with cur := h.cur.fr k, gro := grown_trans h.gro k.wide, sc := h.sc.fr k, rs := h.rs.keep k (by simp), ev := h.ev.keep k (by simp), scr := h.scr.fr k }
theorem NX.wrote {B : Nat → Prop} {w0 wr w' : World} {g sb rb eb : Nat} {s : Sv} {m : Scn} {e e' : Ev} (h : NX B w0 g sb rb eb s m e wr) (k : wr.grownBy w' (some eb)) (hb : EvB w' eb e') : NX B w0 g sb rb eb s m e' w' := by
  have h1 := h.gl; have h2 := h.sl; have h3 := h.rl; have h4 := h.el
  exact { h with cur := h.cur.other k (by intro j hj; simp only [Option.some.injEq] at hj; omega), gro := grown_then h.gro k (by intro j hj; simp only [Option.some.injEq] at hj; omega), sc := h.sc.keep k (by simp; omega), rs := h.rs.keep k (by simp; omega), ev := hb, scr := h.scr.keep k (fun j hj => by cases hj; intro q; have := (h.bB _ q).1; omega) }

theorem NX.fin {B : Nat → Prop} {w0 wr : World} {g sb rb eb : Nat} {s : Sv} {m : Scn} {e : Ev} (h : NX B w0 g sb rb eb s m e wr) (v0 v1 v2 v3 v4 v5 v6 v7 : Value) :
    Cur ((((((((wr.setCell ⟨rb, 0, none⟩ v0).setCell ⟨rb, 1, none⟩ v1).setCell ⟨rb, 2, none⟩ v2).setCell ⟨rb, 3, none⟩ v3).setCell ⟨rb, 4, none⟩ v4).setCell ⟨rb, 5, none⟩ v5).setCell ⟨rb, 6, none⟩ v6).setCell ⟨rb, 7, none⟩ v7) g ∧
    w0.grownBy ((((((((wr.setCell ⟨rb, 0, none⟩ v0).setCell ⟨rb, 1, none⟩ v1).setCell ⟨rb, 2, none⟩ v2).setCell ⟨rb, 3, none⟩ v3).setCell ⟨rb, 4, none⟩ v4).setCell ⟨rb, 5, none⟩ v5).setCell ⟨rb, 6, none⟩ v6).setCell ⟨rb, 7, none⟩ v7) (some g) := by
  have k := grown_st8 wr rb v0 v1 v2 v3 v4 v5 v6 v7
  have h1 := h.gl; have h2 := h.sl; have h3 := h.rl
  exact ⟨h.cur.other k (by intro j hj; simp only [Option.some.injEq] at hj; omega), grown_then h.gro k (by intro j hj; simp only [Option.some.injEq] at hj; omega)⟩

set_option maxRecDepth 20000 in
set_option maxHeartbeats 8000000 in
theorem l5Next_any {B : Nat → Prop} (g : Nat) (s : Sv) (m : Scn) (w : World) (hc : Cur w g) (hB : ∀ b, B b → b < w.heap.size ∧ b ≠ g) (h : ScR B w s m) :
    Calls Tryz.prog 105 #[.pointer (some ⟨g, 0, none⟩), .agg #[.int .i64 s.g, .slice s.lo s.ll s.lc, .slice s.co s.cl s.cc, .slice s.no s.nl s.nc, .slice s.oo s.ol s.oc]] w fun x w' => ∃ e : Ev, x = .returned (.agg #[.int .i64 e.k, .int .i64 e.g, .int .i64 e.o, .int .i64 e.w, .int .i64 e.l, .int .i64 e.s, .int .i64 e.f, .int .i64 e.t]) ∧ EvI e ∧ Cur w' g ∧ w.grownBy w' (some g) := by
  have hgl := hc.lt
  have f1 := Fr.alloc w (.cells #[.int .i64 s.g, .slice s.lo s.ll s.lc, .slice s.co s.cl s.cc, .slice s.no s.nl s.nc, .slice s.oo s.ol s.oc] 29)
  have f2 := Fr.alloc (w.alloc (.cells #[.int .i64 s.g, .slice s.lo s.ll s.lc, .slice s.co s.cl s.cc, .slice s.no s.nl s.nc, .slice s.oo s.ol s.oc] 29)) (.cells #[.int .i64 0, .int .i64 0, .int .i64 0, .int .i64 0, .int .i64 0, .int .i64 0, .int .i64 0, .int .i64 0] 31)
  have f3 := Fr.alloc ((w.alloc (.cells #[.int .i64 s.g, .slice s.lo s.ll s.lc, .slice s.co s.cl s.cc, .slice s.no s.nl s.nc, .slice s.oo s.ol s.oc] 29)).alloc (.cells #[.int .i64 0, .int .i64 0, .int .i64 0, .int .i64 0, .int .i64 0, .int .i64 0, .int .i64 0, .int .i64 0] 31)) (.cells #[.int .i64 20, .int .i64 0, .int .i64 0, .int .i64 0, .int .i64 0, .int .i64 0, .int .i64 0, .int .i64 0] 31)
  have hN : NX B w g w.heap.size (w.heap.size + 1) (w.heap.size + 1 + 1) s m ⟨20, 0, 0, 0, 0, 0, 0, 0⟩ (((w.alloc (.cells #[.int .i64 s.g, .slice s.lo s.ll s.lc, .slice s.co s.cl s.cc, .slice s.no s.nl s.nc, .slice s.oo s.ol s.oc] 29)).alloc (.cells #[.int .i64 0, .int .i64 0, .int .i64 0, .int .i64 0, .int .i64 0, .int .i64 0, .int .i64 0, .int .i64 0] 31)).alloc (.cells #[.int .i64 20, .int .i64 0, .int .i64 0, .int .i64 0, .int .i64 0, .int .i64 0, .int .i64 0, .int .i64 0] 31)) := by
    have fA := (f1.trans f2).trans f3
    have r1 := (EvB.new (w.alloc (.cells #[.int .i64 s.g, .slice s.lo s.ll s.lc, .slice s.co s.cl s.cc, .slice s.no s.nl s.nc, .slice s.oo s.ol s.oc] 29)) ⟨0, 0, 0, 0, 0, 0, 0, 0⟩).keep f3 (by simp)
    have r2 := EvB.new ((w.alloc (.cells #[.int .i64 s.g, .slice s.lo s.ll s.lc, .slice s.co s.cl s.cc, .slice s.no s.nl s.nc, .slice s.oo s.ol s.oc] 29)).alloc (.cells #[.int .i64 0, .int .i64 0, .int .i64 0, .int .i64 0, .int .i64 0, .int .i64 0, .int .i64 0, .int .i64 0] 31)) ⟨20, 0, 0, 0, 0, 0, 0, 0⟩
    simp only [World.size_alloc] at r1 r2
    exact ⟨hc.fr fA, fA.wide, (ScK.new w s).fr (f2.trans f3), r1, r2, h.fr fA, hgl, Nat.le_refl _, by omega, by omega, hB⟩
  have hsg : I64 s.g := by rw [h.g]; exact h.ig
  obtain ⟨sg, lo, ll, lc, co, cl, cc, no, nl, nc, oo, ol, oc⟩ := s
  simp only at hN hsg ⊢
  clear h hB hc f1 f2 f3 hgl
  go_enter Tryz.func105, Tryz.ntmps105
  go_wp2_with fail
  obtain ⟨W, hW⟩ : ∃ W, W = (((w.alloc (.cells #[.int .i64 sg, .slice lo ll lc, .slice co cl cc, .slice no nl nc, .slice oo ol oc] 29)).alloc (.cells #[.int .i64 0, .int .i64 0, .int .i64 0, .int .i64 0, .int .i64 0, .int .i64 0, .int .i64 0, .int .i64 0] 31)).alloc (.cells #[.int .i64 20, .int .i64 0, .int .i64 0, .int .i64 0, .int .i64 0, .int .i64 0, .int .i64 0, .int .i64 0] 31)) := ⟨_, rfl⟩
  rw [← hW] at hN ⊢
  obtain ⟨sb, hsb⟩ : ∃ sb, sb = w.heap.size := ⟨_, rfl⟩
  obtain ⟨rb, hrb⟩ : ∃ rb, rb = w.heap.size + 1 := ⟨_, rfl⟩
  obtain ⟨eb, heb⟩ : ∃ eb, eb = w.heap.size + 1 + 1 := ⟨_, rfl⟩
  rw [← heb] at hN ⊢
  rw [← hrb] at hN ⊢
  rw [← hsb] at hN ⊢
  clear hW hsb hrb heb
  go_loopw [6] (fun i wr => ∃ (k : Nat) (e : Ev), k ≤ 12 ∧ i = .int .i64 k ∧ EvI e ∧ NX B w g sb rb eb ⟨sg, lo, ll, lc, co, cl, cc, no, nl, nc, oo, ol, oc⟩ m e wr) (fun i _ => 12 - (intOf i).toNat)
  case atStart => exact ⟨0, _, by omega, rfl, ⟨⟨by decide, by decide⟩, ⟨by decide, by decide⟩, ⟨by decide, by decide⟩, ⟨by decide, by decide⟩, ⟨by decide, by decide⟩, ⟨by decide, by decide⟩, ⟨by decide, by decide⟩, ⟨by decide, by decide⟩⟩, hN⟩
  case round =>
    clear hN
    obtain ⟨i, e, hi, rfl, hE, hN⟩ := hrel
    by_cases hlt : i < 12
    · go_wp2_with fail
      refine (l2Draw_any _ _ hN.cur).mono ?_
      rintro x w1 ⟨⟨k, gr, o, wi, l, sz, f, t⟩, rfl, ⟨i0, i1, i2, i3, i4, i5, i6, i7⟩, c1, g1⟩
      simp only at i0 i1 i2 i3 i4 i5 i6 i7 ⊢
      have h1 := hN.draw c1 g1
      clear hN hE c1 g1
      obtain ⟨a0, a1, a2, a3, a4, a5, a6, a7⟩ := h1.ev.at
      have af := fun i => h1.ev.free i
      have h2 := h1.wrote (grown_st8 w1 eb (.int .i64 k) (.int .i64 gr) (.int .i64 o) (.int .i64 wi) (.int .i64 l) (.int .i64 sz) (.int .i64 f) (.int .i64 t)) (h1.ev.set8 ⟨k, gr, o, wi, l, sz, f, t⟩)
      clear h1
      go_upto_region 6 with fail
      clear a0 a1 a2 a3 a4 a5 a6 a7 af
      obtain ⟨w2, hw2⟩ : ∃ w2, w2 = ((((((((w1.setCell ⟨eb, 0, none⟩ (.int .i64 k)).setCell ⟨eb, 1, none⟩ (.int .i64 gr)).setCell ⟨eb, 2, none⟩ (.int .i64 o)).setCell ⟨eb, 3, none⟩ (.int .i64 wi)).setCell ⟨eb, 4, none⟩ (.int .i64 l)).setCell ⟨eb, 5, none⟩ (.int .i64 sz)).setCell ⟨eb, 6, none⟩ (.int .i64 f)).setCell ⟨eb, 7, none⟩ (.int .i64 t)) := ⟨_, rfl⟩
      rw [← hw2] at h2 ⊢
      clear hw2
      have c0 := h2.sc.at.c0
      simp only at c0
      go_wp2_with fail
      refine (l1Min_any _ _ _).mono ?_
      rintro e y ⟨rfl, rfl⟩
      obtain ⟨q, hq⟩ : ∃ q, q = min sg 16 := ⟨_, rfl⟩
      simp only [← hq]
      clear hq
      go_wp2_with fail
      refine (l1Max_any2 _ _ _).mono ?_
      rintro e y ⟨rfl, rfl⟩
      obtain ⟨q2, hq2⟩ : ∃ q2, q2 = max 1 q := ⟨_, rfl⟩
      simp only [← hq2]
      clear hq2
      go_wp2_with fail
      refine (l1Below_any _ _ _ h2.cur).mono ?_
      rintro e w3 ⟨x, rfl, x0, -, x2, c3, g3⟩
      have h3 := h2.draw c3 g3
      have xf := h3.ev.free 1
      have xc := h3.ev.at.2.1
      simp only at xc
      have h4 := h3.wrote (grown_set w3 eb 1 (.int .i64 x)) (h3.ev.setG x)
      simp only at h4
      clear h2 h3 c3 g3 c0 y
      go_upto_region 7 with fail
      clear xf xc
      obtain ⟨w4, hw4⟩ : ∃ w4, w4 = w3.setCell ⟨eb, 1, none⟩ (.int .i64 x) := ⟨_, rfl⟩
      rw [← hw4] at h4 ⊢
      clear hw4
      have n0 := h4.ev.at.1
      simp only at n0
      have ix : I64 x := ⟨by omega, by omega⟩
      by_cases hk1 : k = 1
      · subst hk1
        by_cases h5g : 5 ≤ sg
        · have hd : decide (5 ≤ sg) = true := decide_eq_true h5g
          obtain ⟨a0, a1, a2, a3, a4, a5, a6, a7⟩ := h4.ev.at
          have af := fun i => h4.ev.free i
          have cg := h4.sc.at.c0
          have h5 := h4.wrote (grown_st8 w4 eb (.int .i64 17) (.int .i64 x) (.int .i64 0) (.int .i64 0) (.int .i64 0) (.int .i64 0) (.int .i64 0) (.int .i64 0)) (h4.ev.set8 ⟨17, x, 0, 0, 0, 0, 0, 0⟩)
          simp only at a0 a1 a2 a3 a4 a5 a6 a7 cg h5
          clear h4 n0
          go_upto_region 14 with fail
          clear a0 a1 a2 a3 a4 a5 a6 a7 af cg
          obtain ⟨w5, hw5⟩ : ∃ w5, w5 = ((((((((w4.setCell ⟨eb, 0, none⟩ (.int .i64 17)).setCell ⟨eb, 1, none⟩ (.int .i64 x)).setCell ⟨eb, 2, none⟩ (.int .i64 0)).setCell ⟨eb, 3, none⟩ (.int .i64 0)).setCell ⟨eb, 4, none⟩ (.int .i64 0)).setCell ⟨eb, 5, none⟩ (.int .i64 0)).setCell ⟨eb, 6, none⟩ (.int .i64 0)).setCell ⟨eb, 7, none⟩ (.int .i64 0)) := ⟨_, rfl⟩
          rw [← hw5] at h5 ⊢
          clear hw5
          have ho2 : I64 0 := ⟨by decide, by decide⟩
          have cI := fun u (hs : ScR B u ⟨sg, lo, ll, lc, co, cl, cc, no, nl, nc, oo, ol, oc⟩ m) => codeIn_any ⟨sg, lo, ll, lc, co, cl, cc, no, nl, nc, oo, ol, oc⟩ m ⟨17, x, 0, 0, 0, 0, 0, 0⟩ u ho2 hs
          simp only at cI
          have hE : EvI ⟨17, x, 0, 0, 0, 0, 0, 0⟩ := ⟨(show I64 17 from ⟨by decide, by decide⟩), ix, ho2, ho2, ho2, ho2, ho2, ho2⟩
          obtain ⟨R, hR⟩ : ∃ R, R = codeIn m ⟨17, x, 0, 0, 0, 0, 0, 0⟩ := ⟨_, rfl⟩
          simp only [← hR] at cI
          clear hR
          obtain ⟨s0, s1, s2, s3, s4⟩ := h5.sc.at
          obtain ⟨e0, e1, e2, e3, e4, e5, e6, e7⟩ := h5.ev.at
          simp only at s0 s1 s2 s3 s4 e0 e1 e2 e3 e4 e5 e6 e7
          go_wp2_with fail
          refine (cI _ h5.scr).mono ?_
          rintro y w6 ⟨rfl, f6⟩
          have h6 := h5.fr f6
          clear cI s0 s1 s2 s3 s4 e0 e1 e2 e3 e4 e5 e6 e7 h5 f6
          cases hr : (R == 0)
          · go_wp2_with fail
            go_roundw
            case rel => exact ⟨i + 1, _, by omega, by go_num, hE, h6⟩
            case measure => simp [intOf]; omega
          · obtain ⟨e0, e1, e2, e3, e4, e5, e6, e7⟩ := h6.ev.at
            obtain ⟨u0, u1, u2, u3, u4, u5, u6, u7⟩ := h6.rs.at
            simp only at e0 e1 e2 e3 e4 e5 e6 e7 u0 u1 u2 u3 u4 u5 u6 u7
            have uf := fun i => h6.rs.free i
            have HF : Hid (Cur (((((((((w6.setCell ⟨rb, 0, none⟩ (.int .i64 17)).setCell ⟨rb, 1, none⟩ (.int .i64 x)).setCell ⟨rb, 2, none⟩ (.int .i64 0)).setCell ⟨rb, 3, none⟩ (.int .i64 0)).setCell ⟨rb, 4, none⟩ (.int .i64 0)).setCell ⟨rb, 5, none⟩ (.int .i64 0)).setCell ⟨rb, 6, none⟩ (.int .i64 0)).setCell ⟨rb, 7, none⟩ (.int .i64 0))) g ∧ w.grownBy (((((((((w6.setCell ⟨rb, 0, none⟩ (.int .i64 17)).setCell ⟨rb, 1, none⟩ (.int .i64 x)).setCell ⟨rb, 2, none⟩ (.int .i64 0)).setCell ⟨rb, 3, none⟩ (.int .i64 0)).setCell ⟨rb, 4, none⟩ (.int .i64 0)).setCell ⟨rb, 5, none⟩ (.int .i64 0)).setCell ⟨rb, 6, none⟩ (.int .i64 0)).setCell ⟨rb, 7, none⟩ (.int .i64 0))) (some g)) := h6.fin _ _ _ _ _ _ _ _
            clear h6
            go_wp2_with fail
            refine bodyPost_ret (v := .agg #[.int .i64 17, .int .i64 x, .int .i64 0, .int .i64 0, .int .i64 0, .int .i64 0, .int .i64 0, .int .i64 0]) (by simp [results, Tryz.results105, go_sem, u0, u1, u2, u3, u4, u5, u6, u7]) rfl ⟨⟨17, x, 0, 0, 0, 0, 0, 0⟩, rfl, hE, HF.out.1, HF.out.2⟩
        · have hd : decide (5 ≤ sg) = false := decide_eq_false h5g
          have h5g' : sg < 5 := by omega
          have a2 := h4.ev.at.2.2.1
          have af := h4.ev.free 2
          have cg := h4.sc.at.c0
          have h5 := h4.wrote (grown_set w4 eb 2 (.int .i64 sg)) (h4.ev.setO sg)
          simp only at a2 cg h5
          clear h4
          go_upto_region 14 with fail
          clear a2 af cg n0
          obtain ⟨w5, hw5⟩ : ∃ w5, w5 = w4.setCell ⟨eb, 2, none⟩ (.int .i64 sg) := ⟨_, rfl⟩
          rw [← hw5] at h5 ⊢
          clear hw5
          have ho2 : I64 sg := hsg
          have cI := fun u (hs : ScR B u ⟨sg, lo, ll, lc, co, cl, cc, no, nl, nc, oo, ol, oc⟩ m) => codeIn_any ⟨sg, lo, ll, lc, co, cl, cc, no, nl, nc, oo, ol, oc⟩ m ⟨1, x, sg, wi, l, sz, f, t⟩ u ho2 hs
          simp only at cI
          have hE : EvI ⟨1, x, sg, wi, l, sz, f, t⟩ := ⟨i0, ix, hsg, i3, i4, i5, i6, i7⟩
          obtain ⟨R, hR⟩ : ∃ R, R = codeIn m ⟨1, x, sg, wi, l, sz, f, t⟩ := ⟨_, rfl⟩
          simp only [← hR] at cI
          clear hR
          obtain ⟨s0, s1, s2, s3, s4⟩ := h5.sc.at
          obtain ⟨e0, e1, e2, e3, e4, e5, e6, e7⟩ := h5.ev.at
          simp only at s0 s1 s2 s3 s4 e0 e1 e2 e3 e4 e5 e6 e7
          go_wp2_with fail
          refine (cI _ h5.scr).mono ?_
          rintro y w6 ⟨rfl, f6⟩
          have h6 := h5.fr f6
          clear cI s0 s1 s2 s3 s4 e0 e1 e2 e3 e4 e5 e6 e7 h5 f6
          cases hr : (R == 0)
          · go_wp2_with fail
            go_roundw
            case rel => exact ⟨i + 1, _, by omega, by go_num, hE, h6⟩
            case measure => simp [intOf]; omega
          · obtain ⟨e0, e1, e2, e3, e4, e5, e6, e7⟩ := h6.ev.at
            obtain ⟨u0, u1, u2, u3, u4, u5, u6, u7⟩ := h6.rs.at
            simp only at e0 e1 e2 e3 e4 e5 e6 e7 u0 u1 u2 u3 u4 u5 u6 u7
            have uf := fun i => h6.rs.free i
            have HF : Hid (Cur (((((((((w6.setCell ⟨rb, 0, none⟩ (.int .i64 1)).setCell ⟨rb, 1, none⟩ (.int .i64 x)).setCell ⟨rb, 2, none⟩ (.int .i64 sg)).setCell ⟨rb, 3, none⟩ (.int .i64 wi)).setCell ⟨rb, 4, none⟩ (.int .i64 l)).setCell ⟨rb, 5, none⟩ (.int .i64 sz)).setCell ⟨rb, 6, none⟩ (.int .i64 f)).setCell ⟨rb, 7, none⟩ (.int .i64 t))) g ∧ w.grownBy (((((((((w6.setCell ⟨rb, 0, none⟩ (.int .i64 1)).setCell ⟨rb, 1, none⟩ (.int .i64 x)).setCell ⟨rb, 2, none⟩ (.int .i64 sg)).setCell ⟨rb, 3, none⟩ (.int .i64 wi)).setCell ⟨rb, 4, none⟩ (.int .i64 l)).setCell ⟨rb, 5, none⟩ (.int .i64 sz)).setCell ⟨rb, 6, none⟩ (.int .i64 f)).setCell ⟨rb, 7, none⟩ (.int .i64 t))) (some g)) := h6.fin _ _ _ _ _ _ _ _
            clear h6
            go_wp2_with fail
            refine bodyPost_ret (v := .agg #[.int .i64 1, .int .i64 x, .int .i64 sg, .int .i64 wi, .int .i64 l, .int .i64 sz, .int .i64 f, .int .i64 t]) (by simp [results, Tryz.results105, go_sem, u0, u1, u2, u3, u4, u5, u6, u7]) rfl ⟨⟨1, x, sg, wi, l, sz, f, t⟩, rfl, hE, HF.out.1, HF.out.2⟩
      · have ek1 : (k == 1) = false := beq_eq_false_iff_ne.2 hk1
        by_cases hk9 : k = 9
        · subst hk9
          have cg := h4.sc.at.c0
          simp only at cg
          go_wp2_with fail
          refine (l1Min_any _ _ _).mono ?_
          rintro e y ⟨rfl, rfl⟩
          obtain ⟨q, hq⟩ : ∃ q, q = min sg 16 := ⟨_, rfl⟩
          simp only [← hq]
          clear hq
          go_wp2_with fail
          refine (l1Max_any2 _ _ _).mono ?_
          rintro e y ⟨rfl, rfl⟩
          obtain ⟨q2, hq2⟩ : ∃ q2, q2 = max 1 q := ⟨_, rfl⟩
          simp only [← hq2]
          clear hq2
          go_wp2_with fail
          refine (l1Below_any _ _ _ h4.cur).mono ?_
          rintro e w5 ⟨x5, rfl, x50, -, x52, c5, g5⟩
          have h5 := h4.draw c5 g5
          have xf := h5.ev.free 3
          have xc := h5.ev.at.2.2.2.1
          have h5 := h5.wrote (grown_set w5 eb 3 (.int .i64 x5)) (h5.ev.setW x5)
          simp only at xc h5
          clear h4 c5 g5 cg n0
          go_upto_region 14 with fail
          clear xf xc
          obtain ⟨w8, hw8⟩ : ∃ w8, w8 = w5.setCell ⟨eb, 3, none⟩ (.int .i64 x5) := ⟨_, rfl⟩
          rw [← hw8] at h5 ⊢
          clear hw8
          have ho2 : I64 o := i2
          have cI := fun u (hs : ScR B u ⟨sg, lo, ll, lc, co, cl, cc, no, nl, nc, oo, ol, oc⟩ m) => codeIn_any ⟨sg, lo, ll, lc, co, cl, cc, no, nl, nc, oo, ol, oc⟩ m ⟨9, x, o, x5, l, sz, f, t⟩ u ho2 hs
          simp only at cI
          have hE : EvI ⟨9, x, o, x5, l, sz, f, t⟩ := ⟨i0, ix, i2, (show I64 x5 from ⟨by omega, by omega⟩), i4, i5, i6, i7⟩
          obtain ⟨R, hR⟩ : ∃ R, R = codeIn m ⟨9, x, o, x5, l, sz, f, t⟩ := ⟨_, rfl⟩
          simp only [← hR] at cI
          clear hR
          obtain ⟨s0, s1, s2, s3, s4⟩ := h5.sc.at
          obtain ⟨e0, e1, e2, e3, e4, e5, e6, e7⟩ := h5.ev.at
          simp only at s0 s1 s2 s3 s4 e0 e1 e2 e3 e4 e5 e6 e7
          go_wp2_with fail
          refine (cI _ h5.scr).mono ?_
          rintro y w6 ⟨rfl, f6⟩
          have h6 := h5.fr f6
          clear cI s0 s1 s2 s3 s4 e0 e1 e2 e3 e4 e5 e6 e7 h5 f6
          cases hr : (R == 0)
          · go_wp2_with fail
            go_roundw
            case rel => exact ⟨i + 1, _, by omega, by go_num, hE, h6⟩
            case measure => simp [intOf]; omega
          · obtain ⟨e0, e1, e2, e3, e4, e5, e6, e7⟩ := h6.ev.at
            obtain ⟨u0, u1, u2, u3, u4, u5, u6, u7⟩ := h6.rs.at
            simp only at e0 e1 e2 e3 e4 e5 e6 e7 u0 u1 u2 u3 u4 u5 u6 u7
            have uf := fun i => h6.rs.free i
            have HF : Hid (Cur (((((((((w6.setCell ⟨rb, 0, none⟩ (.int .i64 9)).setCell ⟨rb, 1, none⟩ (.int .i64 x)).setCell ⟨rb, 2, none⟩ (.int .i64 o)).setCell ⟨rb, 3, none⟩ (.int .i64 x5)).setCell ⟨rb, 4, none⟩ (.int .i64 l)).setCell ⟨rb, 5, none⟩ (.int .i64 sz)).setCell ⟨rb, 6, none⟩ (.int .i64 f)).setCell ⟨rb, 7, none⟩ (.int .i64 t))) g ∧ w.grownBy (((((((((w6.setCell ⟨rb, 0, none⟩ (.int .i64 9)).setCell ⟨rb, 1, none⟩ (.int .i64 x)).setCell ⟨rb, 2, none⟩ (.int .i64 o)).setCell ⟨rb, 3, none⟩ (.int .i64 x5)).setCell ⟨rb, 4, none⟩ (.int .i64 l)).setCell ⟨rb, 5, none⟩ (.int .i64 sz)).setCell ⟨rb, 6, none⟩ (.int .i64 f)).setCell ⟨rb, 7, none⟩ (.int .i64 t))) (some g)) := h6.fin _ _ _ _ _ _ _ _
            clear h6
            go_wp2_with fail
            refine bodyPost_ret (v := .agg #[.int .i64 9, .int .i64 x, .int .i64 o, .int .i64 x5, .int .i64 l, .int .i64 sz, .int .i64 f, .int .i64 t]) (by simp [results, Tryz.results105, go_sem, u0, u1, u2, u3, u4, u5, u6, u7]) rfl ⟨⟨9, x, o, x5, l, sz, f, t⟩, rfl, hE, HF.out.1, HF.out.2⟩
        · have ek9 : (k == 9) = false := beq_eq_false_iff_ne.2 hk9
          clear hk1 hk9
          go_upto_region 14 with fail
          have h5 := h4
          clear h4 n0
          have ho2 : I64 o := i2
          have cI := fun u (hs : ScR B u ⟨sg, lo, ll, lc, co, cl, cc, no, nl, nc, oo, ol, oc⟩ m) => codeIn_any ⟨sg, lo, ll, lc, co, cl, cc, no, nl, nc, oo, ol, oc⟩ m ⟨k, x, o, wi, l, sz, f, t⟩ u ho2 hs
          simp only at cI
          have hE : EvI ⟨k, x, o, wi, l, sz, f, t⟩ := ⟨i0, ix, i2, i3, i4, i5, i6, i7⟩
          obtain ⟨R, hR⟩ : ∃ R, R = codeIn m ⟨k, x, o, wi, l, sz, f, t⟩ := ⟨_, rfl⟩
          simp only [← hR] at cI
          clear hR
          obtain ⟨s0, s1, s2, s3, s4⟩ := h5.sc.at
          obtain ⟨e0, e1, e2, e3, e4, e5, e6, e7⟩ := h5.ev.at
          simp only at s0 s1 s2 s3 s4 e0 e1 e2 e3 e4 e5 e6 e7
          go_wp2_with fail
          refine (cI _ h5.scr).mono ?_
          rintro y w6 ⟨rfl, f6⟩
          have h6 := h5.fr f6
          clear cI s0 s1 s2 s3 s4 e0 e1 e2 e3 e4 e5 e6 e7 h5 f6
          cases hr : (R == 0)
          · go_wp2_with fail
            go_roundw
            case rel => exact ⟨i + 1, _, by omega, by go_num, hE, h6⟩
            case measure => simp [intOf]; omega
          · obtain ⟨e0, e1, e2, e3, e4, e5, e6, e7⟩ := h6.ev.at
            obtain ⟨u0, u1, u2, u3, u4, u5, u6, u7⟩ := h6.rs.at
            simp only at e0 e1 e2 e3 e4 e5 e6 e7 u0 u1 u2 u3 u4 u5 u6 u7
            have uf := fun i => h6.rs.free i
            have HF : Hid (Cur (((((((((w6.setCell ⟨rb, 0, none⟩ (.int .i64 k)).setCell ⟨rb, 1, none⟩ (.int .i64 x)).setCell ⟨rb, 2, none⟩ (.int .i64 o)).setCell ⟨rb, 3, none⟩ (.int .i64 wi)).setCell ⟨rb, 4, none⟩ (.int .i64 l)).setCell ⟨rb, 5, none⟩ (.int .i64 sz)).setCell ⟨rb, 6, none⟩ (.int .i64 f)).setCell ⟨rb, 7, none⟩ (.int .i64 t))) g ∧ w.grownBy (((((((((w6.setCell ⟨rb, 0, none⟩ (.int .i64 k)).setCell ⟨rb, 1, none⟩ (.int .i64 x)).setCell ⟨rb, 2, none⟩ (.int .i64 o)).setCell ⟨rb, 3, none⟩ (.int .i64 wi)).setCell ⟨rb, 4, none⟩ (.int .i64 l)).setCell ⟨rb, 5, none⟩ (.int .i64 sz)).setCell ⟨rb, 6, none⟩ (.int .i64 f)).setCell ⟨rb, 7, none⟩ (.int .i64 t))) (some g)) := h6.fin _ _ _ _ _ _ _ _
            clear h6
            go_wp2_with fail
            refine bodyPost_ret (v := .agg #[.int .i64 k, .int .i64 x, .int .i64 o, .int .i64 wi, .int .i64 l, .int .i64 sz, .int .i64 f, .int .i64 t]) (by simp [results, Tryz.results105, go_sem, u0, u1, u2, u3, u4, u5, u6, u7]) rfl ⟨⟨k, x, o, wi, l, sz, f, t⟩, rfl, hE, HF.out.1, HF.out.2⟩
    · have et : i = 12 := by omega
      subst et
      obtain ⟨k, gr, o, wi, l, sz, f, t⟩ := e
      obtain ⟨e0, e1, e2, e3, e4, e5, e6, e7⟩ := hN.ev.at
      obtain ⟨u0, u1, u2, u3, u4, u5, u6, u7⟩ := hN.rs.at
      simp only at e0 e1 e2 e3 e4 e5 e6 e7 u0 u1 u2 u3 u4 u5 u6 u7
      have uf := fun i => hN.rs.free i
      have HF : Hid (Cur (((((((((wr.setCell ⟨rb, 0, none⟩ (.int .i64 k)).setCell ⟨rb, 1, none⟩ (.int .i64 gr)).setCell ⟨rb, 2, none⟩ (.int .i64 o)).setCell ⟨rb, 3, none⟩ (.int .i64 wi)).setCell ⟨rb, 4, none⟩ (.int .i64 l)).setCell ⟨rb, 5, none⟩ (.int .i64 sz)).setCell ⟨rb, 6, none⟩ (.int .i64 f)).setCell ⟨rb, 7, none⟩ (.int .i64 t))) g ∧ w.grownBy ((((((((wr.setCell ⟨rb, 0, none⟩ (.int .i64 k)).setCell ⟨rb, 1, none⟩ (.int .i64 gr)).setCell ⟨rb, 2, none⟩ (.int .i64 o)).setCell ⟨rb, 3, none⟩ (.int .i64 wi)).setCell ⟨rb, 4, none⟩ (.int .i64 l)).setCell ⟨rb, 5, none⟩ (.int .i64 sz)).setCell ⟨rb, 6, none⟩ (.int .i64 f)).setCell ⟨rb, 7, none⟩ (.int .i64 t)) (some g)) := hN.fin _ _ _ _ _ _ _ _
      clear hN
      go_wp2_with fail
      refine bodyPost_ret (v := .agg #[.int .i64 k, .int .i64 gr, .int .i64 o, .int .i64 wi, .int .i64 l, .int .i64 sz, .int .i64 f, .int .i64 t]) (by simp [results, Tryz.results105, go_sem, u0, u1, u2, u3, u4, u5, u6, u7]) rfl ⟨⟨k, gr, o, wi, l, sz, f, t⟩, rfl, hE, HF.out.1, HF.out.2⟩
end Go.Proofs.YthehhiccfnhinaaGreatDoor
/-
  The walks of the laws' toEventS, szEventS, eqEventS (of two like lists).
-/
namespace Go.Proofs.YthehhiccfnhinaaGreatDoor
open Go.RowKit

theorem Tryz.info31 : (Tryz.prog.info? 31).map (fun i => (i.zero, i.size, i.bytes)) = some (some (.agg #[.int .i64 0, .int .i64 0, .int .i64 0, .int .i64 0, .int .i64 0, .int .i64 0, .int .i64 0, .int .i64 0]), 8, 64) := by kernel_rfl

theorem sz_any (ao : Option Addr) (n cap : Nat) (w : World) (hn : n ≤ 9223372036854775807) :
    Calls Tryz.prog 38 #[.slice ao n cap, .int .i64 1048576] w fun e w' => e = .returned (.int .i64 (if n ≤ 1048576 then 1048576 - (n : Int) else -1)) ∧ w' = w := by
  by_cases h : n ≤ 1048576
  · rw [if_pos h]
    go_enter Tryz.func38, Tryz.ntmps38
    go_wp2
    go_ret
    exact ⟨rfl, rfl⟩
  · rw [if_neg h]
    go_enter Tryz.func38, Tryz.ntmps38
    go_wp2
    go_ret
    exact ⟨rfl, rfl⟩

theorem set8 (A B : List Value) (m0 m1 m2 m3 m4 m5 m6 m7 a0 a1 a2 a3 a4 a5 a6 a7 : Value) (n : Nat) (hn : A.length = n) :
    ((((((((A ++ m0 :: m1 :: m2 :: m3 :: m4 :: m5 :: m6 :: m7 :: B).set n a0).set (n + 1) a1).set (n + 2) a2).set (n + 3) a3).set (n + 4) a4).set (n + 5) a5).set (n + 6) a6).set (n + 7) a7
      = A ++ a0 :: a1 :: a2 :: a3 :: a4 :: a5 :: a6 :: a7 :: B := by
  subst hn
  simp
theorem drop8 (L : List Value) (n : Nat) (h : n + 8 ≤ L.length) : ∃ m0 m1 m2 m3 m4 m5 m6 m7, L.drop n = m0 :: m1 :: m2 :: m3 :: m4 :: m5 :: m6 :: m7 :: L.drop (n + 8) := by
  refine ⟨L[n], L[n + 1], L[n + 2], L[n + 3], L[n + 4], L[n + 5], L[n + 6], L[n + 7], ?_⟩
  rw [List.drop_eq_getElem_cons (by omega : n < L.length), List.drop_eq_getElem_cons (by omega : n + 1 < L.length), List.drop_eq_getElem_cons (by omega : n + 1 + 1 < L.length), List.drop_eq_getElem_cons (by omega : n + 1 + 1 + 1 < L.length),
    List.drop_eq_getElem_cons (by omega : n + 1 + 1 + 1 + 1 < L.length), List.drop_eq_getElem_cons (by omega : n + 1 + 1 + 1 + 1 + 1 < L.length), List.drop_eq_getElem_cons (by omega : n + 1 + 1 + 1 + 1 + 1 + 1 < L.length), List.drop_eq_getElem_cons (by omega : n + 1 + 1 + 1 + 1 + 1 + 1 + 1 < L.length)]
theorem grown_tr {a b c : World} {row : Option Nat} (h : a.grownBy b row) (k : b.grownBy c row) : a.grownBy c row :=
  ⟨k.os.trans h.os, k.tape.trans h.tape, k.output.trans h.output, Nat.le_trans h.size k.size, fun i hi hne => (k.block i (Nat.lt_of_lt_of_le hi h.size) hne).trans (h.block i hi hne)⟩
theorem own8 {w : World} {base g n cap : Nat} {e : TypeId} {xs : List Value} (h : w.ownsRow base e 8 (.slice (some ⟨g, 0, none⟩) n cap) n xs) (j : Nat) (a0 a1 a2 a3 a4 a5 a6 a7 : Value) :
    ((((((((w.setCell ⟨g, j, none⟩ a0).setCell ⟨g, j + 1, none⟩ a1).setCell ⟨g, j + 2, none⟩ a2).setCell ⟨g, j + 3, none⟩ a3).setCell ⟨g, j + 4, none⟩ a4).setCell ⟨g, j + 5, none⟩ a5).setCell ⟨g, j + 6, none⟩ a6).setCell ⟨g, j + 7, none⟩ a7).ownsRow base e 8 (.slice (some ⟨g, 0, none⟩) n cap) n
      ((((((((xs.set j a0).set (j + 1) a1).set (j + 2) a2).set (j + 3) a3).set (j + 4) a4).set (j + 5) a5).set (j + 6) a6).set (j + 7) a7) ∧
    w.grownBy ((((((((w.setCell ⟨g, j, none⟩ a0).setCell ⟨g, j + 1, none⟩ a1).setCell ⟨g, j + 2, none⟩ a2).setCell ⟨g, j + 3, none⟩ a3).setCell ⟨g, j + 4, none⟩ a4).setCell ⟨g, j + 5, none⟩ a5).setCell ⟨g, j + 6, none⟩ a6).setCell ⟨g, j + 7, none⟩ a7) (some g) := by
  have h0 := h.stored j a0
  have h1 := h0.1.stored (j + 1) a1
  have h2 := h1.1.stored (j + 2) a2
  have h3 := h2.1.stored (j + 3) a3
  have h4 := h3.1.stored (j + 4) a4
  have h5 := h4.1.stored (j + 5) a5
  have h6 := h5.1.stored (j + 6) a6
  have h7 := h6.1.stored (j + 7) a7
  exact ⟨h7.1, grown_tr (grown_tr (grown_tr (grown_tr (grown_tr (grown_tr (grown_tr h0.2 h1.2) h2.2) h3.2) h4.2) h5.2) h6.2) h7.2⟩
/-- One event more is laid. -/
theorem laid_step (es : List Ev) (M : List Value) (k : Nat) (hk : k < es.length) (hM : M.length = es.length * 8) (e : Ev) :
    (((((((((es.take k).flatMap evCells ++ M.drop (k * 8)).set (k * 8) (.int .i64 e.k)).set (k * 8 + 1) (.int .i64 e.g)).set (k * 8 + 2) (.int .i64 e.o)).set (k * 8 + 3) (.int .i64 e.w)).set (k * 8 + 4) (.int .i64 e.l)).set (k * 8 + 5) (.int .i64 e.s)).set (k * 8 + 6) (.int .i64 e.f)).set (k * 8 + 7) (.int .i64 e.t)
      = (es.take k ++ [e]).flatMap evCells ++ M.drop ((k + 1) * 8) := by
  obtain ⟨m0, m1, m2, m3, m4, m5, m6, m7, hd⟩ := drop8 M (k * 8) (by omega)
  have hl : ((es.take k).flatMap evCells).length = k * 8 := by rw [cells_len, List.length_take]; congr 1; omega
  rw [hd, set8 _ _ _ _ _ _ _ _ _ _ _ _ _ _ _ _ _ _ _ hl, show (k + 1) * 8 = k * 8 + 8 by omega, List.flatMap_append]
  simp [evCells]

set_option maxHeartbeats 1000000 in
theorem toEs_any (ao : Option Addr) (n cap : Nat) (es : List Ev) (w : World) (hn : es.length = n) (h : ReadsE w ao es) :
    Calls Tryz.prog 40 #[.slice ao n cap] w fun e w' => ∃ v, e = .returned v ∧ OwnE w' w.heap.size v es ∧ Fr w w' := by
  subst hn
  have hl := h.len
  obtain ⟨i0, hi, hz0, hz1, hz2⟩ := info_parts Tryz.info31
  go_enter Tryz.func40, Tryz.ntmps40
  go_wp2_with (at_make; refine wpList_make_full _ rfl _ _ 42 rfl w.heap.size 31 i0 (.agg #[.int .i64 0, .int .i64 0, .int .i64 0, .int .i64 0, .int .i64 0, .int .i64 0, .int .i64 0, .int .i64 0]) 8 Tryz.underlying42 hi hz0 hz1 .i64 .i64 _ _ es.length rfl rfl rfl rfl (by rw [hz2]; omega) (by unfold maxLen; omega) (Nat.le_refl _) ?_; intro w1 hown hgrow)
  obtain ⟨M, hM⟩ : ∃ M, M = (madeCells (Value.agg #[.int .i64 0, .int .i64 0, .int .i64 0, .int .i64 0, .int .i64 0, .int .i64 0, .int .i64 0, .int .i64 0]).cells (es.length * 8)).toList := ⟨_, rfl⟩
  rw [← hM] at hown
  clear hM
  have hMl := hown.1
  clear hi hz0 hz1 hz2
  go_loopw [4] (fun i wr => ∃ k : Nat, k ≤ es.length ∧ i = .int .i64 k ∧ wr.ownsRow w.heap.size 31 8 (.slice (some ⟨w.heap.size, 0, none⟩) es.length es.length) es.length ((es.take k).flatMap evCells ++ M.drop (k * 8)) ∧ Fr w wr) (fun i _ => es.length - (intOf i).toNat)
  case atStart => exact ⟨0, Nat.zero_le _, rfl, by simpa using hown, hgrow⟩
  case round =>
    obtain ⟨k, hk, rfl, ho, hf⟩ := hrel
    clear hown hgrow
    by_cases hlt : k < es.length
    · obtain ⟨b, off, rfl, hc⟩ := (h.fr hf).at_ k hlt
      obtain ⟨c0, c1, c2, c3, c4, c5, c6, c7⟩ := hc k hlt
      have HE : Hid (es.take k ++ [es[k]] = es.take (k + 1)) := (List.take_succ_eq_append_getElem hlt).symm
      obtain ⟨e, he⟩ : ∃ e, e = es[k] := ⟨_, rfl⟩
      rw [← he] at c0 c1 c2 c3 c4 c5 c6 c7 HE
      clear hc he
      have cT := fun w => toEvent_any e w
      go_wp2_with fail
      refine (cT _).mono ?_
      rintro e w5 ⟨rfl, f5⟩
      have ho := ho.kept f5 (by simp [Value.ownBlock])
      have hll : ((es.take k).flatMap evCells ++ M.drop (k * 8)).length = es.length * 8 := ho.1
      have hat : ∀ i, i < 8 → ∃ u, w5.cell? ⟨w.heap.size, k * 8 + i, none⟩ = some u := fun i hi => by
        rw [ho.cellAt (k * 8 + i) (by omega)]
        exact ⟨_, List.getElem?_eq_getElem (by omega)⟩
      obtain ⟨q0, d0⟩ := hat 0 (by omega)
      obtain ⟨q1, d1⟩ := hat 1 (by omega)
      obtain ⟨q2, d2⟩ := hat 2 (by omega)
      obtain ⟨q3, d3⟩ := hat 3 (by omega)
      obtain ⟨q4, d4⟩ := hat 4 (by omega)
      obtain ⟨q5, d5⟩ := hat 5 (by omega)
      obtain ⟨q6, d6⟩ := hat 6 (by omega)
      obtain ⟨q7, d7⟩ := hat 7 (by omega)
      rw [Nat.add_zero] at d0
      have z0 := ho.frozenAt (k * 8)
      have z1 := ho.frozenAt (k * 8 + 1)
      have z2 := ho.frozenAt (k * 8 + 2)
      have z3 := ho.frozenAt (k * 8 + 3)
      have z4 := ho.frozenAt (k * 8 + 4)
      have z5 := ho.frozenAt (k * 8 + 5)
      have z6 := ho.frozenAt (k * 8 + 6)
      have z7 := ho.frozenAt (k * 8 + 7)
      have hst := own8 ho (k * 8) (.int .i64 e.k) (.int .i64 e.g) (.int .i64 e.o) (.int .i64 e.w) (.int .i64 e.l) (.int .i64 e.s) (.int .i64 e.f) (.int .i64 e.t)
      rw [laid_step es M k hlt hMl e, HE.out] at hst
      have hsz := hf.size
      clear hat hll ho
      go_wp2_with fail
      go_roundw
      case rel => exact ⟨k + 1, by omega, by go_num, hst.1, (hf.trans f5).then hst.2 (fun j hj => by simp only [Option.some.injEq] at hj; omega)⟩
      case measure => simp [intOf]; omega
    · have ek : k = es.length := by omega
      have hd : M.drop (k * 8) = [] := List.drop_eq_nil_of_le (by rw [hMl, ek]; omega)
      rw [hd, List.append_nil, List.take_of_length_le (by omega)] at ho
      clear ek hd
      go_wp2_with fail
      go_ret
      exact ⟨_, rfl, ⟨w.heap.size, es.length, rfl, ho, hl⟩, hf⟩
end Go.Proofs.YthehhiccfnhinaaGreatDoor
/-
  'append' of one event to a slice of events that the call owns.
-/
namespace Go.Proofs.YthehhiccfnhinaaGreatDoor
open Go.RowKit

theorem ownE_new (w : World) : OwnE (w.alloc (.cells #[] 31)) w.heap.size (.slice (some ⟨w.heap.size, 0, none⟩) 0 0) [] :=
  ⟨w.heap.size, 0, rfl, World.ownsRow_made w #[] 0 (Nat.le_refl _) (by unfold maxLen; omega) rfl, by simp⟩

theorem appE (w : World) {ops : Array Oper} {rest : List Oper} {o : Oper} {a : Act} {Q : Exit → Act → World → Prop} (hgd : o.guard = none) (s x : Operand)
    (ho : o.op = .call { callee := .builtin .append, args := #[s, x], argTypes := #[42, 42] })
    (base : Nat) (v : Value) (es : List Ev) (e : Ev) (hs : a.eval s = v) (hown : OwnE w base v es)
    (b : Nat) (c : Nat) (hx : a.eval x = .slice (some ⟨b, 0, none⟩) 1 c) (hnew : EvC w b 0 e)
    (hlen : es.length ≤ 16777215) (hbase : base ≤ w.heap.size)
    (h : ∀ v' w', OwnE w' base v' (es ++ [e]) → w.grownBy w' v.ownBlock → (v'.ownBlock = v.ownBlock ∨ v'.ownBlock = some w.heap.size) → wpList Tryz.prog ops Q rest (a.put o.dst v') w') : wpList Tryz.prog ops Q (o :: rest) a w := by
  obtain ⟨i0, hi, hz0, hz1, hz2⟩ := info_parts Tryz.info31
  obtain ⟨g, cap, rfl, ho', hl⟩ := hown
  refine wpList_append_own_at w hgd s x 42 ho base 31 i0 _ 8 64 Tryz.underlying42 hi hz0 hz1 hz2 rfl (by decide) _ _ _ hs ho' ⟨b, 0, none⟩ 1 c (evCells e) hx (by simp [evCells]) ?_ ?_ (by unfold maxLen; omega) (by omega) hbase ?_
  · intro j u hu
    rw [Addr.add_lit]
    obtain ⟨c0, c1, c2, c3, c4, c5, c6, c7⟩ := hnew
    match j, hu with
    | 0, hu => simp [evCells] at hu; subst hu; exact c0
    | 1, hu => simp [evCells] at hu; subst hu; exact c1
    | 2, hu => simp [evCells] at hu; subst hu; exact c2
    | 3, hu => simp [evCells] at hu; subst hu; exact c3
    | 4, hu => simp [evCells] at hu; subst hu; exact c4
    | 5, hu => simp [evCells] at hu; subst hu; exact c5
    | 6, hu => simp [evCells] at hu; subst hu; exact c6
    | 7, hu => simp [evCells] at hu; subst hu; exact c7
    | n + 8, hu => simp [evCells] at hu
  · intro u hu
    simp only [evCells, List.mem_cons, List.not_mem_nil, or_false] at hu
    rcases hu with rfl | rfl | rfl | rfl | rfl | rfl | rfl | rfl <;> rfl
  · intro v' w' hv hg hnz hat
    refine h v' w' ?_ hg hat
    rcases hv.2 with ⟨e', _⟩ | ⟨g', cap', cur, e', r⟩
    · have := (hnz.1 e').1
      simp at this
    · subst e'
      exact ⟨g', cap', by simp, by simpa [List.flatMap_append] using hv, by simp; omega⟩
theorem evC_new (w : World) (e : Ev) : EvC (w.alloc (.cells #[.int .i64 e.k, .int .i64 e.g, .int .i64 e.o, .int .i64 e.w, .int .i64 e.l, .int .i64 e.s, .int .i64 e.f, .int .i64 e.t] 31)) w.heap.size 0 e := by
  obtain ⟨c0, c1, c2, c3, c4, c5, c6, c7⟩ := (EvB.new w e).at
  exact ⟨c0, c1, c2, c3, c4, c5, c6, c7⟩
end Go.Proofs.YthehhiccfnhinaaGreatDoor
/-
  A trace that is grown event by event: l5Grow.
-/
namespace Go.Proofs.YthehhiccfnhinaaGreatDoor
open Go.RowKit

theorem codeIn_zero {m : Scn} {e : Ev} (h : codeIn m e = 0) : evOk e = true ∧ scB m = true := by
  unfold codeIn at h
  split at h
  · simp at h
  · rename_i hn
    refine ⟨?_, ?_⟩
    · cases he : evOk e with
      | true => rfl
      | false => exact absurd (.inl he) hn
    · cases he : scB m with
      | true => rfl
      | false => exact absurd (.inr he) hn
theorem OwnE.lt {w : World} {base : Nat} {v : Value} {es : List Ev} (h : OwnE w base v es) : ∀ j, v.ownBlock = some j → j < w.heap.size := by
  obtain ⟨g, cap, rfl, ho, hl⟩ := h
  intro j hj
  exact (ho.lt j hj).2

/-- The state in the midst of l5Grow: the cursor in g, the scene in sb, the events so far in the slice u. -/
structure GX (B : Nat → Prop) (w0 : World) (g sb : Nat) (u : Value) (es : List Ev) (s : Sv) (m : Scn) (wr : World) : Prop where
  cur : Cur wr g
  gro : w0.grownBy wr (some g)
  sc : ScK wr sb s
  scr : ScR B wr s m
  own : OwnE wr w0.heap.size u es
  gl : g < w0.heap.size
  sl : w0.heap.size ≤ sb
  ul : ∀ j, u.ownBlock = some j → j ≠ sb ∧ j < wr.heap.size
  bB : ∀ b, B b → b < wr.heap.size ∧ b ≠ g ∧ b ≠ sb ∧ u.ownBlock ≠ some b
theorem GX.draw {B : Nat → Prop} {w0 wr w' : World} {g sb : Nat} {u : Value} {es : List Ev} {s : Sv} {m : Scn} (h : GX B w0 g sb u es s m wr) (c : Cur w' g) (k : wr.grownBy w' (some g)) : GX B w0 g sb u es s m w' := by
  have h1 := h.gl; have h2 := h.sl; have hs := k.size
  exact { h with cur := c, gro := grown_trans h.gro k, sc := h.sc.keep k (by simp; omega), scr := h.scr.keep k (fun j hj => by cases hj; exact fun q => (h.bB _ q).2.1 rfl), own := h.own.keep k (fun q => by have := h.own.blk _ q; omega), ul := fun j hj => ⟨(h.ul j hj).1, by have := (h.ul j hj).2; omega⟩, bB := fun b hb => ⟨by have := (h.bB b hb).1; omega, (h.bB b hb).2⟩ }
theorem GX.fr {B : Nat → Prop} {w0 wr w' : World} {g sb : Nat} {u : Value} {es : List Ev} {s : Sv} {m : Scn} (h : GX B w0 g sb u es s m wr) (k : Fr wr w') : GX B w0 g sb u es s m w' := by
  have hs := k.size
  exact { h with cur := h.cur.fr k, gro := grown_trans h.gro k.wide, sc := h.sc.fr k, scr := h.scr.fr k, own := h.own.fr k, ul := fun j hj => ⟨(h.ul j hj).1, by have := (h.ul j hj).2; omega⟩, bB := fun b hb => ⟨by have := (h.bB b hb).1; omega, (h.bB b hb).2⟩ }
theorem GX.wrote {B : Nat → Prop} {w0 wr w' : World} {g sb eb : Nat} {u : Value} {es : List Ev} {s : Sv} {m : Scn} (h : GX B w0 g sb u es s m wr) (k : wr.grownBy w' (some eb)) (he : sb < eb) (hB : ¬ B eb) (hu : u.ownBlock ≠ some eb) : GX B w0 g sb u es s m w' := by
  have h1 := h.gl; have h2 := h.sl; have hs := k.size
  exact { h with cur := h.cur.other k (by intro j hj; simp only [Option.some.injEq] at hj; omega), gro := grown_then h.gro k (by intro j hj; simp only [Option.some.injEq] at hj; omega), sc := h.sc.keep k (by simp; omega), scr := h.scr.keep k (fun j hj => by cases hj; exact hB), own := h.own.keep k hu, ul := fun j hj => ⟨(h.ul j hj).1, by have := (h.ul j hj).2; omega⟩, bB := fun b hb => ⟨by have := (h.bB b hb).1; omega, (h.bB b hb).2⟩ }
/-- The scene is put in its block: those of the new scene are B or new since w1. -/
theorem GX.scene {B : Nat → Prop} {w0 w1 wr : World} {g sb : Nat} {u : Value} {es : List Ev} {s s' : Sv} {m m' : Scn} (h1 : GX B w0 g sb u es s m w1) (f : Fr w1 wr) (hS : ScR (Grew B w1 wr) wr s' m') :
    GX (Grew B w1 wr) w0 g sb u es s' m' (((((wr.setCell ⟨sb, 0, none⟩ (.int .i64 s'.g)).setCell ⟨sb, 1, none⟩ (.slice s'.lo s'.ll s'.lc)).setCell ⟨sb, 2, none⟩ (.slice s'.co s'.cl s'.cc)).setCell ⟨sb, 3, none⟩ (.slice s'.no s'.nl s'.nc)).setCell ⟨sb, 4, none⟩ (.slice s'.oo s'.ol s'.oc)) := by
  have h := h1.fr f
  have k := put5 wr sb (.int .i64 s'.g) (.slice s'.lo s'.ll s'.lc) (.slice s'.co s'.cl s'.cc) (.slice s'.no s'.nl s'.nc) (.slice s'.oo s'.ol s'.oc)
  have hs := k.size
  have hb : ∀ b, Grew B w1 wr b → b < wr.heap.size ∧ b ≠ g ∧ b ≠ sb ∧ u.ownBlock ≠ some b := by
    rintro b (hb | ⟨h3, h4⟩)
    · exact h.bB b hb
    · have h5 := h1.sc.lt
      have h6 := h1.gl
      have h7 := h1.sl
      exact ⟨h4, by omega, by omega, fun q => by have := (h1.ul _ q).2; omega⟩
  refine { h with cur := h.cur.other k (by intro j hj; simp only [Option.some.injEq] at hj; have := h.gl; have := h.sl; omega), gro := grown_then h.gro k (by intro j hj; simp only [Option.some.injEq] at hj; have := h.sl; omega), sc := ?_, scr := hS.keep k (fun j hj => by cases hj; exact fun q => (hb _ q).2.2.1 rfl), own := h.own.keep k (fun q => (h.ul _ q).1 rfl), ul := fun j hj => ⟨(h.ul j hj).1, by have := (h.ul j hj).2; omega⟩, bB := fun b q => ⟨by have := (hb b q).1; omega, (hb b q).2⟩ }
  have e0 := heap_setCell_same wr sb 0 _ _ (.int .i64 s'.g) h.sc
  have e1 := heap_setCell_same _ sb 1 _ _ (.slice s'.lo s'.ll s'.lc) e0
  have e2 := heap_setCell_same _ sb 2 _ _ (.slice s'.co s'.cl s'.cc) e1
  have e3 := heap_setCell_same _ sb 3 _ _ (.slice s'.no s'.nl s'.nc) e2
  exact heap_setCell_same _ sb 4 _ _ (.slice s'.oo s'.ol s'.oc) e3

theorem GX.app {B : Nat → Prop} {w0 wr w' : World} {g sb : Nat} {u v : Value} {es es' : List Ev} {s : Sv} {m : Scn} (h : GX B w0 g sb u es s m wr) (hv : OwnE w' w0.heap.size v es') (k : wr.grownBy w' u.ownBlock) (hat : v.ownBlock = u.ownBlock ∨ v.ownBlock = some wr.heap.size) : GX B w0 g sb v es' s m w' := by
  have h1 := h.gl; have h2 := h.sl; have hs := k.size; have h3 := h.sc.lt
  refine { h with cur := h.cur.other k (fun j hj => by have := h.own.blk j hj; omega), gro := grown_then h.gro k (fun j hj => .inl (h.own.blk j hj)), sc := h.sc.keep k (fun q => (h.ul _ q).1 rfl), scr := h.scr.keep k (fun j hj q => (h.bB _ q).2.2.2 hj), own := hv, ul := fun j hj => ⟨?_, hv.lt j hj⟩, bB := fun b hb => ⟨by have := (h.bB b hb).1; omega, (h.bB b hb).2.1, (h.bB b hb).2.2.1, ?_⟩ }
  · rcases hat with e | e
    · rw [e] at hj; exact (h.ul j hj).1
    · rw [e] at hj; simp only [Option.some.injEq] at hj; omega
  · rcases hat with e | e
    · rw [e]; exact (h.bB b hb).2.2.2
    · rw [e]; have := (h.bB b hb).1; simp only [ne_eq, Option.some.injEq]; omega

set_option maxRecDepth 20000 in
set_option maxHeartbeats 8000000 in
theorem l5Grow_any (g : Nat) (n : Int) (w : World) (hc : Cur w g) (hn : n ≤ 100000) :
    Calls Tryz.prog 204 #[.pointer (some ⟨g, 0, none⟩), .int .i64 n] w fun x w' => ∃ v : Value, x = .returned v ∧ ∃ es : List Ev, OwnE w' w.heap.size v es ∧ es.length ≤ n.toNat ∧ Cur w' g ∧ w.grownBy w' (some g) := by
  have hgl := hc.lt
  go_enter Tryz.func204, Tryz.ntmps204
  go_wp2_with fail
  refine (newScene_any (fun _ => False) _).mono ?_
  rintro e w1 ⟨⟨sg, lo, ll, lc, co, cl, cc, no, nl, nc, oo, ol, oc⟩, rfl, hS, f1⟩
  go_wp2_with fail
  obtain ⟨sb, hsb⟩ : ∃ sb, sb = w1.heap.size := ⟨_, rfl⟩
  have h1 := f1.size
  have fA := Fr.alloc w1 (.cells #[.int .i64 sg, .slice lo ll lc, .slice co cl cc, .slice no nl nc, .slice oo ol oc] 29)
  have fB := Fr.alloc (w1.alloc (.cells #[.int .i64 sg, .slice lo ll lc, .slice co cl cc, .slice no nl nc, .slice oo ol oc] 29)) (.cells #[] 31)
  have kS := (ScK.new w1 ⟨sg, lo, ll, lc, co, cl, cc, no, nl, nc, oo, ol, oc⟩).fr fB
  have kO := (ownE_new (w1.alloc (.cells #[.int .i64 sg, .slice lo ll lc, .slice co cl cc, .slice no nl nc, .slice oo ol oc] 29))).lower (base' := w.heap.size) (by simp; omega)
  have fC := (f1.trans fA).trans fB
  have hX : GX (fun _ => False) w g w1.heap.size (.slice (some ⟨w1.heap.size + 1, 0, none⟩) 0 0) [] ⟨sg, lo, ll, lc, co, cl, cc, no, nl, nc, oo, ol, oc⟩ scn0 ((w1.alloc (.cells #[.int .i64 sg, .slice lo ll lc, .slice co cl cc, .slice no nl nc, .slice oo ol oc] 29)).alloc (.cells #[] 31)) := by
    simp only [World.size_alloc] at kO
    exact ⟨hc.fr fC, fC.wide, kS, hS.fr (fA.trans fB), kO, hgl, h1, fun j hj => by simp only [Value.ownBlock, Option.some.injEq] at hj; subst hj; simp, fun b hb => hb.elim⟩
  obtain ⟨V, hV⟩ : ∃ V, V = (w1.alloc (.cells #[.int .i64 sg, .slice lo ll lc, .slice co cl cc, .slice no nl nc, .slice oo ol oc] 29)).alloc (.cells #[] 31) := ⟨_, rfl⟩
  rw [← hV] at hX ⊢
  rw [← hsb] at hX ⊢
  clear hV hsb h1 fA fB kS kO fC f1 hS hgl hc
  go_loopw [1, 6] (fun q u wr => ∃ (nn : Int) (es : List Ev) (s : Sv) (m : Scn) (B : Nat → Prop), q = .int .i64 nn ∧ nn ≤ n ∧ es.length + nn.toNat ≤ n.toNat ∧ GX B w g sb u es s m wr) (fun q _ _ => (intOf q).toNat)
  case atStart => exact ⟨n, [], _, _, _, rfl, Int.le_refl _, by simp, hX⟩
  case round =>
    clear hX
    obtain ⟨nn, es, ⟨sg, lo, ll, lc, co, cl, cc, no, nl, nc, oo, ol, oc⟩, m, B, rfl, hnn, hel, hX⟩ := hrel
    by_cases hpos : 0 < nn
    · obtain ⟨s0, s1, s2, s3, s4⟩ := hX.sc.at
      simp only at s0 s1 s2 s3 s4
      go_wp2_with fail
      refine (l5Next_any g ⟨sg, lo, ll, lc, co, cl, cc, no, nl, nc, oo, ol, oc⟩ m _ hX.cur (fun b q => ⟨(hX.bB b q).1, (hX.bB b q).2.1⟩) hX.scr).mono ?_
      rintro x w1 ⟨⟨k, gr, o, wi, l, sz, f, t⟩, rfl, hE, c1, g1⟩
      have h1 := hX.draw c1 g1
      clear hX c1 g1 s0 s1 s2 s3 s4
      simp only
      go_upto_region 6 with fail
      have ev := EvB.new w1 ⟨k, gr, o, wi, l, sz, f, t⟩
      have h2 := h1.fr (Fr.alloc w1 (.cells #[.int .i64 k, .int .i64 gr, .int .i64 o, .int .i64 wi, .int .i64 l, .int .i64 sz, .int .i64 f, .int .i64 t] 31))
      have HU : Hid (u6.ownBlock ≠ some w1.heap.size ∧ sb < w1.heap.size ∧ ¬ B w1.heap.size) := ⟨fun q => by have := (h1.ul _ q).2; omega, h1.sc.lt, fun q => by have := (h1.bB _ q).1; omega⟩
      simp only at ev
      obtain ⟨V, hV⟩ : ∃ V, V = w1.alloc (.cells #[.int .i64 k, .int .i64 gr, .int .i64 o, .int .i64 wi, .int .i64 l, .int .i64 sz, .int .i64 f, .int .i64 t] 31) := ⟨_, rfl⟩
      rw [← hV] at ev h2 ⊢
      obtain ⟨eb, heb⟩ : ∃ eb, eb = w1.heap.size := ⟨_, rfl⟩
      rw [← heb] at ev HU ⊢
      clear hV heb h1
      have cg := h2.sc.at.c0
      simp only at cg
      by_cases hs3 : sg < 3
      · go_wp2_with fail
        refine (l1Once_any _ _ _ h2.cur).mono ?_
        rintro e w3 ⟨on, rfl, c3, g3⟩
        have h3 := h2.draw c3 g3
        have ev3 := ev.keep g3 (by have := h2.gl; have := h2.sl; have := HU.out.2.1; simp; omega)
        clear h2 ev c3 g3 cg
        cases on
        · go_upto_region 8 with fail
          have hX := h3
          have ev := ev3
          have hEE : EvI ⟨k, gr, o, wi, l, sz, f, t⟩ := hE
          have cI := fun u (hs : ScR B u ⟨sg, lo, ll, lc, co, cl, cc, no, nl, nc, oo, ol, oc⟩ m) => codeIn_any ⟨sg, lo, ll, lc, co, cl, cc, no, nl, nc, oo, ol, oc⟩ m ⟨k, gr, o, wi, l, sz, f, t⟩ u hEE.2.2.1 hs
          simp only at cI
          obtain ⟨R, hR⟩ : ∃ R, R = codeIn m ⟨k, gr, o, wi, l, sz, f, t⟩ := ⟨_, rfl⟩
          have HR : Hid (R = codeIn m ⟨k, gr, o, wi, l, sz, f, t⟩) := hR
          simp only [← hR] at cI
          clear hR
          obtain ⟨s0, s1, s2, s3, s4⟩ := hX.sc.at
          obtain ⟨e0, e1, e2, e3, e4, e5, e6, e7⟩ := ev.at
          simp only at s0 s1 s2 s3 s4 e0 e1 e2 e3 e4 e5 e6 e7
          go_wp2_with fail
          refine (cI _ hX.scr).mono ?_
          rintro y w6 ⟨rfl, f6⟩
          have h6 := hX.fr f6
          have ev6 := ev.keep f6 (by simp)
          clear cI s0 s1 s2 s3 s4 e0 e1 e2 e3 e4 e5 e6 e7 hX ev f6 h3 ev3
          cases hr : (R == 0)
          · go_wp2_with fail
            go_roundw
            case rel => exact ⟨nn - 1, es, _, m, B, by go_num, by omega, by omega, h6⟩
            case measure => simp [intOf]; omega
          · have hz := codeIn_zero (HR.out.symm.trans (beq_iff_eq.1 hr))
            obtain ⟨s0, s1, s2, s3, s4⟩ := h6.sc.at
            obtain ⟨e0, e1, e2, e3, e4, e5, e6, e7⟩ := ev6.at
            simp only at s0 s1 s2 s3 s4 e0 e1 e2 e3 e4 e5 e6 e7
            go_wp2_with fail
            refine (l4Do_any ⟨sg, lo, ll, lc, co, cl, cc, no, nl, nc, oo, ol, oc⟩ m ⟨k, gr, o, wi, l, sz, f, t⟩ _ hz.2 hz.1 (fun b q => (h6.bB b q).1) h6.scr).mono ?_
            rintro y w7 ⟨⟨g', lo1, ll1, lc1, co1, cl1, cc1, no1, nl1, nc1, oo1, ol1, oc1⟩, rfl, hS, f7⟩
            have h8 := h6.scene f7 hS
            have ev7 := (ev6.keep f7 (by simp)).keep (put5 w7 sb (.int .i64 g') (.slice lo1 ll1 lc1) (.slice co1 cl1 cc1) (.slice no1 nl1 nc1) (.slice oo1 ol1 oc1)) (by have := HU.out.2.1; simp; omega)
            obtain ⟨j0, j1, j2, j3, j4⟩ := (h6.sc.fr f7).at
            have jf := fun i => (h6.sc.fr f7).free i
            simp only at h8 j0 j1 j2 j3 j4
            clear s0 s1 s2 s3 s4 e0 e1 e2 e3 e4 e5 e6 e7 h6 ev6 hS f7 hz
            go_upto_region 10 with fail
            clear j0 j1 j2 j3 j4 jf
            obtain ⟨w8, hw8⟩ : ∃ w8, w8 = (((((w7.setCell ⟨sb, 0, none⟩ (.int .i64 g')).setCell ⟨sb, 1, none⟩ (.slice lo1 ll1 lc1)).setCell ⟨sb, 2, none⟩ (.slice co1 cl1 cc1)).setCell ⟨sb, 3, none⟩ (.slice no1 nl1 nc1)).setCell ⟨sb, 4, none⟩ (.slice oo1 ol1 oc1)) := ⟨_, rfl⟩
            rw [← hw8] at h8 ev7 ⊢
            clear hw8
            obtain ⟨e0, e1, e2, e3, e4, e5, e6, e7⟩ := ev7.at
            simp only at e0 e1 e2 e3 e4 e5 e6 e7
            have hsz : w.heap.size ≤ w8.heap.size := h8.gro.size
            have hle : es.length ≤ 100000 := by omega
            go_wp2_with (at_builtin; refine appE _ rfl _ _ rfl w.heap.size u6 es ⟨k, gr, o, wi, l, sz, f, t⟩ rfl (h8.own.fr (Fr.alloc _ _)) _ _ rfl (evC_new w8 ⟨k, gr, o, wi, l, sz, f, t⟩) (by omega) (by simp; omega) ?_; intro v9 w9 hv9 hg9 hat9)
            have h9 := h8.fr (Fr.alloc w8 (.cells #[.int .i64 k, .int .i64 gr, .int .i64 o, .int .i64 wi, .int .i64 l, .int .i64 sz, .int .i64 f, .int .i64 t] 31))
            have hX := h9.app hv9 hg9 hat9
            clear e0 e1 e2 e3 e4 e5 e6 e7 h8 ev7 h9 hv9 hg9 hat9
            go_roundw
            case rel => exact ⟨nn - 1, _, _, _, _, by go_num, by omega, by simp; omega, hX⟩
            case measure => simp [intOf]; omega
        · obtain ⟨a0, a1, a2, a3, a4, a5, a6, a7⟩ := ev3.at
          have af := fun i => ev3.free i
          have cg := h3.sc.at.c0
          simp only at a0 a1 a2 a3 a4 a5 a6 a7 cg
          have hSG : I64 sg := by have := h3.scr.g; have q := h3.scr.ig; simp only at this; rw [this]; exact q
          have k4 := grown_st8 w3 eb (.int .i64 1) (.int .i64 0) (.int .i64 sg) (.int .i64 0) (.int .i64 0) (.int .i64 0) (.int .i64 0) (.int .i64 0)
          have h4 := h3.wrote k4 HU.out.2.1 HU.out.2.2 HU.out.1
          have ev4 := ev3.set8 ⟨1, 0, sg, 0, 0, 0, 0, 0⟩
          simp only at ev4
          clear h3 ev3 k4
          go_upto_region 8 with fail
          clear a0 a1 a2 a3 a4 a5 a6 a7 af cg
          obtain ⟨w5, hw5⟩ : ∃ w5, w5 = ((((((((w3.setCell ⟨eb, 0, none⟩ (.int .i64 1)).setCell ⟨eb, 1, none⟩ (.int .i64 0)).setCell ⟨eb, 2, none⟩ (.int .i64 sg)).setCell ⟨eb, 3, none⟩ (.int .i64 0)).setCell ⟨eb, 4, none⟩ (.int .i64 0)).setCell ⟨eb, 5, none⟩ (.int .i64 0)).setCell ⟨eb, 6, none⟩ (.int .i64 0)).setCell ⟨eb, 7, none⟩ (.int .i64 0)) := ⟨_, rfl⟩
          rw [← hw5] at h4 ev4 ⊢
          clear hw5
          have hZ : I64 0 := ⟨by decide, by decide⟩
          have hX := h4
          have ev := ev4
          have hEE : EvI ⟨1, 0, sg, 0, 0, 0, 0, 0⟩ := ⟨(show I64 1 from ⟨by decide, by decide⟩), hZ, hSG, hZ, hZ, hZ, hZ, hZ⟩
          have cI := fun u (hs : ScR B u ⟨sg, lo, ll, lc, co, cl, cc, no, nl, nc, oo, ol, oc⟩ m) => codeIn_any ⟨sg, lo, ll, lc, co, cl, cc, no, nl, nc, oo, ol, oc⟩ m ⟨1, 0, sg, 0, 0, 0, 0, 0⟩ u hEE.2.2.1 hs
          simp only at cI
          obtain ⟨R, hR⟩ : ∃ R, R = codeIn m ⟨1, 0, sg, 0, 0, 0, 0, 0⟩ := ⟨_, rfl⟩
          have HR : Hid (R = codeIn m ⟨1, 0, sg, 0, 0, 0, 0, 0⟩) := hR
          simp only [← hR] at cI
          clear hR
          obtain ⟨s0, s1, s2, s3, s4⟩ := hX.sc.at
          obtain ⟨e0, e1, e2, e3, e4, e5, e6, e7⟩ := ev.at
          simp only at s0 s1 s2 s3 s4 e0 e1 e2 e3 e4 e5 e6 e7
          go_wp2_with fail
          refine (cI _ hX.scr).mono ?_
          rintro y w6 ⟨rfl, f6⟩
          have h6 := hX.fr f6
          have ev6 := ev.keep f6 (by simp)
          clear cI s0 s1 s2 s3 s4 e0 e1 e2 e3 e4 e5 e6 e7 hX ev f6 h4 ev4
          cases hr : (R == 0)
          · go_wp2_with fail
            go_roundw
            case rel => exact ⟨nn - 1, es, _, m, B, by go_num, by omega, by omega, h6⟩
            case measure => simp [intOf]; omega
          · have hz := codeIn_zero (HR.out.symm.trans (beq_iff_eq.1 hr))
            obtain ⟨s0, s1, s2, s3, s4⟩ := h6.sc.at
            obtain ⟨e0, e1, e2, e3, e4, e5, e6, e7⟩ := ev6.at
            simp only at s0 s1 s2 s3 s4 e0 e1 e2 e3 e4 e5 e6 e7
            go_wp2_with fail
            refine (l4Do_any ⟨sg, lo, ll, lc, co, cl, cc, no, nl, nc, oo, ol, oc⟩ m ⟨1, 0, sg, 0, 0, 0, 0, 0⟩ _ hz.2 hz.1 (fun b q => (h6.bB b q).1) h6.scr).mono ?_
            rintro y w7 ⟨⟨g', lo1, ll1, lc1, co1, cl1, cc1, no1, nl1, nc1, oo1, ol1, oc1⟩, rfl, hS, f7⟩
            have h8 := h6.scene f7 hS
            have ev7 := (ev6.keep f7 (by simp)).keep (put5 w7 sb (.int .i64 g') (.slice lo1 ll1 lc1) (.slice co1 cl1 cc1) (.slice no1 nl1 nc1) (.slice oo1 ol1 oc1)) (by have := HU.out.2.1; simp; omega)
            obtain ⟨j0, j1, j2, j3, j4⟩ := (h6.sc.fr f7).at
            have jf := fun i => (h6.sc.fr f7).free i
            simp only at h8 j0 j1 j2 j3 j4
            clear s0 s1 s2 s3 s4 e0 e1 e2 e3 e4 e5 e6 e7 h6 ev6 hS f7 hz
            go_upto_region 10 with fail
            clear j0 j1 j2 j3 j4 jf
            obtain ⟨w8, hw8⟩ : ∃ w8, w8 = (((((w7.setCell ⟨sb, 0, none⟩ (.int .i64 g')).setCell ⟨sb, 1, none⟩ (.slice lo1 ll1 lc1)).setCell ⟨sb, 2, none⟩ (.slice co1 cl1 cc1)).setCell ⟨sb, 3, none⟩ (.slice no1 nl1 nc1)).setCell ⟨sb, 4, none⟩ (.slice oo1 ol1 oc1)) := ⟨_, rfl⟩
            rw [← hw8] at h8 ev7 ⊢
            clear hw8
            obtain ⟨e0, e1, e2, e3, e4, e5, e6, e7⟩ := ev7.at
            simp only at e0 e1 e2 e3 e4 e5 e6 e7
            have hsz : w.heap.size ≤ w8.heap.size := h8.gro.size
            have hle : es.length ≤ 100000 := by omega
            go_wp2_with (at_builtin; refine appE _ rfl _ _ rfl w.heap.size u6 es ⟨1, 0, sg, 0, 0, 0, 0, 0⟩ rfl (h8.own.fr (Fr.alloc _ _)) _ _ rfl (evC_new w8 ⟨1, 0, sg, 0, 0, 0, 0, 0⟩) (by omega) (by simp; omega) ?_; intro v9 w9 hv9 hg9 hat9)
            have h9 := h8.fr (Fr.alloc w8 (.cells #[.int .i64 1, .int .i64 0, .int .i64 sg, .int .i64 0, .int .i64 0, .int .i64 0, .int .i64 0, .int .i64 0] 31))
            have hX := h9.app hv9 hg9 hat9
            clear e0 e1 e2 e3 e4 e5 e6 e7 h8 ev7 h9 hv9 hg9 hat9
            go_roundw
            case rel => exact ⟨nn - 1, _, _, _, _, by go_num, by omega, by simp; omega, hX⟩
            case measure => simp [intOf]; omega
      · have hd : decide (sg < 3) = false := decide_eq_false hs3
        have hs4 : 3 ≤ sg := by omega
        go_upto_region 8 with fail
        have hX := h2
        have hEE : EvI ⟨k, gr, o, wi, l, sz, f, t⟩ := hE
        have cI := fun u (hs : ScR B u ⟨sg, lo, ll, lc, co, cl, cc, no, nl, nc, oo, ol, oc⟩ m) => codeIn_any ⟨sg, lo, ll, lc, co, cl, cc, no, nl, nc, oo, ol, oc⟩ m ⟨k, gr, o, wi, l, sz, f, t⟩ u hEE.2.2.1 hs
        simp only at cI
        obtain ⟨R, hR⟩ : ∃ R, R = codeIn m ⟨k, gr, o, wi, l, sz, f, t⟩ := ⟨_, rfl⟩
        have HR : Hid (R = codeIn m ⟨k, gr, o, wi, l, sz, f, t⟩) := hR
        simp only [← hR] at cI
        clear hR
        obtain ⟨s0, s1, s2, s3, s4⟩ := hX.sc.at
        obtain ⟨e0, e1, e2, e3, e4, e5, e6, e7⟩ := ev.at
        simp only at s0 s1 s2 s3 s4 e0 e1 e2 e3 e4 e5 e6 e7
        go_wp2_with fail
        refine (cI _ hX.scr).mono ?_
        rintro y w6 ⟨rfl, f6⟩
        have h6 := hX.fr f6
        have ev6 := ev.keep f6 (by simp)
        clear cI s0 s1 s2 s3 s4 e0 e1 e2 e3 e4 e5 e6 e7 hX ev f6 h2 cg
        cases hr : (R == 0)
        · go_wp2_with fail
          go_roundw
          case rel => exact ⟨nn - 1, es, _, m, B, by go_num, by omega, by omega, h6⟩
          case measure => simp [intOf]; omega
        · have hz := codeIn_zero (HR.out.symm.trans (beq_iff_eq.1 hr))
          obtain ⟨s0, s1, s2, s3, s4⟩ := h6.sc.at
          obtain ⟨e0, e1, e2, e3, e4, e5, e6, e7⟩ := ev6.at
          simp only at s0 s1 s2 s3 s4 e0 e1 e2 e3 e4 e5 e6 e7
          go_wp2_with fail
          refine (l4Do_any ⟨sg, lo, ll, lc, co, cl, cc, no, nl, nc, oo, ol, oc⟩ m ⟨k, gr, o, wi, l, sz, f, t⟩ _ hz.2 hz.1 (fun b q => (h6.bB b q).1) h6.scr).mono ?_
          rintro y w7 ⟨⟨g', lo1, ll1, lc1, co1, cl1, cc1, no1, nl1, nc1, oo1, ol1, oc1⟩, rfl, hS, f7⟩
          have h8 := h6.scene f7 hS
          have ev7 := (ev6.keep f7 (by simp)).keep (put5 w7 sb (.int .i64 g') (.slice lo1 ll1 lc1) (.slice co1 cl1 cc1) (.slice no1 nl1 nc1) (.slice oo1 ol1 oc1)) (by have := HU.out.2.1; simp; omega)
          obtain ⟨j0, j1, j2, j3, j4⟩ := (h6.sc.fr f7).at
          have jf := fun i => (h6.sc.fr f7).free i
          simp only at h8 j0 j1 j2 j3 j4
          clear s0 s1 s2 s3 s4 e0 e1 e2 e3 e4 e5 e6 e7 h6 ev6 hS f7 hz
          go_upto_region 10 with fail
          clear j0 j1 j2 j3 j4 jf
          obtain ⟨w8, hw8⟩ : ∃ w8, w8 = (((((w7.setCell ⟨sb, 0, none⟩ (.int .i64 g')).setCell ⟨sb, 1, none⟩ (.slice lo1 ll1 lc1)).setCell ⟨sb, 2, none⟩ (.slice co1 cl1 cc1)).setCell ⟨sb, 3, none⟩ (.slice no1 nl1 nc1)).setCell ⟨sb, 4, none⟩ (.slice oo1 ol1 oc1)) := ⟨_, rfl⟩
          rw [← hw8] at h8 ev7 ⊢
          clear hw8
          obtain ⟨e0, e1, e2, e3, e4, e5, e6, e7⟩ := ev7.at
          simp only at e0 e1 e2 e3 e4 e5 e6 e7
          have hsz : w.heap.size ≤ w8.heap.size := h8.gro.size
          have hle : es.length ≤ 100000 := by omega
          go_wp2_with (at_builtin; refine appE _ rfl _ _ rfl w.heap.size u6 es ⟨k, gr, o, wi, l, sz, f, t⟩ rfl (h8.own.fr (Fr.alloc _ _)) _ _ rfl (evC_new w8 ⟨k, gr, o, wi, l, sz, f, t⟩) (by omega) (by simp; omega) ?_; intro v9 w9 hv9 hg9 hat9)
          have h9 := h8.fr (Fr.alloc w8 (.cells #[.int .i64 k, .int .i64 gr, .int .i64 o, .int .i64 wi, .int .i64 l, .int .i64 sz, .int .i64 f, .int .i64 t] 31))
          have hX := h9.app hv9 hg9 hat9
          clear e0 e1 e2 e3 e4 e5 e6 e7 h8 ev7 h9 hv9 hg9 hat9
          go_roundw
          case rel => exact ⟨nn - 1, _, _, _, _, by go_num, by omega, by simp; omega, hX⟩
          case measure => simp [intOf]; omega
    · have hpos' : nn ≤ 0 := by omega
      go_wp2_with fail
      go_ret
      exact ⟨_, rfl, es, hX.own, by omega, hX.cur, hX.gro⟩
end Go.Proofs.YthehhiccfnhinaaGreatDoor
