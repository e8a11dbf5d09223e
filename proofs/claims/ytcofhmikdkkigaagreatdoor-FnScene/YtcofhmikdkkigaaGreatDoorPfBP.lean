/-
  Pack BP: ScGrow, ScDraw.
-/
import Derived.Test.YtcofhmikdkkigaaGreatDoorPfAX
import Derived.Test.YtcofhmikdkkigaaGreatDoorPfBO
import Derived.Test.YtcofhmikdkkigaaGreatDoorPfBL
namespace Go.Proofs.YtcofhmikdkkigaaGreatDoor
open Go.RowKit

theorem codeIn_zero {m : Scn} {e : Ev} (h : codeIn m e = 0) : evOk e = true ∧ scB m = true := by
  unfold codeIn at h
  split at h
  · simp at h
  · rename_i hn
    refine ⟨?_, ?_⟩
    · cases he : evOk e with
      | true => rfl
      | false => exact absurd (.inl he) hn
    · cases he : scB m with
      | true => rfl
      | false => exact absurd (.inr he) hn
theorem OwnE.lt {w : World} {base : Nat} {v : Value} {es : List Ev} (h : OwnE w base v es) : ∀ j, v.ownBlock = some j → j < w.heap.size := by
  obtain ⟨g, cap, rfl, ho, hl⟩ := h
  intro j hj
  exact (ho.lt j hj).2

structure GX (B : Nat → Prop) (w0 : World) (g sb : Nat) (u : Value) (es : List Ev) (s : Sv) (m : Scn) (wr : World) : Prop where
  cur : Cur wr g
  gro : w0.grownBy wr (some g)
  sc : ScK wr sb s
  scr : ScR B wr s m
  own : OwnE wr w0.heap.size u es
  gl : g < w0.heap.size
  sl : w0.heap.size ≤ sb
  ul : ∀ j, u.ownBlock = some j → j ≠ sb ∧ j < wr.heap.size
  bB : ∀ b, B b → b < wr.heap.size ∧ b ≠ g ∧ b ≠ sb ∧ u.ownBlock ≠ some b
theorem GX.draw {B : Nat → Prop} {w0 wr w' : World} {g sb : Nat} {u : Value} {es : List Ev} {s : Sv} {m : Scn} (h : GX B w0 g sb u es s m wr) (c : Cur w' g) (k : wr.grownBy w' (some g)) : GX B w0 g sb u es s m w' := by
  have h1 := h.gl; have h2 := h.sl; have hs := k.size
  exact { h with cur := c, gro := grown_trans h.gro k, sc := h.sc.keep k (by simp; omega), scr := h.scr.keep k (fun j hj => by cases hj; exact fun q => (h.bB _ q).2.1 rfl), own := h.own.keep k (fun q => by have := h.own.blk _ q; omega), ul := fun j hj => ⟨(h.ul j hj).1, by have := (h.ul j hj).2; omega⟩, bB := fun b hb => ⟨by have := (h.bB b hb).1; omega, (h.bB b hb).2⟩ }
theorem GX.fr {B : Nat → Prop} {w0 wr w' : World} {g sb : Nat} {u : Value} {es : List Ev} {s : Sv} {m : Scn} (h : GX B w0 g sb u es s m wr) (k : Fr wr w') : GX B w0 g sb u es s m w' := by
  have hs := k.size
  exact { h with cur := h.cur.fr k, gro := grown_trans h.gro k.wide, sc := h.sc.fr k, scr := h.scr.fr k, own := h.own.fr k, ul := fun j hj => ⟨(h.ul j hj).1, by have := (h.ul j hj).2; omega⟩, bB := fun b hb => ⟨by have := (h.bB b hb).1; omega, (h.bB b hb).2⟩ }
theorem GX.wrote {B : Nat → Prop} {w0 wr w' : World} {g sb eb : Nat} {u : Value} {es : List Ev} {s : Sv} {m : Scn} (h : GX B w0 g sb u es s m wr) (k : wr.grownBy w' (some eb)) (he : sb < eb) (hB : ¬ B eb) (hu : u.ownBlock ≠ some eb) : GX B w0 g sb u es s m w' := by
  have h1 := h.gl; have h2 := h.sl; have hs := k.size
  exact { h with cur := h.cur.other k (by intro j hj; simp only [Option.some.injEq] at hj; omega), gro := grown_then h.gro k (by intro j hj; simp only [Option.some.injEq] at hj; omega), sc := h.sc.keep k (by simp; omega), scr := h.scr.keep k (fun j hj => by cases hj; exact hB), own := h.own.keep k hu, ul := fun j hj => ⟨(h.ul j hj).1, by have := (h.ul j hj).2; omega⟩, bB := fun b hb => ⟨by have := (h.bB b hb).1; omega, (h.bB b hb).2⟩ }
theorem GX.scene {B : Nat → Prop} {w0 w1 wr : World} {g sb : Nat} {u : Value} {es : List Ev} {s s' : Sv} {m m' : Scn} (h1 : GX B w0 g sb u es s m w1) (f : Fr w1 wr) (hS : ScR (Grew B w1 wr) wr s' m') :
    GX (Grew B w1 wr) w0 g sb u es s' m' (((((wr.setCell ⟨sb, 0, none⟩ (.int .i64 s'.g)).setCell ⟨sb, 1, none⟩ (.slice s'.lo s'.ll s'.lc)).setCell ⟨sb, 2, none⟩ (.slice s'.co s'.cl s'.cc)).setCell ⟨sb, 3, none⟩ (.slice s'.no s'.nl s'.nc)).setCell ⟨sb, 4, none⟩ (.slice s'.oo s'.ol s'.oc)) := by
  have h := h1.fr f
  have k := put5 wr sb (.int .i64 s'.g) (.slice s'.lo s'.ll s'.lc) (.slice s'.co s'.cl s'.cc) (.slice s'.no s'.nl s'.nc) (.slice s'.oo s'.ol s'.oc)
  have hs := k.size
  have hb : ∀ b, Grew B w1 wr b → b < wr.heap.size ∧ b ≠ g ∧ b ≠ sb ∧ u.ownBlock ≠ some b := by
    rintro b (hb | ⟨h3, h4⟩)
    · exact h.bB b hb
    · have h5 := h1.sc.lt
      have h6 := h1.gl
      have h7 := h1.sl
      exact ⟨h4, by omega, by omega, fun q => by have := (h1.ul _ q).2; omega⟩
  refine { h with cur := h.cur.other k (by intro j hj; simp only [Option.some.injEq] at hj; have := h.gl; have := h.sl; omega), gro := grown_then h.gro k (by intro j hj; simp only [Option.some.injEq] at hj; have := h.sl; omega), sc := ?_, scr := hS.keep k (fun j hj => by cases hj; exact fun q => (hb _ q).2.2.1 rfl), own := h.own.keep k (fun q => (h.ul _ q).1 rfl), ul := fun j hj => ⟨(h.ul j hj).1, by have := (h.ul j hj).2; omega⟩, bB := fun b q => ⟨by have := (hb b q).1; omega, (hb b q).2⟩ }
  have e0 := heap_setCell_same wr sb 0 _ _ (.int .i64 s'.g) h.sc
  have e1 := heap_setCell_same _ sb 1 _ _ (.slice s'.lo s'.ll s'.lc) e0
  have e2 := heap_setCell_same _ sb 2 _ _ (.slice s'.co s'.cl s'.cc) e1
  have e3 := heap_setCell_same _ sb 3 _ _ (.slice s'.no s'.nl s'.nc) e2
  exact heap_setCell_same _ sb 4 _ _ (.slice s'.oo s'.ol s'.oc) e3

theorem GX.app {B : Nat → Prop} {w0 wr w' : World} {g sb : Nat} {u v : Value} {es es' : List Ev} {s : Sv} {m : Scn} (h : GX B w0 g sb u es s m wr) (hv : OwnE w' w0.heap.size v es') (k : wr.grownBy w' u.ownBlock) (hat : v.ownBlock = u.ownBlock ∨ v.ownBlock = some wr.heap.size) : GX B w0 g sb v es' s m w' := by
  have h1 := h.gl; have h2 := h.sl; have hs := k.size; have h3 := h.sc.lt
  refine { h with cur := h.cur.other k (fun j hj => by have := h.own.blk j hj; omega), gro := grown_then h.gro k (fun j hj => .inl (h.own.blk j hj)), sc := h.sc.keep k (fun q => (h.ul _ q).1 rfl), scr := h.scr.keep k (fun j hj q => (h.bB _ q).2.2.2 hj), own := hv, ul := fun j hj => ⟨?_, hv.lt j hj⟩, bB := fun b hb => ⟨by have := (h.bB b hb).1; omega, (h.bB b hb).2.1, (h.bB b hb).2.2.1, ?_⟩ }
  · rcases hat with e | e
    · rw [e] at hj; exact (h.ul j hj).1
    · rw [e] at hj; simp only [Option.some.injEq] at hj; omega
  · rcases hat with e | e
    · rw [e]; exact (h.bB b hb).2.2.2
    · rw [e]; have := (h.bB b hb).1; simp only [ne_eq, Option.some.injEq]; omega

set_option maxRecDepth 20000 in
set_option maxHeartbeats 8000000 in
theorem l5Grow_any (g : Nat) (n : Int) (w : World) (hc : Cur w g) (hn : n ≤ 100000) :
    Calls Tryz.prog 200 #[.pointer (some ⟨g, 0, none⟩), .int .i64 n] w fun x w' => ∃ v : Value, x = .returned v ∧ ∃ es : List Ev, OwnE w' w.heap.size v es ∧ es.length ≤ n.toNat ∧ Cur w' g ∧ w.grownBy w' (some g) := by
  have hgl := hc.lt
  go_enter Tryz.func200, Tryz.ntmps200
  go_wp2_with fail
  refine (newScene_any (fun _ => False) _).mono ?_
  rintro e w1 ⟨⟨sg, lo, ll, lc, co, cl, cc, no, nl, nc, oo, ol, oc⟩, rfl, hS, f1⟩
  go_wp2_with fail
  obtain ⟨sb, hsb⟩ : ∃ sb, sb = w1.heap.size := ⟨_, rfl⟩
  have h1 := f1.size
  have fA := Fr.alloc w1 (.cells #[.int .i64 sg, .slice lo ll lc, .slice co cl cc, .slice no nl nc, .slice oo ol oc] 29)
  have fB := Fr.alloc (w1.alloc (.cells #[.int .i64 sg, .slice lo ll lc, .slice co cl cc, .slice no nl nc, .slice oo ol oc] 29)) (.cells #[] 31)
  have kS := (ScK.new w1 ⟨sg, lo, ll, lc, co, cl, cc, no, nl, nc, oo, ol, oc⟩).fr fB
  have kO := (ownE_new (w1.alloc (.cells #[.int .i64 sg, .slice lo ll lc, .slice co cl cc, .slice no nl nc, .slice oo ol oc] 29))).lower (base' := w.heap.size) (by simp; omega)
  have fC := (f1.trans fA).trans fB
  have hX : GX (fun _ => False) w g w1.heap.size (.slice (some ⟨w1.heap.size + 1, 0, none⟩) 0 0) [] ⟨sg, lo, ll, lc, co, cl, cc, no, nl, nc, oo, ol, oc⟩ scn0 ((w1.alloc (.cells #[.int .i64 sg, .slice lo ll lc, .slice co cl cc, .slice no nl nc, .slice oo ol oc] 29)).alloc (.cells #[] 31)) := by
    simp only [World.size_alloc] at kO
    exact ⟨hc.fr fC, fC.wide, kS, hS.fr (fA.trans fB), kO, hgl, h1, fun j hj => by simp only [Value.ownBlock, Option.some.injEq] at hj; subst hj; simp, fun b hb => hb.elim⟩
  obtain ⟨V, hV⟩ : ∃ V, V = (w1.alloc (.cells #[.int .i64 sg, .slice lo ll lc, .slice co cl cc, .slice no nl nc, .slice oo ol oc] 29)).alloc (.cells #[] 31) := ⟨_, rfl⟩
  rw [← hV] at hX ⊢
  rw [← hsb] at hX ⊢
  clear hV hsb h1 fA fB kS kO fC f1 hS hgl hc
  go_loopw [1, 6] (fun q u wr => ∃ (nn : Int) (es : List Ev) (s : Sv) (m : Scn) (B : Nat → Prop), q = .int .i64 nn ∧ nn ≤ n ∧ es.length + nn.toNat ≤ n.toNat ∧ GX B w g sb u es s m wr) (fun q _ _ => (intOf q).toNat)
  case atStart => exact ⟨n, [], _, _, _, rfl, Int.le_refl _, by simp, hX⟩
  case round =>
    clear hX
    obtain ⟨nn, es, ⟨sg, lo, ll, lc, co, cl, cc, no, nl, nc, oo, ol, oc⟩, m, B, rfl, hnn, hel, hX⟩ := hrel
    by_cases hpos : 0 < nn
    · obtain ⟨s0, s1, s2, s3, s4⟩ := hX.sc.at
      simp only at s0 s1 s2 s3 s4
      go_wp2_with fail
      refine (l5Next_any g ⟨sg, lo, ll, lc, co, cl, cc, no, nl, nc, oo, ol, oc⟩ m _ hX.cur (fun b q => ⟨(hX.bB b q).1, (hX.bB b q).2.1⟩) hX.scr).mono ?_
      rintro x w1 ⟨⟨k, gr, o, wi, l, sz, f, t⟩, rfl, hE, c1, g1⟩
      have h1 := hX.draw c1 g1
      clear hX c1 g1 s0 s1 s2 s3 s4
      simp only
      go_upto_region 6 with fail
      have ev := EvB.new w1 ⟨k, gr, o, wi, l, sz, f, t⟩
      have h2 := h1.fr (Fr.alloc w1 (.cells #[.int .i64 k, .int .i64 gr, .int .i64 o, .int .i64 wi, .int .i64 l, .int .i64 sz, .int .i64 f, .int .i64 t] 31))
      have HU : Hid (u6.ownBlock ≠ some w1.heap.size ∧ sb < w1.heap.size ∧ ¬ B w1.heap.size) := ⟨fun q => by have := (h1.ul _ q).2; omega, h1.sc.lt, fun q => by have := (h1.bB _ q).1; omega⟩
      simp only at ev
      obtain ⟨V, hV⟩ : ∃ V, V = w1.alloc (.cells #[.int .i64 k, .int .i64 gr, .int .i64 o, .int .i64 wi, .int .i64 l, .int .i64 sz, .int .i64 f, .int .i64 t] 31) := ⟨_, rfl⟩
      rw [← hV] at ev h2 ⊢
      obtain ⟨eb, heb⟩ : ∃ eb, eb = w1.heap.size := ⟨_, rfl⟩
      rw [← heb] at ev HU ⊢
      clear hV heb h1
      have cg := h2.sc.at.c0
      simp only at cg
      by_cases hs3 : sg < 3
      · go_wp2_with fail
        refine (l1Once_any _ _ _ h2.cur).mono ?_
        rintro e w3 ⟨on, rfl, c3, g3⟩
        have h3 := h2.draw c3 g3
        have ev3 := ev.keep g3 (by have := h2.gl; have := h2.sl; have := HU.out.2.1; simp; omega)
        clear h2 ev c3 g3 cg
        cases on
        · go_upto_region 8 with fail
          have hX := h3
          have ev := ev3
          have hEE : EvI ⟨k, gr, o, wi, l, sz, f, t⟩ := hE
          have cI := fun u (hs : ScR B u ⟨sg, lo, ll, lc, co, cl, cc, no, nl, nc, oo, ol, oc⟩ m) => codeIn_any ⟨sg, lo, ll, lc, co, cl, cc, no, nl, nc, oo, ol, oc⟩ m ⟨k, gr, o, wi, l, sz, f, t⟩ u hEE.2.2.1 hs
          simp only at cI
          obtain ⟨R, hR⟩ : ∃ R, R = codeIn m ⟨k, gr, o, wi, l, sz, f, t⟩ := ⟨_, rfl⟩
          have HR : Hid (R = codeIn m ⟨k, gr, o, wi, l, sz, f, t⟩) := hR
          simp only [← hR] at cI
          clear hR
          obtain ⟨s0, s1, s2, s3, s4⟩ := hX.sc.at
          obtain ⟨e0, e1, e2, e3, e4, e5, e6, e7⟩ := ev.at
          simp only at s0 s1 s2 s3 s4 e0 e1 e2 e3 e4 e5 e6 e7
          go_wp2_with fail
          refine (cI _ hX.scr).mono ?_
          rintro y w6 ⟨rfl, f6⟩
          have h6 := hX.fr f6
          have ev6 := ev.keep f6 (by simp)
          clear cI s0 s1 s2 s3 s4 e0 e1 e2 e3 e4 e5 e6 e7 hX ev f6 h3 ev3
          cases hr : (R == 0)
          · go_wp2_with fail
            go_roundw
            case rel => exact ⟨nn - 1, es, _, m, B, by go_num, by omega, by omega, h6⟩
            case measure => simp [intOf]; omega
          · have hz := codeIn_zero (HR.out.symm.trans (beq_iff_eq.1 hr))
            obtain ⟨s0, s1, s2, s3, s4⟩ := h6.sc.at
            obtain ⟨e0, e1, e2, e3, e4, e5, e6, e7⟩ := ev6.at
            simp only at s0 s1 s2 s3 s4 e0 e1 e2 e3 e4 e5 e6 e7
            go_wp2_with fail
            refine (l4Do_any ⟨sg, lo, ll, lc, co, cl, cc, no, nl, nc, oo, ol, oc⟩ m ⟨k, gr, o, wi, l, sz, f, t⟩ _ hz.2 hz.1 (fun b q => (h6.bB b q).1) h6.scr).mono ?_
            rintro y w7 ⟨⟨g', lo1, ll1, lc1, co1, cl1, cc1, no1, nl1, nc1, oo1, ol1, oc1⟩, rfl, hS, f7⟩
            have h8 := h6.scene f7 hS
            have ev7 := (ev6.keep f7 (by simp)).keep (put5 w7 sb (.int .i64 g') (.slice lo1 ll1 lc1) (.slice co1 cl1 cc1) (.slice no1 nl1 nc1) (.slice oo1 ol1 oc1)) (by have := HU.out.2.1; simp; omega)
            obtain ⟨j0, j1, j2, j3, j4⟩ := (h6.sc.fr f7).at
            have jf := fun i => (h6.sc.fr f7).free i
            simp only at h8 j0 j1 j2 j3 j4
            clear s0 s1 s2 s3 s4 e0 e1 e2 e3 e4 e5 e6 e7 h6 ev6 hS f7 hz
            go_upto_region 10 with fail
            clear j0 j1 j2 j3 j4 jf
            obtain ⟨w8, hw8⟩ : ∃ w8, w8 = (((((w7.setCell ⟨sb, 0, none⟩ (.int .i64 g')).setCell ⟨sb, 1, none⟩ (.slice lo1 ll1 lc1)).setCell ⟨sb, 2, none⟩ (.slice co1 cl1 cc1)).setCell ⟨sb, 3, none⟩ (.slice no1 nl1 nc1)).setCell ⟨sb, 4, none⟩ (.slice oo1 ol1 oc1)) := ⟨_, rfl⟩
            rw [← hw8] at h8 ev7 ⊢
            clear hw8
            obtain ⟨e0, e1, e2, e3, e4, e5, e6, e7⟩ := ev7.at
            simp only at e0 e1 e2 e3 e4 e5 e6 e7
            have hsz : w.heap.size ≤ w8.heap.size := h8.gro.size
            have hle : es.length ≤ 100000 := by omega
            go_wp2_with (at_builtin; refine appE _ rfl _ _ rfl w.heap.size u6 es ⟨k, gr, o, wi, l, sz, f, t⟩ rfl (h8.own.fr (Fr.alloc _ _)) _ _ rfl (evC_new w8 ⟨k, gr, o, wi, l, sz, f, t⟩) (by omega) (by simp; omega) ?_; intro v9 w9 hv9 hg9 hat9)
            have h9 := h8.fr (Fr.alloc w8 (.cells #[.int .i64 k, .int .i64 gr, .int .i64 o, .int .i64 wi, .int .i64 l, .int .i64 sz, .int .i64 f, .int .i64 t] 31))
            have hX := h9.app hv9 hg9 hat9
            clear e0 e1 e2 e3 e4 e5 e6 e7 h8 ev7 h9 hv9 hg9 hat9
            go_roundw
            case rel => exact ⟨nn - 1, _, _, _, _, by go_num, by omega, by simp; omega, hX⟩
            case measure => simp [intOf]; omega
        · obtain ⟨a0, a1, a2, a3, a4, a5, a6, a7⟩ := ev3.at
          have af := fun i => ev3.free i
          have cg := h3.sc.at.c0
          simp only at a0 a1 a2 a3 a4 a5 a6 a7 cg
          have hSG : I64 sg := by have := h3.scr.g; have q := h3.scr.ig; simp only at this; rw [this]; exact q
          have k4 := grown_st8 w3 eb (.int .i64 1) (.int .i64 0) (.int .i64 sg) (.int .i64 0) (.int .i64 0) (.int .i64 0) (.int .i64 0) (.int .i64 0)
          have h4 := h3.wrote k4 HU.out.2.1 HU.out.2.2 HU.out.1
          have ev4 := ev3.set8 ⟨1, 0, sg, 0, 0, 0, 0, 0⟩
          simp only at ev4
          clear h3 ev3 k4
          go_upto_region 8 with fail
          clear a0 a1 a2 a3 a4 a5 a6 a7 af cg
          obtain ⟨w5, hw5⟩ : ∃ w5, w5 = ((((((((w3.setCell ⟨eb, 0, none⟩ (.int .i64 1)).setCell ⟨eb, 1, none⟩ (.int .i64 0)).setCell ⟨eb, 2, none⟩ (.int .i64 sg)).setCell ⟨eb, 3, none⟩ (.int .i64 0)).setCell ⟨eb, 4, none⟩ (.int .i64 0)).setCell ⟨eb, 5, none⟩ (.int .i64 0)).setCell ⟨eb, 6, none⟩ (.int .i64 0)).setCell ⟨eb, 7, none⟩ (.int .i64 0)) := ⟨_, rfl⟩
          rw [← hw5] at h4 ev4 ⊢
          clear hw5
          have hZ : I64 0 := ⟨by decide, by decide⟩
          have hX := h4
          have ev := ev4
          have hEE : EvI ⟨1, 0, sg, 0, 0, 0, 0, 0⟩ := ⟨(show I64 1 from ⟨by decide, by decide⟩), hZ, hSG, hZ, hZ, hZ, hZ, hZ⟩
          have cI := fun u (hs : ScR B u ⟨sg, lo, ll, lc, co, cl, cc, no, nl, nc, oo, ol, oc⟩ m) => codeIn_any ⟨sg, lo, ll, lc, co, cl, cc, no, nl, nc, oo, ol, oc⟩ m ⟨1, 0, sg, 0, 0, 0, 0, 0⟩ u hEE.2.2.1 hs
          simp only at cI
          obtain ⟨R, hR⟩ : ∃ R, R = codeIn m ⟨1, 0, sg, 0, 0, 0, 0, 0⟩ := ⟨_, rfl⟩
          have HR : Hid (R = codeIn m ⟨1, 0, sg, 0, 0, 0, 0, 0⟩) := hR
          simp only [← hR] at cI
          clear hR
          obtain ⟨s0, s1, s2, s3, s4⟩ := hX.sc.at
          obtain ⟨e0, e1, e2, e3, e4, e5, e6, e7⟩ := ev.at
          simp only at s0 s1 s2 s3 s4 e0 e1 e2 e3 e4 e5 e6 e7
          go_wp2_with fail
          refine (cI _ hX.scr).mono ?_
          rintro y w6 ⟨rfl, f6⟩
          have h6 := hX.fr f6
          have ev6 := ev.keep f6 (by simp)
          clear cI s0 s1 s2 s3 s4 e0 e1 e2 e3 e4 e5 e6 e7 hX ev f6 h4 ev4
          cases hr : (R == 0)
          · go_wp2_with fail
            go_roundw
            case rel => exact ⟨nn - 1, es, _, m, B, by go_num, by omega, by omega, h6⟩
            case measure => simp [intOf]; omega
          · have hz := codeIn_zero (HR.out.symm.trans (beq_iff_eq.1 hr))
            obtain ⟨s0, s1, s2, s3, s4⟩ := h6.sc.at
            obtain ⟨e0, e1, e2, e3, e4, e5, e6, e7⟩ := ev6.at
            simp only at s0 s1 s2 s3 s4 e0 e1 e2 e3 e4 e5 e6 e7
            go_wp2_with fail
            refine (l4Do_any ⟨sg, lo, ll, lc, co, cl, cc, no, nl, nc, oo, ol, oc⟩ m ⟨1, 0, sg, 0, 0, 0, 0, 0⟩ _ hz.2 hz.1 (fun b q => (h6.bB b q).1) h6.scr).mono ?_
            rintro y w7 ⟨⟨g', lo1, ll1, lc1, co1, cl1, cc1, no1, nl1, nc1, oo1, ol1, oc1⟩, rfl, hS, f7⟩
            have h8 := h6.scene f7 hS
            have ev7 := (ev6.keep f7 (by simp)).keep (put5 w7 sb (.int .i64 g') (.slice lo1 ll1 lc1) (.slice co1 cl1 cc1) (.slice no1 nl1 nc1) (.slice oo1 ol1 oc1)) (by have := HU.out.2.1; simp; omega)
            obtain ⟨j0, j1, j2, j3, j4⟩ := (h6.sc.fr f7).at
            have jf := fun i => (h6.sc.fr f7).free i
            simp only at h8 j0 j1 j2 j3 j4
            clear s0 s1 s2 s3 s4 e0 e1 e2 e3 e4 e5 e6 e7 h6 ev6 hS f7 hz
            go_upto_region 10 with fail
            clear j0 j1 j2 j3 j4 jf
            obtain ⟨w8, hw8⟩ : ∃ w8, w8 = (((((w7.setCell ⟨sb, 0, none⟩ (.int .i64 g')).setCell ⟨sb, 1, none⟩ (.slice lo1 ll1 lc1)).setCell ⟨sb, 2, none⟩ (.slice co1 cl1 cc1)).setCell ⟨sb, 3, none⟩ (.slice no1 nl1 nc1)).setCell ⟨sb, 4, none⟩ (.slice oo1 ol1 oc1)) := ⟨_, rfl⟩
            rw [← hw8] at h8 ev7 ⊢
            clear hw8
            obtain ⟨e0, e1, e2, e3, e4, e5, e6, e7⟩ := ev7.at
            simp only at e0 e1 e2 e3 e4 e5 e6 e7
            have hsz : w.heap.size ≤ w8.heap.size := h8.gro.size
            have hle : es.length ≤ 100000 := by omega
            go_wp2_with (at_builtin; refine appE _ rfl _ _ rfl w.heap.size u6 es ⟨1, 0, sg, 0, 0, 0, 0, 0⟩ rfl (h8.own.fr (Fr.alloc _ _)) _ _ rfl (evC_new w8 ⟨1, 0, sg, 0, 0, 0, 0, 0⟩) (by omega) (by simp; omega) ?_; intro v9 w9 hv9 hg9 hat9)
            have h9 := h8.fr (Fr.alloc w8 (.cells #[.int .i64 1, .int .i64 0, .int .i64 sg, .int .i64 0, .int .i64 0, .int .i64 0, .int .i64 0, .int .i64 0] 31))
            have hX := h9.app hv9 hg9 hat9
            clear e0 e1 e2 e3 e4 e5 e6 e7 h8 ev7 h9 hv9 hg9 hat9
            go_roundw
            case rel => exact ⟨nn - 1, _, _, _, _, by go_num, by omega, by simp; omega, hX⟩
            case measure => simp [intOf]; omega
      · have hd : decide (sg < 3) = false := decide_eq_false hs3
        have hs4 : 3 ≤ sg := by omega
        go_upto_region 8 with fail
        have hX := h2
        have hEE : EvI ⟨k, gr, o, wi, l, sz, f, t⟩ := hE
        have cI := fun u (hs : ScR B u ⟨sg, lo, ll, lc, co, cl, cc, no, nl, nc, oo, ol, oc⟩ m) => codeIn_any ⟨sg, lo, ll, lc, co, cl, cc, no, nl, nc, oo, ol, oc⟩ m ⟨k, gr, o, wi, l, sz, f, t⟩ u hEE.2.2.1 hs
        simp only at cI
        obtain ⟨R, hR⟩ : ∃ R, R = codeIn m ⟨k, gr, o, wi, l, sz, f, t⟩ := ⟨_, rfl⟩
        have HR : Hid (R = codeIn m ⟨k, gr, o, wi, l, sz, f, t⟩) := hR
        simp only [← hR] at cI
        clear hR
        obtain ⟨s0, s1, s2, s3, s4⟩ := hX.sc.at
        obtain ⟨e0, e1, e2, e3, e4, e5, e6, e7⟩ := ev.at
        simp only at s0 s1 s2 s3 s4 e0 e1 e2 e3 e4 e5 e6 e7
        go_wp2_with fail
        refine (cI _ hX.scr).mono ?_
        rintro y w6 ⟨rfl, f6⟩
        have h6 := hX.fr f6
        have ev6 := ev.keep f6 (by simp)
        clear cI s0 s1 s2 s3 s4 e0 e1 e2 e3 e4 e5 e6 e7 hX ev f6 h2 cg
        cases hr : (R == 0)
        · go_wp2_with fail
          go_roundw
          case rel => exact ⟨nn - 1, es, _, m, B, by go_num, by omega, by omega, h6⟩
          case measure => simp [intOf]; omega
        · have hz := codeIn_zero (HR.out.symm.trans (beq_iff_eq.1 hr))
          obtain ⟨s0, s1, s2, s3, s4⟩ := h6.sc.at
          obtain ⟨e0, e1, e2, e3, e4, e5, e6, e7⟩ := ev6.at
          simp only at s0 s1 s2 s3 s4 e0 e1 e2 e3 e4 e5 e6 e7
          go_wp2_with fail
          refine (l4Do_any ⟨sg, lo, ll, lc, co, cl, cc, no, nl, nc, oo, ol, oc⟩ m ⟨k, gr, o, wi, l, sz, f, t⟩ _ hz.2 hz.1 (fun b q => (h6.bB b q).1) h6.scr).mono ?_
          rintro y w7 ⟨⟨g', lo1, ll1, lc1, co1, cl1, cc1, no1, nl1, nc1, oo1, ol1, oc1⟩, rfl, hS, f7⟩
          have h8 := h6.scene f7 hS
          have ev7 := (ev6.keep f7 (by simp)).keep (put5 w7 sb (.int .i64 g') (.slice lo1 ll1 lc1) (.slice co1 cl1 cc1) (.slice no1 nl1 nc1) (.slice oo1 ol1 oc1)) (by have := HU.out.2.1; simp; omega)
          obtain ⟨j0, j1, j2, j3, j4⟩ := (h6.sc.fr f7).at
          have jf := fun i => (h6.sc.fr f7).free i
          simp only at h8 j0 j1 j2 j3 j4
          clear s0 s1 s2 s3 s4 e0 e1 e2 e3 e4 e5 e6 e7 h6 ev6 hS f7 hz
          go_upto_region 10 with fail
          clear j0 j1 j2 j3 j4 jf
          obtain ⟨w8, hw8⟩ : ∃ w8, w8 = (((((w7.setCell ⟨sb, 0, none⟩ (.int .i64 g')).setCell ⟨sb, 1, none⟩ (.slice lo1 ll1 lc1)).setCell ⟨sb, 2, none⟩ (.slice co1 cl1 cc1)).setCell ⟨sb, 3, none⟩ (.slice no1 nl1 nc1)).setCell ⟨sb, 4, none⟩ (.slice oo1 ol1 oc1)) := ⟨_, rfl⟩
          rw [← hw8] at h8 ev7 ⊢
          clear hw8
          obtain ⟨e0, e1, e2, e3, e4, e5, e6, e7⟩ := ev7.at
          simp only at e0 e1 e2 e3 e4 e5 e6 e7
          have hsz : w.heap.size ≤ w8.heap.size := h8.gro.size
          have hle : es.length ≤ 100000 := by omega
          go_wp2_with (at_builtin; refine appE _ rfl _ _ rfl w.heap.size u6 es ⟨k, gr, o, wi, l, sz, f, t⟩ rfl (h8.own.fr (Fr.alloc _ _)) _ _ rfl (evC_new w8 ⟨k, gr, o, wi, l, sz, f, t⟩) (by omega) (by simp; omega) ?_; intro v9 w9 hv9 hg9 hat9)
          have h9 := h8.fr (Fr.alloc w8 (.cells #[.int .i64 k, .int .i64 gr, .int .i64 o, .int .i64 wi, .int .i64 l, .int .i64 sz, .int .i64 f, .int .i64 t] 31))
          have hX := h9.app hv9 hg9 hat9
          clear e0 e1 e2 e3 e4 e5 e6 e7 h8 ev7 h9 hv9 hg9 hat9
          go_roundw
          case rel => exact ⟨nn - 1, _, _, _, _, by go_num, by omega, by simp; omega, hX⟩
          case measure => simp [intOf]; omega
    · have hpos' : nn ≤ 0 := by omega
      go_wp2_with fail
      go_ret
      exact ⟨_, rfl, es, hX.own, by omega, hX.cur, hX.gro⟩
end Go.Proofs.YtcofhmikdkkigaaGreatDoor
namespace Go.Proofs.YtcofhmikdkkigaaGreatDoor
open Go.RowKit

theorem Cur.c0 {w : World} {g : Nat} (h : Cur w g) : ∃ ao n cap, w.cell? ⟨g, 0, none⟩ = some (.slice ao n cap) ∧ n ≤ 4294967296 := by
  obtain ⟨ao, n, cap, i, hh, hg, hin, hn, hb⟩ := h
  exact ⟨ao, n, cap, by rw [cell_of_row _ _ _ _ _ _ hg]; rfl, hn⟩

set_option maxRecDepth 20000 in
set_option maxHeartbeats 2000000 in
theorem l5Draw_any (g : Nat) (w : World) (hc : Cur w g) :
    Calls Tryz.prog 184 #[.pointer (some ⟨g, 0, none⟩)] w fun x w' => ∃ v : Value, x = .returned v ∧ ∃ es : List Ev, OwnE w' w.heap.size v es ∧ es.length ≤ 58 ∧ Cur w' g ∧ w.grownBy w' (some g) := by
  obtain ⟨ao, n, cap, hn, hnl⟩ := hc.c0
  go_enter Tryz.func184, Tryz.ntmps184
  go_wp2_with fail
  go_region_with (first
    | (go_at_call 143; refine (l1Below_any g _ _ (hc.fr (Fr.drew w))).mono ?_; rintro e w1 ⟨x, rfl, x0, x1, x2, c1, g1⟩; have x3 : x < 50 := x1 (by omega); have hw : IntKind.i64.wrap (8 + x) = 8 + x := (by rw [IntKind.wrap_i64]; omega); obtain ⟨ao1, n1, cap1, hn1, hnl1⟩ := c1.c0)
    | (go_at_call 146; refine (l1Min_any _ _ _).mono ?_; rintro e w2 ⟨rfl, rfl⟩)
    | (go_at_call 200; refine (l5Grow_any g _ _ c1 (by first | omega | (rw [hw]; omega))).mono ?_; rintro e w3 ⟨v, rfl, es, o3, l3, c3, g3⟩))
  all_goals (
    have hsz : w.heap.size ≤ w2.heap.size := g1.size
    go_wp2_with fail
    go_ret
    exact ⟨_, rfl, es, o3.lower hsz, by omega, c3, grown_trans (Fr.drew w).wide (grown_trans g1 g3)⟩)
end Go.Proofs.YtcofhmikdkkigaaGreatDoor
