/-
  A trace that is grown event by event: l5Grow.
-/
import Derived.Test.YthjnhfcncinhiaaDoorPackAH
import Derived.Test.YthjnhfcncinhiaaDoorPackAK
import Derived.Test.YthjnhfcncinhiaaDoorPackAI
import Derived.Test.YthjnhfcncinhiaaDoorPackAJ
import Derived.Test.YthjnhfcncinhiaaDoorPackAA
import Derived.Test.YthjnhfcncinhiaaDoorPackAD
import Derived.Maps.AppendAt
import Derived.BigRegion
import Derived.Test.YthjnhfcncinhiaaDoorPackAE
import Derived.ArgAppend
namespace Go.Proofs.YthjnhfcncinhiaaDoor
open Go.RowKit

theorem codeIn_zero {m : Scn} {e : Ev} (h : codeIn m e = 0) : evOk e = true ∧ scB m = true := by
  unfold codeIn at h
  split at h
  · simp at h
  · rename_i hn
    refine ⟨?_, ?_⟩
    · cases he : evOk e with
      | true => rfl
      | false => exact absurd (.inl he) hn
    · cases he : scB m with
      | true => rfl
      | false => exact absurd (.inr he) hn
theorem OwnE.lt {w : World} {base : Nat} {v : Value} {es : List Ev} (h : OwnE w base v es) : ∀ j, v.ownBlock = some j → j < w.heap.size := by
  obtain ⟨g, cap, rfl, ho, hl⟩ := h
  intro j hj
  exact (ho.lt j hj).2

/-- The state in the midst of l5Grow: the cursor in g, the scene in sb, the events so far in the slice u. -/
structure GX (B : Nat → Prop) (w0 : World) (g sb : Nat) (u : Value) (es : List Ev) (s : Sv) (m : Scn) (wr : World) : Prop where
  cur : Cur wr g
  gro : w0.grownBy wr (some g)
  sc : ScK wr sb s
  scr : ScR B wr s m
  own : OwnE wr w0.heap.size u es
  gl : g < w0.heap.size
  sl : w0.heap.size ≤ sb
  ul : ∀ j, u.ownBlock = some j → j ≠ sb ∧ j < wr.heap.size
  bB : ∀ b, B b → b < wr.heap.size ∧ b ≠ g ∧ b ≠ sb ∧ u.ownBlock ≠ some b
theorem GX.draw {B : Nat → Prop} {w0 wr w' : World} {g sb : Nat} {u : Value} {es : List Ev} {s : Sv} {m : Scn} (h : GX B w0 g sb u es s m wr) (c : Cur w' g) (k : wr.grownBy w' (some g)) : GX B w0 g sb u es s m w' := by
  have h1 := h.gl; have h2 := h.sl; have hs := k.size
  exact { h with cur := c, gro := grown_trans h.gro k, sc := h.sc.keep k (by simp; omega), scr := h.scr.keep k (fun j hj => by cases hj; exact fun q => (h.bB _ q).2.1 rfl), own := h.own.keep k (fun q => by have := h.own.blk _ q; omega), ul := fun j hj => ⟨(h.ul j hj).1, by have := (h.ul j hj).2; omega⟩, bB := fun b hb => ⟨by have := (h.bB b hb).1; omega, (h.bB b hb).2⟩ }
theorem GX.fr {B : Nat → Prop} {w0 wr w' : World} {g sb : Nat} {u : Value} {es : List Ev} {s : Sv} {m : Scn} (h : GX B w0 g sb u es s m wr) (k : Fr wr w') : GX B w0 g sb u es s m w' := by
  have hs := k.size
  exact { h with cur := h.cur.fr k, gro := grown_trans h.gro k.wide, sc := h.sc.fr k, scr := h.scr.fr k, own := h.own.fr k, ul := fun j hj => ⟨(h.ul j hj).1, by have := (h.ul j hj).2; omega⟩, bB := fun b hb => ⟨by have := (h.bB b hb).1; omega, (h.bB b hb).2⟩ }
theorem GX.wrote {B : Nat → Prop} {w0 wr w' : World} {g sb eb : Nat} {u : Value} {es : List Ev} {s : Sv} {m : Scn} (h : GX B w0 g sb u es s m wr) (k : wr.grownBy w' (some eb)) (he : sb < eb) (hB : ¬ B eb) (hu : u.ownBlock ≠ some eb) : GX B w0 g sb u es s m w' := by
  have h1 := h.gl; have h2 := h.sl; have hs := k.size
  exact { h with cur := h.cur.other k (by intro j hj; simp only [Option.some.injEq] at hj; omega), gro := grown_then h.gro k (by intro j hj; simp only [Option.some.injEq] at hj; omega), sc := h.sc.keep k (by simp; omega), scr := h.scr.keep k (fun j hj => by cases hj; exact hB), own := h.own.keep k hu, ul := fun j hj => ⟨(h.ul j hj).1, by have := (h.ul j hj).2; omega⟩, bB := fun b hb => ⟨by have := (h.bB b hb).1; omega, (h.bB b hb).2⟩ }
/-- The scene is put in its block: those of the new scene are B or new since w1. -/
theorem GX.scene {B : Nat → Prop} {w0 w1 wr : World} {g sb : Nat} {u : Value} {es : List Ev} {s s' : Sv} {m m' : Scn} (h1 : GX B w0 g sb u es s m w1) (f : Fr w1 wr) (hS : ScR (Grew B w1 wr) wr s' m') :
    GX (Grew B w1 wr) w0 g sb u es s' m' (((((wr.setCell ⟨sb, 0, none⟩ (.int .i64 s'.g)).setCell ⟨sb, 1, none⟩ (.slice s'.lo s'.ll s'.lc)).setCell ⟨sb, 2, none⟩ (.slice s'.co s'.cl s'.cc)).setCell ⟨sb, 3, none⟩ (.slice s'.no s'.nl s'.nc)).setCell ⟨sb, 4, none⟩ (.slice s'.oo s'.ol s'.oc)) := by
  have h := h1.fr f
  have k := put5 wr sb (.int .i64 s'.g) (.slice s'.lo s'.ll s'.lc) (.slice s'.co s'.cl s'.cc) (.slice s'.no s'.nl s'.nc) (.slice s'.oo s'.ol s'.oc)
  have hs := k.size
  have hb : ∀ b, Grew B w1 wr b → b < wr.heap.size ∧ b ≠ g ∧ b ≠ sb ∧ u.ownBlock ≠ some b := by
    rintro b (hb | ⟨h3, h4⟩)
    · exact h.bB b hb
    · have h5 := h1.sc.lt
      have h6 := h1.gl
      have h7 := h1.sl
      exact ⟨h4, by omega, by omega, fun q => by have := (h1.ul _ q).2; omega⟩
  refine { h with cur := h.cur.other k (by intro j hj; simp only [Option.some.injEq] at hj; have := h.gl; have := h.sl; omega), gro := grown_then h.gro k (by intro j hj; simp only [Option.some.injEq] at hj; have := h.sl; omega), sc := ?_, scr := hS.keep k (fun j hj => by cases hj; exact fun q => (hb _ q).2.2.1 rfl), own := h.own.keep k (fun q => (h.ul _ q).1 rfl), ul := fun j hj => ⟨(h.ul j hj).1, by have := (h.ul j hj).2; omega⟩, bB := fun b q => ⟨by have := (hb b q).1; omega, (hb b q).2⟩ }
  have e0 := heap_setCell_same wr sb 0 _ _ (.int .i64 s'.g) h.sc
  have e1 := heap_setCell_same _ sb 1 _ _ (.slice s'.lo s'.ll s'.lc) e0
  have e2 := heap_setCell_same _ sb 2 _ _ (.slice s'.co s'.cl s'.cc) e1
  have e3 := heap_setCell_same _ sb 3 _ _ (.slice s'.no s'.nl s'.nc) e2
  exact heap_setCell_same _ sb 4 _ _ (.slice s'.oo s'.ol s'.oc) e3

theorem GX.app {B : Nat → Prop} {w0 wr w' : World} {g sb : Nat} {u v : Value} {es es' : List Ev} {s : Sv} {m : Scn} (h : GX B w0 g sb u es s m wr) (hv : OwnE w' w0.heap.size v es') (k : wr.grownBy w' u.ownBlock) (hat : v.ownBlock = u.ownBlock ∨ v.ownBlock = some wr.heap.size) : GX B w0 g sb v es' s m w' := by
  have h1 := h.gl; have h2 := h.sl; have hs := k.size; have h3 := h.sc.lt
  refine { h with cur := h.cur.other k (fun j hj => by have := h.own.blk j hj; omega), gro := grown_then h.gro k (fun j hj => .inl (h.own.blk j hj)), sc := h.sc.keep k (fun q => (h.ul _ q).1 rfl), scr := h.scr.keep k (fun j hj q => (h.bB _ q).2.2.2 hj), own := hv, ul := fun j hj => ⟨?_, hv.lt j hj⟩, bB := fun b hb => ⟨by have := (h.bB b hb).1; omega, (h.bB b hb).2.1, (h.bB b hb).2.2.1, ?_⟩ }
  · rcases hat with e | e
    · rw [e] at hj; exact (h.ul j hj).1
    · rw [e] at hj; simp only [Option.some.injEq] at hj; omega
  · rcases hat with e | e
    · rw [e]; exact (h.bB b hb).2.2.2
    · rw [e]; have := (h.bB b hb).1; simp only [ne_eq, Option.some.injEq]; omega

set_option maxRecDepth 20000 in
set_option maxHeartbeats 8000000 in
theorem l5Grow_any (g : Nat) (n : Int) (w : World) (hc : Cur w g) (hn : n ≤ 100000) :
    Calls Tryd.prog 27 #[.pointer (some ⟨g, 0, none⟩), .int .i64 n] w fun x w' => ∃ v : Value, x = .returned v ∧ ∃ es : List Ev, OwnE w' w.heap.size v es ∧ es.length ≤ n.toNat ∧ Cur w' g ∧ w.grownBy w' (some g) := by
  have hgl := hc.lt
  go_enter Tryd.func27, Tryd.ntmps27
  go_wp2_with fail
  refine (newScene_any (fun _ => False) _).mono ?_
  rintro e w1 ⟨⟨sg, lo, ll, lc, co, cl, cc, no, nl, nc, oo, ol, oc⟩, rfl, hS, f1⟩
  go_wp2_with fail
  obtain ⟨sb, hsb⟩ : ∃ sb, sb = w1.heap.size := ⟨_, rfl⟩
  have h1 := f1.size
  have fA := Fr.alloc w1 (.cells #[.int .i64 sg, .slice lo ll lc, .slice co cl cc, .slice no nl nc, .slice oo ol oc] 91)
  have fB := Fr.alloc (w1.alloc (.cells #[.int .i64 sg, .slice lo ll lc, .slice co cl cc, .slice no nl nc, .slice oo ol oc] 91)) (.cells #[] 38)
  have kS := (ScK.new w1 ⟨sg, lo, ll, lc, co, cl, cc, no, nl, nc, oo, ol, oc⟩).fr fB
  have kO := (ownE_new (w1.alloc (.cells #[.int .i64 sg, .slice lo ll lc, .slice co cl cc, .slice no nl nc, .slice oo ol oc] 91))).lower (base' := w.heap.size) (by simp; omega)
  have fC := (f1.trans fA).trans fB
  have hX : GX (fun _ => False) w g w1.heap.size (.slice (some ⟨w1.heap.size + 1, 0, none⟩) 0 0) [] ⟨sg, lo, ll, lc, co, cl, cc, no, nl, nc, oo, ol, oc⟩ scn0 ((w1.alloc (.cells #[.int .i64 sg, .slice lo ll lc, .slice co cl cc, .slice no nl nc, .slice oo ol oc] 91)).alloc (.cells #[] 38)) := by
    simp only [World.size_alloc] at kO
    exact ⟨hc.fr fC, fC.wide, kS, hS.fr (fA.trans fB), kO, hgl, h1, fun j hj => by simp only [Value.ownBlock, Option.some.injEq] at hj; subst hj; simp, fun b hb => hb.elim⟩
  obtain ⟨V, hV⟩ : ∃ V, V = (w1.alloc (.cells #[.int .i64 sg, .slice lo ll lc, .slice co cl cc, .slice no nl nc, .slice oo ol oc] 91)).alloc (.cells #[] 38) := ⟨_, rfl⟩
  rw [← hV] at hX ⊢
  rw [← hsb] at hX ⊢
  clear hV hsb h1 fA fB kS kO fC f1 hS hgl hc
  go_loopw [1, 6] (fun q u wr => ∃ (nn : Int) (es : List Ev) (s : Sv) (m : Scn) (B : Nat → Prop), q = .int .i64 nn ∧ nn ≤ n ∧ es.length + nn.toNat ≤ n.toNat ∧ GX B w g sb u es s m wr) (fun q _ _ => (intOf q).toNat)
  case atStart => exact ⟨n, [], _, _, _, rfl, Int.le_refl _, by simp, hX⟩
  case round =>
    clear hX
    obtain ⟨nn, es, ⟨sg, lo, ll, lc, co, cl, cc, no, nl, nc, oo, ol, oc⟩, m, B, rfl, hnn, hel, hX⟩ := hrel
    by_cases hpos : 0 < nn
    · obtain ⟨s0, s1, s2, s3, s4⟩ := hX.sc.at
      simp only at s0 s1 s2 s3 s4
      go_wp2_with fail
      refine (l5Next_any g ⟨sg, lo, ll, lc, co, cl, cc, no, nl, nc, oo, ol, oc⟩ m _ hX.cur (fun b q => ⟨(hX.bB b q).1, (hX.bB b q).2.1⟩) hX.scr).mono ?_
      rintro x w1 ⟨⟨k, gr, o, wi, l, sz, f, t⟩, rfl, hE, c1, g1⟩
      have h1 := hX.draw c1 g1
      clear hX c1 g1 s0 s1 s2 s3 s4
      simp only
      go_upto_region 6 with fail
      have ev := EvB.new w1 ⟨k, gr, o, wi, l, sz, f, t⟩
      have h2 := h1.fr (Fr.alloc w1 (.cells #[.int .i64 k, .int .i64 gr, .int .i64 o, .int .i64 wi, .int .i64 l, .int .i64 sz, .int .i64 f, .int .i64 t] 38))
      have HU : Hid (u6.ownBlock ≠ some w1.heap.size ∧ sb < w1.heap.size ∧ ¬ B w1.heap.size) := ⟨fun q => by have := (h1.ul _ q).2; omega, h1.sc.lt, fun q => by have := (h1.bB _ q).1; omega⟩
      simp only at ev
      obtain ⟨V, hV⟩ : ∃ V, V = w1.alloc (.cells #[.int .i64 k, .int .i64 gr, .int .i64 o, .int .i64 wi, .int .i64 l, .int .i64 sz, .int .i64 f, .int .i64 t] 38) := ⟨_, rfl⟩
      rw [← hV] at ev h2 ⊢
      obtain ⟨eb, heb⟩ : ∃ eb, eb = w1.heap.size := ⟨_, rfl⟩
      rw [← heb] at ev HU ⊢
      clear hV heb h1
      have cg := h2.sc.at.c0
      simp only at cg
      by_cases hs3 : sg < 3
      · go_wp2_with fail
        refine (l1Once_any _ _ _ h2.cur).mono ?_
        rintro e w3 ⟨on, rfl, c3, g3⟩
        have h3 := h2.draw c3 g3
        have ev3 := ev.keep g3 (by have := h2.gl; have := h2.sl; have := HU.out.2.1; simp; omega)
        clear h2 ev c3 g3 cg
        cases on
        · go_upto_region 8 with fail
          have hX := h3
          have ev := ev3
          have hEE : EvI ⟨k, gr, o, wi, l, sz, f, t⟩ := hE
          have cI := fun u (hs : ScR B u ⟨sg, lo, ll, lc, co, cl, cc, no, nl, nc, oo, ol, oc⟩ m) => codeIn_any ⟨sg, lo, ll, lc, co, cl, cc, no, nl, nc, oo, ol, oc⟩ m ⟨k, gr, o, wi, l, sz, f, t⟩ u hEE.2.2.1 hs
          simp only at cI
          obtain ⟨R, hR⟩ : ∃ R, R = codeIn m ⟨k, gr, o, wi, l, sz, f, t⟩ := ⟨_, rfl⟩
          have HR : Hid (R = codeIn m ⟨k, gr, o, wi, l, sz, f, t⟩) := hR
          simp only [← hR] at cI
          clear hR
          obtain ⟨s0, s1, s2, s3, s4⟩ := hX.sc.at
          obtain ⟨e0, e1, e2, e3, e4, e5, e6, e7⟩ := ev.at
          simp only at s0 s1 s2 s3 s4 e0 e1 e2 e3 e4 e5 e6 e7
          go_wp2_with fail
          refine (cI _ hX.scr).mono ?_
          rintro y w6 ⟨rfl, f6⟩
          have h6 := hX.fr f6
          have ev6 := ev.keep f6 (by simp)
          clear cI s0 s1 s2 s3 s4 e0 e1 e2 e3 e4 e5 e6 e7 hX ev f6 h3 ev3
          cases hr : (R == 0)
          · go_wp2_with fail
            go_roundw
            case rel => exact ⟨nn - 1, es, _, m, B, by go_num, by omega, by omega, h6⟩
            case measure => simp [intOf]; omega
          · have hz := codeIn_zero (HR.out.symm.trans (beq_iff_eq.1 hr))
            obtain ⟨s0, s1, s2, s3, s4⟩ := h6.sc.at
            obtain ⟨e0, e1, e2, e3, e4, e5, e6, e7⟩ := ev6.at
            simp only at s0 s1 s2 s3 s4 e0 e1 e2 e3 e4 e5 e6 e7
            go_wp2_with fail
            refine (l4Do_any ⟨sg, lo, ll, lc, co, cl, cc, no, nl, nc, oo, ol, oc⟩ m ⟨k, gr, o, wi, l, sz, f, t⟩ _ hz.2 hz.1 (fun b q => (h6.bB b q).1) h6.scr).mono ?_
            rintro y w7 ⟨⟨g', lo1, ll1, lc1, co1, cl1, cc1, no1, nl1, nc1, oo1, ol1, oc1⟩, rfl, hS, f7⟩
            have h8 := h6.scene f7 hS
            have ev7 := (ev6.keep f7 (by simp)).keep (put5 w7 sb (.int .i64 g') (.slice lo1 ll1 lc1) (.slice co1 cl1 cc1) (.slice no1 nl1 nc1) (.slice oo1 ol1 oc1)) (by have := HU.out.2.1; simp; omega)
            obtain ⟨j0, j1, j2, j3, j4⟩ := (h6.sc.fr f7).at
            have jf := fun i => (h6.sc.fr f7).free i
            simp only at h8 j0 j1 j2 j3 j4
            clear s0 s1 s2 s3 s4 e0 e1 e2 e3 e4 e5 e6 e7 h6 ev6 hS f7 hz
            go_upto_region 10 with fail
            clear j0 j1 j2 j3 j4 jf
            obtain ⟨w8, hw8⟩ : ∃ w8, w8 = (((((w7.setCell ⟨sb, 0, none⟩ (.int .i64 g')).setCell ⟨sb, 1, none⟩ (.slice lo1 ll1 lc1)).setCell ⟨sb, 2, none⟩ (.slice co1 cl1 cc1)).setCell ⟨sb, 3, none⟩ (.slice no1 nl1 nc1)).setCell ⟨sb, 4, none⟩ (.slice oo1 ol1 oc1)) := ⟨_, rfl⟩
            rw [← hw8] at h8 ev7 ⊢
            clear hw8
            obtain ⟨e0, e1, e2, e3, e4, e5, e6, e7⟩ := ev7.at
            simp only at e0 e1 e2 e3 e4 e5 e6 e7
            have hsz : w.heap.size ≤ w8.heap.size := h8.gro.size
            have hle : es.length ≤ 100000 := by omega
            go_wp2_with (at_builtin; refine appE _ rfl _ _ rfl w.heap.size u6 es ⟨k, gr, o, wi, l, sz, f, t⟩ rfl (h8.own.fr (Fr.alloc _ _)) _ _ rfl (evC_new w8 ⟨k, gr, o, wi, l, sz, f, t⟩) (by omega) (by simp; omega) ?_; intro v9 w9 hv9 hg9 hat9)
            have h9 := h8.fr (Fr.alloc w8 (.cells #[.int .i64 k, .int .i64 gr, .int .i64 o, .int .i64 wi, .int .i64 l, .int .i64 sz, .int .i64 f, .int .i64 t] 38))
            have hX := h9.app hv9 hg9 hat9
            clear e0 e1 e2 e3 e4 e5 e6 e7 h8 ev7 h9 hv9 hg9 hat9
            go_roundw
            case rel => exact ⟨nn - 1, _, _, _, _, by go_num, by omega, by simp; omega, hX⟩
            case measure => simp [intOf]; omega
        · obtain ⟨a0, a1, a2, a3, a4, a5, a6, a7⟩ := ev3.at
          have af := fun i => ev3.free i
          have cg := h3.sc.at.c0
          simp only at a0 a1 a2 a3 a4 a5 a6 a7 cg
          have hSG : I64 sg := by have := h3.scr.g; have q := h3.scr.ig; simp only at this; rw [this]; exact q
          have k4 := grown_st8 w3 eb (.int .i64 1) (.int .i64 0) (.int .i64 sg) (.int .i64 0) (.int .i64 0) (.int .i64 0) (.int .i64 0) (.int .i64 0)
          have h4 := h3.wrote k4 HU.out.2.1 HU.out.2.2 HU.out.1
          have ev4 := ev3.set8 ⟨1, 0, sg, 0, 0, 0, 0, 0⟩
          simp only at ev4
          clear h3 ev3 k4
          go_upto_region 8 with fail
          clear a0 a1 a2 a3 a4 a5 a6 a7 af cg
          obtain ⟨w5, hw5⟩ : ∃ w5, w5 = ((((((((w3.setCell ⟨eb, 0, none⟩ (.int .i64 1)).setCell ⟨eb, 1, none⟩ (.int .i64 0)).setCell ⟨eb, 2, none⟩ (.int .i64 sg)).setCell ⟨eb, 3, none⟩ (.int .i64 0)).setCell ⟨eb, 4, none⟩ (.int .i64 0)).setCell ⟨eb, 5, none⟩ (.int .i64 0)).setCell ⟨eb, 6, none⟩ (.int .i64 0)).setCell ⟨eb, 7, none⟩ (.int .i64 0)) := ⟨_, rfl⟩
          rw [← hw5] at h4 ev4 ⊢
          clear hw5
          have hZ : I64 0 := ⟨by decide, by decide⟩
          have hX := h4
          have ev := ev4
          have hEE : EvI ⟨1, 0, sg, 0, 0, 0, 0, 0⟩ := ⟨(show I64 1 from ⟨by decide, by decide⟩), hZ, hSG, hZ, hZ, hZ, hZ, hZ⟩
          have cI := fun u (hs : ScR B u ⟨sg, lo, ll, lc, co, cl, cc, no, nl, nc, oo, ol, oc⟩ m) => codeIn_any ⟨sg, lo, ll, lc, co, cl, cc, no, nl, nc, oo, ol, oc⟩ m ⟨1, 0, sg, 0, 0, 0, 0, 0⟩ u hEE.2.2.1 hs
          simp only at cI
          obtain ⟨R, hR⟩ : ∃ R, R = codeIn m ⟨1, 0, sg, 0, 0, 0, 0, 0⟩ := ⟨_, rfl⟩
          have HR : Hid (R = codeIn m ⟨1, 0, sg, 0, 0, 0, 0, 0⟩) := hR
          simp only [← hR] at cI
          clear hR
          obtain ⟨s0, s1, s2, s3, s4⟩ := hX.sc.at
          obtain ⟨e0, e1, e2, e3, e4, e5, e6, e7⟩ := ev.at
          simp only at s0 s1 s2 s3 s4 e0 e1 e2 e3 e4 e5 e6 e7
          go_wp2_with fail
          refine (cI _ hX.scr).mono ?_
          rintro y w6 ⟨rfl, f6⟩
          have h6 := hX.fr f6
          have ev6 := ev.keep f6 (by simp)
          clear cI s0 s1 s2 s3 s4 e0 e1 e2 e3 e4 e5 e6 e7 hX ev f6 h4 ev4
          cases hr : (R == 0)
          · go_wp2_with fail
            go_roundw
            case rel => exact ⟨nn - 1, es, _, m, B, by go_num, by omega, by omega, h6⟩
            case measure => simp [intOf]; omega
          · have hz := codeIn_zero (HR.out.symm.trans (beq_iff_eq.1 hr))
            obtain ⟨s0, s1, s2, s3, s4⟩ := h6.sc.at
            obtain ⟨e0, e1, e2, e3, e4, e5, e6, e7⟩ := ev6.at
            simp only at s0 s1 s2 s3 s4 e0 e1 e2 e3 e4 e5 e6 e7
            go_wp2_with fail
            refine (l4Do_any ⟨sg, lo, ll, lc, co, cl, cc, no, nl, nc, oo, ol, oc⟩ m ⟨1, 0, sg, 0, 0, 0, 0, 0⟩ _ hz.2 hz.1 (fun b q => (h6.bB b q).1) h6.scr).mono ?_
            rintro y w7 ⟨⟨g', lo1, ll1, lc1, co1, cl1, cc1, no1, nl1, nc1, oo1, ol1, oc1⟩, rfl, hS, f7⟩
            have h8 := h6.scene f7 hS
            have ev7 := (ev6.keep f7 (by simp)).keep (put5 w7 sb (.int .i64 g') (.slice lo1 ll1 lc1) (.slice co1 cl1 cc1) (.slice no1 nl1 nc1) (.slice oo1 ol1 oc1)) (by have := HU.out.2.1; simp; omega)
            obtain ⟨j0, j1, j2, j3, j4⟩ := (h6.sc.fr f7).at
            have jf := fun i => (h6.sc.fr f7).free i
            simp only at h8 j0 j1 j2 j3 j4
            clear s0 s1 s2 s3 s4 e0 e1 e2 e3 e4 e5 e6 e7 h6 ev6 hS f7 hz
            go_upto_region 10 with fail
            clear j0 j1 j2 j3 j4 jf
            obtain ⟨w8, hw8⟩ : ∃ w8, w8 = (((((w7.setCell ⟨sb, 0, none⟩ (.int .i64 g')).setCell ⟨sb, 1, none⟩ (.slice lo1 ll1 lc1)).setCell ⟨sb, 2, none⟩ (.slice co1 cl1 cc1)).setCell ⟨sb, 3, none⟩ (.slice no1 nl1 nc1)).setCell ⟨sb, 4, none⟩ (.slice oo1 ol1 oc1)) := ⟨_, rfl⟩
            rw [← hw8] at h8 ev7 ⊢
            clear hw8
            obtain ⟨e0, e1, e2, e3, e4, e5, e6, e7⟩ := ev7.at
            simp only at e0 e1 e2 e3 e4 e5 e6 e7
            have hsz : w.heap.size ≤ w8.heap.size := h8.gro.size
            have hle : es.length ≤ 100000 := by omega
            go_wp2_with (at_builtin; refine appE _ rfl _ _ rfl w.heap.size u6 es ⟨1, 0, sg, 0, 0, 0, 0, 0⟩ rfl (h8.own.fr (Fr.alloc _ _)) _ _ rfl (evC_new w8 ⟨1, 0, sg, 0, 0, 0, 0, 0⟩) (by omega) (by simp; omega) ?_; intro v9 w9 hv9 hg9 hat9)
            have h9 := h8.fr (Fr.alloc w8 (.cells #[.int .i64 1, .int .i64 0, .int .i64 sg, .int .i64 0, .int .i64 0, .int .i64 0, .int .i64 0, .int .i64 0] 38))
            have hX := h9.app hv9 hg9 hat9
            clear e0 e1 e2 e3 e4 e5 e6 e7 h8 ev7 h9 hv9 hg9 hat9
            go_roundw
            case rel => exact ⟨nn - 1, _, _, _, _, by go_num, by omega, by simp; omega, hX⟩
            case measure => simp [intOf]; omega
      · have hd : decide (sg < 3) = false := decide_eq_false hs3
        have hs4 : 3 ≤ sg := by omega
        go_upto_region 8 with fail
        have hX := h2
        have hEE : EvI ⟨k, gr, o, wi, l, sz, f, t⟩ := hE
        have cI := fun u (hs : ScR B u ⟨sg, lo, ll, lc, co, cl, cc, no, nl, nc, oo, ol, oc⟩ m) => codeIn_any ⟨sg, lo, ll, lc, co, cl, cc, no, nl, nc, oo, ol, oc⟩ m ⟨k, gr, o, wi, l, sz, f, t⟩ u hEE.2.2.1 hs
        simp only at cI
        obtain ⟨R, hR⟩ : ∃ R, R = codeIn m ⟨k, gr, o, wi, l, sz, f, t⟩ := ⟨_, rfl⟩
        have HR : Hid (R = codeIn m ⟨k, gr, o, wi, l, sz, f, t⟩) := hR
        simp only [← hR] at cI
        clear hR
        obtain ⟨s0, s1, s2, s3, s4⟩ := hX.sc.at
        obtain ⟨e0, e1, e2, e3, e4, e5, e6, e7⟩ := ev.at
        simp only at s0 s1 s2 s3 s4 e0 e1 e2 e3 e4 e5 e6 e7
        go_wp2_with fail
        refine (cI _ hX.scr).mono ?_
        rintro y w6 ⟨rfl, f6⟩
        have h6 := hX.fr f6
        have ev6 := ev.keep f6 (by simp)
        clear cI s0 s1 s2 s3 s4 e0 e1 e2 e3 e4 e5 e6 e7 hX ev f6 h2 cg
        cases hr : (R == 0)
        · go_wp2_with fail
          go_roundw
          case rel => exact ⟨nn - 1, es, _, m, B, by go_num, by omega, by omega, h6⟩
          case measure => simp [intOf]; omega
        · have hz := codeIn_zero (HR.out.symm.trans (beq_iff_eq.1 hr))
          obtain ⟨s0, s1, s2, s3, s4⟩ := h6.sc.at
          obtain ⟨e0, e1, e2, e3, e4, e5, e6, e7⟩ := ev6.at
          simp only at s0 s1 s2 s3 s4 e0 e1 e2 e3 e4 e5 e6 e7
          go_wp2_with fail
          refine (l4Do_any ⟨sg, lo, ll, lc, co, cl, cc, no, nl, nc, oo, ol, oc⟩ m ⟨k, gr, o, wi, l, sz, f, t⟩ _ hz.2 hz.1 (fun b q => (h6.bB b q).1) h6.scr).mono ?_
          rintro y w7 ⟨⟨g', lo1, ll1, lc1, co1, cl1, cc1, no1, nl1, nc1, oo1, ol1, oc1⟩, rfl, hS, f7⟩
          have h8 := h6.scene f7 hS
          have ev7 := (ev6.keep f7 (by simp)).keep (put5 w7 sb (.int .i64 g') (.slice lo1 ll1 lc1) (.slice co1 cl1 cc1) (.slice no1 nl1 nc1) (.slice oo1 ol1 oc1)) (by have := HU.out.2.1; simp; omega)
          obtain ⟨j0, j1, j2, j3, j4⟩ := (h6.sc.fr f7).at
          have jf := fun i => (h6.sc.fr f7).free i
          simp only at h8 j0 j1 j2 j3 j4
          clear s0 s1 s2 s3 s4 e0 e1 e2 e3 e4 e5 e6 e7 h6 ev6 hS f7 hz
          go_upto_region 10 with fail
          clear j0 j1 j2 j3 j4 jf
          obtain ⟨w8, hw8⟩ : ∃ w8, w8 = (((((w7.setCell ⟨sb, 0, none⟩ (.int .i64 g')).setCell ⟨sb, 1, none⟩ (.slice lo1 ll1 lc1)).setCell ⟨sb, 2, none⟩ (.slice co1 cl1 cc1)).setCell ⟨sb, 3, none⟩ (.slice no1 nl1 nc1)).setCell ⟨sb, 4, none⟩ (.slice oo1 ol1 oc1)) := ⟨_, rfl⟩
          rw [← hw8] at h8 ev7 ⊢
          clear hw8
          obtain ⟨e0, e1, e2, e3, e4, e5, e6, e7⟩ := ev7.at
          simp only at e0 e1 e2 e3 e4 e5 e6 e7
          have hsz : w.heap.size ≤ w8.heap.size := h8.gro.size
          have hle : es.length ≤ 100000 := by omega
          go_wp2_with (at_builtin; refine appE _ rfl _ _ rfl w.heap.size u6 es ⟨k, gr, o, wi, l, sz, f, t⟩ rfl (h8.own.fr (Fr.alloc _ _)) _ _ rfl (evC_new w8 ⟨k, gr, o, wi, l, sz, f, t⟩) (by omega) (by simp; omega) ?_; intro v9 w9 hv9 hg9 hat9)
          have h9 := h8.fr (Fr.alloc w8 (.cells #[.int .i64 k, .int .i64 gr, .int .i64 o, .int .i64 wi, .int .i64 l, .int .i64 sz, .int .i64 f, .int .i64 t] 38))
          have hX := h9.app hv9 hg9 hat9
          clear e0 e1 e2 e3 e4 e5 e6 e7 h8 ev7 h9 hv9 hg9 hat9
          go_roundw
          case rel => exact ⟨nn - 1, _, _, _, _, by go_num, by omega, by simp; omega, hX⟩
          case measure => simp [intOf]; omega
    · have hpos' : nn ≤ 0 := by omega
      go_wp2_with fail
      go_ret
      exact ⟨_, rfl, es, hX.own, by omega, hX.cur, hX.gro⟩
end Go.Proofs.YthjnhfcncinhiaaDoor
/-
  The drawing of traces and of lists to be encoded: l5Draw, DrawEncoded.
-/
namespace Go.Proofs.YthjnhfcncinhiaaDoor
open Go.RowKit

/-- The cursor's first cell. -/
theorem Cur.c0 {w : World} {g : Nat} (h : Cur w g) : ∃ ao n cap, w.cell? ⟨g, 0, none⟩ = some (.slice ao n cap) ∧ n ≤ 4294967296 := by
  obtain ⟨ao, n, cap, i, hh, hg, hin, hn, hb⟩ := h
  exact ⟨ao, n, cap, by rw [cell_of_row _ _ _ _ _ _ hg]; rfl, hn⟩

set_option maxRecDepth 20000 in
set_option maxHeartbeats 2000000 in
theorem l5Draw_any (g : Nat) (w : World) (hc : Cur w g) :
    Calls Tryd.prog 15 #[.pointer (some ⟨g, 0, none⟩)] w fun x w' => ∃ v : Value, x = .returned v ∧ ∃ es : List Ev, OwnE w' w.heap.size v es ∧ es.length ≤ 58 ∧ Cur w' g ∧ w.grownBy w' (some g) := by
  obtain ⟨ao, n, cap, hn, hnl⟩ := hc.c0
  go_enter Tryd.func15, Tryd.ntmps15
  go_wp2_with fail
  go_region_with (first
    | (go_at_call 18; refine (l1Below_any g _ _ (hc.fr (Fr.drew w))).mono ?_; rintro e w1 ⟨x, rfl, x0, x1, x2, c1, g1⟩; have x3 : x < 50 := x1 (by omega); have hw : IntKind.i64.wrap (8 + x) = 8 + x := (by rw [IntKind.wrap_i64]; omega); obtain ⟨ao1, n1, cap1, hn1, hnl1⟩ := c1.c0)
    | (go_at_call 28; refine (l1Min_any _ _ _).mono ?_; rintro e w2 ⟨rfl, rfl⟩)
    | (go_at_call 27; refine (l5Grow_any g _ _ c1 (by first | omega | (rw [hw]; omega))).mono ?_; rintro e w3 ⟨v, rfl, es, o3, l3, c3, g3⟩))
  all_goals (
    have hsz : w.heap.size ≤ w2.heap.size := g1.size
    go_wp2_with fail
    go_ret
    exact ⟨_, rfl, es, o3.lower hsz, by omega, c3, grown_trans (Fr.drew w).wide (grown_trans g1 g3)⟩)
end Go.Proofs.YthjnhfcncinhiaaDoor
/-
  The drawing of lists to be encoded: DrawEncoded.
-/
namespace Go.Proofs.YthjnhfcncinhiaaDoor
open Go.RowKit

set_option maxRecDepth 20000 in
set_option maxHeartbeats 4000000 in
theorem drawEncoded_any (ao : Option Addr) (n cap : Nat) (w : World) (h : ByteRow w ao n) (hn : n ≤ 4294967296) :
    Calls Tryd.prog 6 #[.slice ao n cap] w fun x w' => ∃ v : Value, x = .returned v ∧ ∃ es : List Ev, OwnE w' w.heap.size v es ∧ es.length ≤ 301 ∧ Fr w w' := by
  go_enter Tryd.func6, Tryd.ntmps6
  go_wp2_with fail
  refine (l1New_any _ _ _ _ h hn).mono ?_
  rintro e w1 ⟨rfl, c1, f1⟩
  have hg := c1.lt
  obtain ⟨g, hgg⟩ : ∃ g, g = w.heap.size := ⟨_, rfl⟩
  rw [← hgg] at c1 hg ⊢
  have HG : Hid (g = w.heap.size) := hgg
  clear hgg
  go_wp2_with fail
  refine (l5Draw_any _ _ c1).mono ?_
  rintro e w2 ⟨v2, rfl, es, o2, l2, c2, g2⟩
  go_wp2_with fail
  refine (l1Once_any _ _ _ c2).mono ?_
  rintro e w3 ⟨b, rfl, c3, g3⟩
  have o3 := o2.keep g3 (fun q => by have := o2.blk _ q; omega)
  have G3 := grown_trans g2 g3
  clear o2 c2 g2 g3 c1
  have HX : Hid (∀ (wc : World) (u : Value) (xs : List Ev), OwnE wc w1.heap.size u xs → w1.grownBy wc (some g) → OwnE wc w.heap.size u xs ∧ Fr w wc) := by
    intro wc u xs hu hk
    refine ⟨hu.lower (by have := f1.size; omega), f1.then hk ?_⟩
    intro j hj
    simp only [Option.some.injEq] at hj
    have := HG.out
    omega
  go_upto_if 11 with fail
  go_cut [4] (fun s4 wc => ∃ xs : List Ev, OwnE wc w1.heap.size s4 xs ∧ xs.length ≤ 59 ∧ Cur wc g ∧ w1.grownBy wc (some g))
  case first =>
    cases b
    · go_wp2_with fail
      go_meet
      case rel => exact ⟨es, o3, by omega, c3, G3⟩
    · go_wp2_with fail
      refine (l2DrawAny_any _ _ c3).mono ?_
      rintro e w4 ⟨⟨k, gr, o, wi, l, sz, f, t⟩, rfl, -, c4, g4⟩
      have o4 := o3.keep g4 (fun q => by have := o3.blk _ q; omega)
      have G4 := grown_trans G3 g4
      have s4 := G4.size
      clear o3 G3 c3 g4
      go_wp2_with (at_builtin; refine appE _ rfl _ _ rfl w1.heap.size v2 es ⟨k, gr, o, wi, l, sz, f, t⟩ rfl (o4.fr (Fr.alloc _ _)) _ _ rfl (evC_new w4 ⟨k, gr, o, wi, l, sz, f, t⟩) (by omega) (by simp; omega) ?_; intro v5 w5 hv5 hg5 hat5)
      go_meet
      case rel =>
        have k5 := grown_trans (Fr.alloc w4 (.cells #[.int .i64 k, .int .i64 gr, .int .i64 o, .int .i64 wi, .int .i64 l, .int .i64 sz, .int .i64 f, .int .i64 t] 38)).wide hg5
        exact ⟨_, hv5, by simp; omega, c4.other k5 (fun j hj => by have := o4.blk j hj; omega), grown_then G4 k5 (fun j hj => .inl (o4.blk j hj))⟩
  case rest =>
    obtain ⟨xs, ox, lx, cx, Gx⟩ := hcut
    clear o3 c3 G3 l2 es h
    go_wp2_with fail
    refine (l1Once_any _ _ _ cx).mono ?_
    rintro e w6 ⟨b6, rfl, c6, g6⟩
    have o6 := ox.keep g6 (fun q => by have := ox.blk _ q; omega)
    have G6 := grown_trans Gx g6
    clear ox cx Gx g6
    cases b6
    · go_wp2_with fail
      go_ret
      exact ⟨_, rfl, xs, (HX.out _ _ _ o6 G6).1, by omega, (HX.out _ _ _ o6 G6).2⟩
    · clear o6 lx xs
      have s6 := G6.size
      go_wp2_with fail
      refine (l1Below_any _ _ _ (c6.fr (Fr.alloc _ _))).mono ?_
      rintro e w7 ⟨x, rfl, x0, x1, x2, c7, g7⟩
      have x3 : x < 2 := x1 (by omega)
      have o7 := ((ownE_new w6).lower (base' := w1.heap.size) s6).keep g7 (by simp [Value.ownBlock]; omega)
      have G7 := grown_trans (grown_trans G6 (Fr.alloc w6 (.cells #[] 38)).wide) g7
      clear x1 x2 g7 c6 G6
      go_wp2_with fail
      go_loopw [4, 5] (fun u q wr => ∃ (nn : Int) (es : List Ev), q = .int .i64 nn ∧ nn ≤ 301 ∧ es.length + nn.toNat ≤ 301 ∧ OwnE wr w1.heap.size u es ∧ w1.grownBy wr (some g)) (fun _ q _ => (intOf q).toNat)
      case atStart => exact ⟨300 + x, [], by go_num, by omega, by simp; omega, o7, G7⟩
      case round =>
        clear o7 G7
        obtain ⟨nn, es, rfl, hnn, hel, o8, G8⟩ := hrel
        have s8 := G8.size
        by_cases hpos : 0 < nn
        · go_wp2_with (at_builtin; refine appE _ rfl _ _ rfl w1.heap.size u4 es ⟨17, 0, 0, 0, 0, 0, 0, 0⟩ rfl (o8.fr (Fr.alloc _ _)) _ _ rfl (evC_new wr ⟨17, 0, 0, 0, 0, 0, 0, 0⟩) (by omega) (by simp; omega) ?_; intro v9 w9 hv9 hg9 hat9)
          have k9 := grown_trans (Fr.alloc wr (.cells #[.int .i64 17, .int .i64 0, .int .i64 0, .int .i64 0, .int .i64 0, .int .i64 0, .int .i64 0, .int .i64 0] 38)).wide hg9
          go_roundw
          case rel => exact ⟨nn - 1, _, by go_num, by omega, by simp; omega, hv9, grown_then G8 k9 (fun j hj => .inl (o8.blk j hj))⟩
          case measure => simp [intOf]; omega
        · have hpos' : nn ≤ 0 := by omega
          go_wp2_with fail
          go_ret
          exact ⟨_, rfl, es, (HX.out _ _ _ o8 G8).1, by omega, (HX.out _ _ _ o8 G8).2⟩
end Go.Proofs.YthjnhfcncinhiaaDoor
/-
  The program's list of an event's parts: pointers to its fields.
-/
namespace Go.Proofs.YthjnhfcncinhiaaDoor
open Go.RowKit

theorem Tryd.info72 : (Tryd.prog.info? 72).map (fun i => (i.zero, i.size, i.bytes)) = some (some (.pointer none), 1, 8) := by kernel_rfl

/-- Pointers to the places os of the block b. -/
def ptrs (b : Nat) (os : List Nat) : List Value := os.map fun o => .pointer (some ⟨b, o, none⟩)

/-- A slice of pointers that a call owns. -/
def OwnP (w : World) (base : Nat) (v : Value) (xs : List Value) : Prop :=
  ∃ g cap, v = .slice (some ⟨g, 0, none⟩) xs.length cap ∧ w.ownsRow base 72 1 (.slice (some ⟨g, 0, none⟩) xs.length cap) xs.length xs
theorem OwnP.fr {w w' : World} {base : Nat} {v : Value} {xs : List Value} (h : OwnP w base v xs) (k : Fr w w') : OwnP w' base v xs := by
  obtain ⟨g, cap, rfl, ho⟩ := h
  exact ⟨g, cap, rfl, ho.kept k (by simp [Value.ownBlock])⟩
theorem OwnP.blk {w : World} {base : Nat} {v : Value} {xs : List Value} (h : OwnP w base v xs) : ∀ j, v.ownBlock = some j → base ≤ j ∧ j < w.heap.size := by
  obtain ⟨g, cap, rfl, ho⟩ := h
  intro j hj
  exact ho.lt j hj

theorem appP (w : World) {ops : Array Oper} {rest : List Oper} {o : Oper} {a : Act} {Q : Exit → Act → World → Prop} (hgd : o.guard = none) (s x : Operand)
    (ho : o.op = .call { callee := .builtin .append, args := #[s, x], argTypes := #[69, 69] })
    (base : Nat) (v : Value) (xs : List Value) (p : Option Addr) (hs : a.eval s = v) (hown : OwnP w base v xs)
    (b : Nat) (c : Nat) (hx : a.eval x = .slice (some ⟨b, 0, none⟩) 1 c) (hnew : w.cell? ⟨b, 0, none⟩ = some (.pointer p))
    (hlen : xs.length ≤ 4294967295) (hbase : base ≤ w.heap.size)
    (h : ∀ v' w', OwnP w' base v' (xs ++ [.pointer p]) → w.grownBy w' v.ownBlock → (v'.ownBlock = v.ownBlock ∨ v'.ownBlock = some w.heap.size) → wpList Tryd.prog ops Q rest (a.put o.dst v') w') : wpList Tryd.prog ops Q (o :: rest) a w := by
  obtain ⟨i0, hi, hz0, hz1, hz2⟩ := info_parts Tryd.info72
  obtain ⟨g, cap, rfl, ho'⟩ := hown
  refine wpList_append_own_at w hgd s x 69 ho base 72 i0 (.pointer none) 1 8 Tryd.underlying69 hi hz0 hz1 hz2 rfl (by decide) _ _ _ hs ho' ⟨b, 0, none⟩ 1 c [.pointer p] hx (by simp) ?_ (by intro u hu; simp at hu; subst hu; rfl) (by unfold maxLen; omega) (by omega) hbase ?_
  · intro j u hu
    cases j with
    | zero => simp at hu; subst hu; rw [Addr.add_lit]; exact hnew
    | succ j => simp at hu
  · intro v' w' hv hg hnz hat
    refine h v' w' ?_ hg hat
    rcases hv.2 with ⟨e, _⟩ | ⟨g', cap', cur, e, r⟩
    · have := (hnz.1 e).1
      simp at this
    · subst e
      exact ⟨g', cap', by simp, by simpa using hv⟩

/-- The places of the first i fields that a Kind has, behind Gor's. -/
def offK (k : Int) (i : Nat) : List Nat := 1 :: ((List.range i).filter fun j => hasB k (2 ^ j)).map (· + 2)
theorem offK_yes (k : Int) (i : Nat) (h : hasB k (2 ^ i) = true) : offK k (i + 1) = offK k i ++ [i + 2] := by
  simp [offK, List.range_succ, List.filter_append, h]
theorem offK_no (k : Int) (i : Nat) (h : hasB k (2 ^ i) = false) : offK k (i + 1) = offK k i := by
  simp [offK, List.range_succ, List.filter_append, h]
theorem offK_len (k : Int) (i : Nat) : (offK k i).length ≤ i + 1 := by
  have := List.length_filter_le (fun j => hasB k (2 ^ j)) (List.range i)
  simp [offK] at this ⊢
  omega
theorem offK_all (k : Int) : offK k 6 = offs k := by
  rw [offK, offs, offF, List.range_eq_range']
/-- The program asks by a shift. -/
theorem shift_has (n : Nat) (h : n < 22) (k : Nat) (hk : k < 6) : (bits .and .i64 (fldN n / 2 ^ k) 1 == 1) = hasB ((n : Int) + 1) (2 ^ k) := by
  rw [hasB, fldV_at n h]
  exact (by decide +kernel : ∀ m, m < 22 → ∀ k, k < 6 → (bits .and .i64 (fldN m / 2 ^ k) 1 == 1) = (((fldN m).tdiv (2 ^ k)).tmod 2 == 1)) n h k hk
theorem ptrs_one (b : Nat) (l : List Nat) (o : Nat) : ptrs b (l ++ [o]) = ptrs b l ++ [.pointer (some ⟨b, o, none⟩)] := by simp [ptrs]
theorem six_at (w : World) (b j : Nat) (h : j < 6) : (w.alloc (.cells #[.pointer (some ⟨b, 2, none⟩), .pointer (some ⟨b, 3, none⟩), .pointer (some ⟨b, 4, none⟩), .pointer (some ⟨b, 5, none⟩), .pointer (some ⟨b, 6, none⟩), .pointer (some ⟨b, 7, none⟩)] 72)).cell? ⟨w.heap.size, j, none⟩ = some (.pointer (some ⟨b, j + 2, none⟩)) := by
  rw [cell_of_row _ _ _ _ _ _ (heap_alloc_new w _)]
  rcases (by omega : j = 0 ∨ j = 1 ∨ j = 2 ∨ j = 3 ∨ j = 4 ∨ j = 5) with rfl | rfl | rfl | rfl | rfl | rfl <;> rfl
theorem ownP_one (w : World) (p : Option Addr) : OwnP (w.alloc (.cells #[.pointer p] 72)) w.heap.size (.slice (some ⟨w.heap.size, 0, none⟩) 1 1) [.pointer p] :=
  ⟨w.heap.size, 1, rfl, ⟨by simp, .inr ⟨w.heap.size, 1, _, rfl, Nat.le_refl _, heap_alloc_new w _, Nat.le_refl _, by unfold maxLen; omega, by simp, by simp⟩⟩⟩

set_option maxHeartbeats 2000000 in
theorem partsOf_any (b : Nat) (n : Nat) (hn : n < 22) (w : World) (hs : Shapes w) (hk : w.cell? ⟨b, 0, none⟩ = some (.int .i64 ((n : Int) + 1))) :
    Calls Tryd.prog 37 #[.pointer (some ⟨b, 0, none⟩)] w fun x w' => ∃ v, x = .returned v ∧ OwnP w' w.heap.size v (ptrs b (offs ((n : Int) + 1))) ∧ Fr w w' := by
  have cF := fun w hs => implFields_any ((n : Int) + 1) w hs
  rw [fldV_at n hn] at cF
  obtain ⟨z, hz⟩ : ∃ z, z = fldN n := ⟨_, rfl⟩
  simp only [← hz] at cF
  have HZ : Hid (z = fldN n) := hz
  have hzr : 0 ≤ z ∧ z ≤ 60 := by rw [hz]; exact fldN_in n
  clear hz
  obtain ⟨z0, z1⟩ := hzr
  have f1 := Fr.alloc w (.cells #[.pointer (some ⟨b, 1, none⟩)] 72)
  have hk1 := f1.cell hk
  go_enter Tryd.func37, Tryd.ntmps37
  go_wp2_with fail
  refine (cF _ (hs.fr f1)).mono ?_
  rintro e w1 ⟨rfl, rfl⟩
  go_wp2_with fail
  go_region
  all_goals (try go_wp2_with fail)
  have es : (w.alloc (.cells #[.pointer (some ⟨b, 1, none⟩)] 72)).heap.size = w.heap.size + 1 := by simp
  have h6 := six_at (w.alloc (.cells #[.pointer (some ⟨b, 1, none⟩)] 72)) b
  rw [es] at h6
  have fA := (Fr.alloc (w.alloc (.cells #[.pointer (some ⟨b, 1, none⟩)] 72)) (.cells #[.pointer (some ⟨b, 2, none⟩), .pointer (some ⟨b, 3, none⟩), .pointer (some ⟨b, 4, none⟩), .pointer (some ⟨b, 5, none⟩), .pointer (some ⟨b, 6, none⟩), .pointer (some ⟨b, 7, none⟩)] 72)).trans (Fr.drew _)
  have hP := (ownP_one w (some ⟨b, 1, none⟩)).fr fA
  go_loopw [3, 36] (fun u i wr => ∃ k : Nat, k ≤ 6 ∧ i = .int .i64 k ∧ OwnP wr w.heap.size u (ptrs b (offK ((n : Int) + 1) k)) ∧ u.ownBlock ≠ some (w.heap.size + 1) ∧ (∀ j, j < 6 → wr.cell? ⟨w.heap.size + 1, j, none⟩ = some (.pointer (some ⟨b, j + 2, none⟩))) ∧ w.heap.size + 1 < wr.heap.size ∧ Fr w wr) (fun _ i _ => 6 - (intOf i).toNat)
  case atStart => exact ⟨0, by omega, rfl, hP, by simp [Value.ownBlock], h6, by simp, f1.trans fA⟩
  case round =>
    obtain ⟨k, hk6, rfl, ho, hne, hc, hsz, hf⟩ := hrel
    clear hP h6 fA es hk1
    by_cases hlt : k < 6
    · have hck := hc k hlt
      have hm : (wr.alloc (.cells #[.pointer (some ⟨b, k + 2, none⟩)] 72)).cell? ⟨wr.heap.size, 0, none⟩ = some (.pointer (some ⟨b, k + 2, none⟩)) := by simp
      have hle : (ptrs b (offK ((n : Int) + 1) k)).length ≤ 4294967295 := by have := offK_len ((n : Int) + 1) k; simp [ptrs]; omega
      have hs0 := hf.size
      go_wp2_with (at_builtin; refine appP _ rfl _ _ rfl w.heap.size _ _ (some ⟨b, k + 2, none⟩) rfl (ho.fr (Fr.alloc _ _)) _ _ rfl hm hle (by simp; omega) ?_; intro v1 w4 hv1 hg1 hat)
      · have hq : (bits .and .i64 (z / 2 ^ k) 1 == 1) = true := by assumption
        rw [HZ.out, shift_has n hn k hlt] at hq
        have fa := Fr.alloc wr (.cells #[.pointer (some ⟨b, k + 2, none⟩)] 72)
        have hbk := ho.blk
        refine ⟨⟨k + 1, by omega, by go_num, by rw [offK_yes _ k hq, ptrs_one]; exact hv1, ?_, fun j hj => hg1.cell (fa.cell (hc j hj)) (fun q => hne q.symm), by have := hg1.size; simp at this; omega, (hf.trans fa).then hg1 (fun j hj => (hbk j hj).1)⟩, ?_⟩
        · rcases hat with hat | hat
          · rw [hat]; exact hne
          · rw [hat]; simp; omega
        · simp only [intOf]; omega
      · have hq : (bits .and .i64 (z / 2 ^ k) 1 == 1) = false := by assumption
        rw [HZ.out, shift_has n hn k hlt] at hq
        refine ⟨⟨k + 1, by omega, by go_num, by rw [offK_no _ k hq]; exact ho, hne, hc, hsz, hf⟩, ?_⟩
        simp only [intOf]; omega
    · have e6 : k = 6 := by omega
      rw [e6, offK_all] at ho
      clear e6
      go_wp2_with fail
      go_ret
      exact ⟨_, rfl, ho, hf⟩
end Go.Proofs.YthjnhfcncinhiaaDoor
/-
  The specification's l3Right: are all events right, and are there not too many?
-/
namespace Go.Proofs.YthjnhfcncinhiaaDoor
open Go.RowKit

set_option maxHeartbeats 1000000 in
theorem right_any (ao : Option Addr) (n cap : Nat) (es : List Ev) (w : World) (hn : es.length = n) (h : ReadsE w ao es) :
    Calls Tryd.prog 21 #[.slice ao n cap] w fun e w' => e = .returned (.bool (encB es)) ∧ Fr w w' := by
  subst hn
  have hl := h.len
  go_enter Tryd.func21, Tryd.ntmps21
  go_wp2_with fail
  go_loopw [3] (fun i wr => ∃ k : Nat, k ≤ es.length ∧ i = .int .i64 k ∧ Hid (okL (es.take k) = true) ∧ Fr w wr) (fun i _ => es.length - (intOf i).toNat)
  case atStart => exact ⟨0, Nat.zero_le _, rfl, rfl, Fr.refl _⟩
  case round =>
    obtain ⟨k, hk, rfl, HO, hf⟩ := hrel
    by_cases hlt : k < es.length
    · obtain ⟨b, off, rfl, hc⟩ := (h.fr hf).at_ k hlt
      obtain ⟨c0, c1, c2, c3, c4, c5, c6, c7⟩ := hc k hlt
      have cO := fun w => specOk_any es[k] w
      obtain ⟨e, he⟩ : ∃ e, e = es[k] := ⟨_, rfl⟩
      rw [← he] at c0 c1 c2 c3 c4 c5 c6 c7
      simp only [← he] at cO
      have HE : Hid (e = es[k]) := he
      clear hc he
      cases ho : evOk e
      · simp only [ho] at cO
        have HX : Hid (encB es = false) := by
          show _ = _
          have := okL_not es k hlt (by rw [← HE.out]; exact ho)
          rw [okL] at this
          rw [encB, this]
          rfl
        clear ho
        go_wp2_with fail
        refine (cO _).mono ?_
        rintro e w1 ⟨rfl, f1⟩
        go_wp2_with fail
        go_ret
        exact ⟨ret_bool HX.out.symm, hf.trans f1⟩
      · simp only [ho] at cO
        have HO' : Hid (okL (es.take (k + 1)) = true) := okL_take es k hlt HO.out (by rw [← HE.out]; exact ho)
        clear ho
        go_wp2_with fail
        refine (cO _).mono ?_
        rintro e w1 ⟨rfl, f1⟩
        go_wp2_with fail
        go_roundw
        case rel => exact ⟨k + 1, by omega, by go_num, HO', hf.trans f1⟩
        case measure => simp [intOf]; omega
    · have HX : Hid (es.all evOk = true) := by
        have := HO.out
        rwa [List.take_of_length_le (by omega)] at this
      go_wp2_with fail
      go_ret
      refine ⟨ret_bool ?_, hf⟩
      rw [encB, HX.out]
      simp
      omega
end Go.Proofs.YthjnhfcncinhiaaDoor
/-
  Encoded, by the specification.
-/
namespace Go.Proofs.YthjnhfcncinhiaaDoor
open Go.RowKit

/-- What Encoded answers. -/
def encA (es : List Ev) : List Int := if encB es then encL es else []

theorem evL_most (e : Ev) : (evL e).length ≤ 48 := by
  rw [← nums_ev e]
  have h1 := flat_len (nums e 6)
  have h2 := nums_len e 6
  omega
theorem evs_len (l : List Ev) : (l.flatMap evL).length ≤ l.length * 48 := by
  induction l with
  | nil => simp
  | cons e l ih =>
    have := evL_most e
    rw [List.flatMap_cons, List.length_append, List.length_cons]
    omega
theorem enc_step (es : List Ev) (k : Nat) (h : k < es.length) : ([82, 50, 49] ++ (es.take k).flatMap evL) ++ evL es[k] = [82, 50, 49] ++ (es.take (k + 1)).flatMap evL := by
  rw [List.take_succ_eq_append_getElem h, List.flatMap_append, List.append_assoc]
  simp

theorem head_u8 : ∀ x ∈ ([82, 50, 49] : List Int), U8 x := by
  intro x hx
  simp only [List.mem_cons, List.not_mem_nil, or_false] at hx
  rcases hx with rfl | rfl | rfl <;> exact ⟨by decide, by decide⟩

set_option maxHeartbeats 1000000 in
theorem specEnc_any (ao : Option Addr) (n cap : Nat) (es : List Ev) (w : World) (hn : es.length = n) (h : ReadsE w ao es) :
    Calls Tryd.prog 8 #[.slice ao n cap] w fun e w' => ∃ v, e = .returned (.tuple #[v, .bool (encB es)]) ∧ OwnBS w' w.heap.size v (encA es) ∧ Fr w w' := by
  subst hn
  have hl := h.len
  have cR := fun w h => right_any ao es.length cap es w rfl h
  rw [encA]
  cases hb : encB es
  · simp only [hb] at cR
    clear hb
    go_enter Tryd.func8, Tryd.ntmps8
    go_wp2_with fail
    refine (cR _ h).mono ?_
    rintro e w1 ⟨rfl, f1⟩
    go_wp2_with fail
    go_ret2
    exact ⟨_, rfl, (ownB_new w1).lower f1.size, f1.trans (Fr.alloc _ _)⟩
  · simp only [hb] at cR
    have hok : es.length ≤ 300 := by
      simp only [encB, Bool.and_eq_true, decide_eq_true_eq] at hb; exact hb.2
    have hall : ∀ k (hk : k < es.length), evOk es[k] = true := fun k hk => by
      simp only [encB, Bool.and_eq_true, List.all_eq_true] at hb
      exact hb.1 _ (List.getElem_mem hk)
    clear hb
    go_enter Tryd.func8, Tryd.ntmps8
    go_wp2_with fail
    refine (cR _ h).mono ?_
    rintro e w1 ⟨rfl, f1⟩
    have h1 := h.fr f1
    have s1 := f1.size
    go_wp2_with fail
    go_loopw [4, 5] (fun u i wr => ∃ k : Nat, k ≤ es.length ∧ i = .int .i64 k ∧ OwnBS wr w1.heap.size u ([82, 50, 49] ++ (es.take k).flatMap evL) ∧ Fr w1 wr) (fun _ i _ => es.length - (intOf i).toNat)
    case atStart => exact ⟨0, Nat.zero_le _, rfl, ownB_lit w1 [82, 50, 49] (by simp) head_u8, Fr.alloc _ _⟩
    case round =>
      obtain ⟨k, hk, rfl, ho, hf⟩ := hrel
      have hs := hf.size
      by_cases hlt : k < es.length
      · obtain ⟨b, off, rfl, hc⟩ := (h1.fr hf).at_ k hlt
        obtain ⟨c0, c1, c2, c3, c4, c5, c6, c7⟩ := hc k hlt
        have cE := fun w => l3Event_any es[k] w (hall k hlt)
        have HS : Hid (([82, 50, 49] ++ (es.take k).flatMap evL) ++ evL es[k] = [82, 50, 49] ++ (es.take (k + 1)).flatMap evL) := enc_step es k hlt
        have hl1 := evs_len (es.take k)
        have hl2 : (es.take k).length ≤ 300 := by simp; omega
        have hl3 := evL_most es[k]
        obtain ⟨e, he⟩ : ∃ e, e = es[k] := ⟨_, rfl⟩
        rw [← he] at c0 c1 c2 c3 c4 c5 c6 c7 HS hl3
        simp only [← he] at cE
        clear hc he
        obtain ⟨EL, hEL⟩ : ∃ EL, EL = evL e := ⟨_, rfl⟩
        rw [← hEL] at HS hl3
        simp only [← hEL] at cE
        clear hEL
        have hle : ([82, 50, 49] ++ (es.take k).flatMap evL).length + EL.length ≤ 4294967296 := by
          rw [List.length_append]
          have : ([82, 50, 49] : List Int).length = 3 := rfl
          omega
        go_wp2_with fail
        refine (cE _).mono ?_
        rintro e w2 ⟨vx, rfl, ox, f2⟩
        obtain ⟨gx, cx, rfl, ox⟩ := ox
        have s2 := f2.size
        go_wp2_with (at_builtin; refine appB _ rfl _ _ rfl w1.heap.size _ _ EL rfl (ho.fr f2) _ _ _ rfl rfl (by simp) ox.reads hle (by omega) ?_; intro v6 w6 hv6 hg6)
        go_roundw
        case rel => exact ⟨k + 1, by omega, by go_num, by rw [← HS.out]; exact hv6, (hf.trans f2).then hg6 ho.blk⟩
        case measure => simp [intOf]; omega
      · rw [List.take_of_length_le (by omega)] at ho
        go_wp2_with fail
        go_ret2
        exact ⟨_, rfl, ho.lower s1, f1.trans hf⟩
end Go.Proofs.YthjnhfcncinhiaaDoor
/-
  The program's Encoded: withEvent, Encoded.
-/
namespace Go.Proofs.YthjnhfcncinhiaaDoor
open Go.RowKit

theorem FrB.cell {base : Nat} {w w' : World} (h : FrB base w w') {b o : Nat} {v : Value} (hc : w.cell? ⟨b, o, none⟩ = some v) (hb : b < base ∨ ¬ isB w b) : w'.cell? ⟨b, o, none⟩ = some v := by
  have hl := World.block_lt_of_cell? w _ hc
  rw [← hc]
  simp only [World.cell?]
  rw [h.block b hl hb]
theorem notB {w : World} {b : Nat} {c : Array Value} {t : TypeId} {f : Nat × Nat} (h : w.heap[b]? = some (.cells c t f)) (ht : t ≠ 5) : ¬ isB w b := by
  rintro ⟨cur, fz, e⟩
  rw [h] at e
  simp only [Option.some.injEq, Obj.cells.injEq] at e
  exact ht e.2.1
theorem Shapes.frB {base : Nat} {w w' : World} (h : Shapes w) (k : FrB base w w') (hb : 0 < base) : Shapes w' := fun n hn => by
  obtain ⟨h1, h2, h3⟩ := h n hn
  exact ⟨k.cell h1 (.inl hb), k.cell h2 (.inl hb), k.cell h3 (.inl hb)⟩
theorem Shapes.lt {w : World} (h : Shapes w) : 0 < w.heap.size := World.block_lt_of_cell? w _ (h 0 (by omega)).1
theorem EvAt.at {w : World} {b : Nat} {e : Ev} (h : EvAt w b e) (o : Nat) (ho : o < 8) : w.cell? ⟨b, o, none⟩ = some (.int .i64 (e.at o)) := by
  obtain ⟨c0, c1, c2, c3, c4, c5, c6, c7⟩ := h
  rcases (by omega : o = 0 ∨ o = 1 ∨ o = 2 ∨ o = 3 ∨ o = 4 ∨ o = 5 ∨ o = 6 ∨ o = 7) with rfl | rfl | rfl | rfl | rfl | rfl | rfl | rfl
  · exact c0
  · exact c1
  · exact c2
  · exact c3
  · exact c4
  · exact c5
  · exact c6
  · exact c7
theorem OwnP.open {w : World} {base b : Nat} {v : Value} {os : List Nat} (h : OwnP w base v (ptrs b os)) :
    ∃ g cap, v = .slice (some ⟨g, 0, none⟩) os.length cap ∧ base ≤ g ∧ g < w.heap.size ∧ ¬ isB w g ∧ ∀ t (ht : t < os.length), w.cell? ⟨g, t, none⟩ = some (.pointer (some ⟨b, os[t], none⟩)) := by
  obtain ⟨g, cap, rfl, ho⟩ := h
  have hl : (ptrs b os).length = os.length := by simp [ptrs]
  refine ⟨g, cap, by rw [hl], (ho.lt g rfl).1, (ho.lt g rfl).2, ?_, fun t ht => ?_⟩
  · rcases ho.2 with ⟨e, _⟩ | ⟨g', c', cur, e, _, h1, _⟩
    · simp at e
    · simp only [Value.slice.injEq, Option.some.injEq, Addr.mk.injEq, and_true] at e
      obtain ⟨rfl, -, rfl⟩ := e
      exact notB h1 (by decide)
  · rw [ho.cellAt t (by omega)]
    simp [ptrs, ht]
theorem app_olds {w : World} {b : Nat} {xs : List Int} (h : ∀ j, j < xs.length → w.cell? ⟨b, 0 + j, none⟩ = some (.int .u8 (xs.getD j 0))) :
    ∀ c, some (⟨b, 0, none⟩ : Addr) = some c → ∀ j u, (xs.map (Value.int .u8))[j]? = some u → w.cell? (c.add j) = some u := by
  intro c hc j u hu
  simp only [Option.some.injEq] at hc
  subst hc
  have hj : j < xs.length := by
    have := (List.getElem?_eq_some_iff.1 hu).1
    simpa using this
  rw [Addr.add_lit, h j hj, getD_at hj]
  rw [List.getElem?_map, List.getElem?_eq_getElem hj] at hu
  simpa using hu
theorem app_new {w : World} {b : Nat} {n : Int} (h : ∀ j, j < [n].length → w.cell? ⟨b, 0 + j, none⟩ = some (.int .u8 ([n].getD j 0))) :
    ∀ j u, ([.int .u8 n] : List Value)[j]? = some u → w.cell? ((⟨b, 0, none⟩ : Addr).add j) = some u := by
  intro j u hu
  cases j with
  | zero => simp at hu; subst hu; rw [Addr.add_lit]; exact h 0 (by simp)
  | succ j => simp at hu
theorem nums_take (e : Ev) (l : List Nat) (t : Nat) (h : t < l.length) : numsL e (l.take t) ++ putL (e.at l[t]) = numsL e (l.take (t + 1)) := by
  rw [numsL, numsL, List.take_succ_eq_append_getElem h, List.flatMap_append]
  simp
theorem numsL_len (e : Ev) (l : List Nat) : (numsL e l).length ≤ l.length * 6 := by
  induction l with
  | nil => simp [numsL]
  | cons x l ih =>
    have := (putL_len (e.at x)).2
    rw [numsL, List.flatMap_cons, List.length_append, List.length_cons]
    rw [numsL] at ih
    omega
theorem offs_len (k : Int) : (offs k).length ≤ 7 := by rw [← offK_all]; exact offK_len k 6

/-- 'append' of one byte to a slice that has no room. -/
theorem appFull (w : World) {ops : Array Oper} {rest : List Oper} {o : Oper} {a : Act} {Q : Exit → Act → World → Prop} (hgd : o.guard = none) (s x : Operand)
    (ho : o.op = .call { callee := .builtin .append, args := #[s, x], argTypes := #[22, 22] })
    (b : Nat) (xs : List Int) (n : Int) (hs : a.eval s = .slice (some ⟨b, 0, none⟩) xs.length xs.length) (h : ReadsB w (some ⟨b, 0, none⟩) xs) (hx0 : 0 < xs.length)
    (b1 : Nat) (hx : a.eval x = .slice (some ⟨b1, 0, none⟩) 1 1) (hm : ReadsB w (some ⟨b1, 0, none⟩) [n]) (hl : xs.length ≤ 4294960000)
    (hK : ∀ v' w', OwnBS w' w.heap.size v' (xs ++ [n]) → Fr w w' → wpList Tryd.prog ops Q rest (a.put o.dst v') w') : wpList Tryd.prog ops Q (o :: rest) a w := by
  obtain ⟨i0, hi, hz0, hz1, hz2⟩ := info_parts Tryd.info5
  obtain ⟨b1', off1, e1, hc1⟩ := hm.at_ 0 (by simp)
  simp only [Option.some.injEq, Addr.mk.injEq, and_true] at e1
  obtain ⟨rfl, rfl⟩ := e1
  obtain ⟨b2, off2, e2, hc2⟩ := h.at_ 0 hx0
  simp only [Option.some.injEq, Addr.mk.injEq, and_true] at e2
  obtain ⟨rfl, rfl⟩ := e2
  refine wpList_append_grows _ hgd s x 22 ho 5 i0 (.int .u8 0) 1 1 Tryd.underlying22 hi hz0 hz1 hz2 rfl (by decide) (some ⟨b, 0, none⟩) xs.length xs.length (xs.map (Value.int .u8)) hs (by simp) (by simp) (app_olds hc2) ⟨b1, 0, none⟩ 1 1 [.int .u8 n] hx (by simp) (app_new hc1) (by intro u hu; simp at hu; subst hu; rfl) (by omega) (by unfold maxLen; omega) (by omega) ?_
  intro v1 w4 hv1 hg1
  refine hK v1 w4 ?_ hg1
  have hv2 : w4.ownsRow w.heap.size 5 1 v1 (xs ++ [n]).length ((xs ++ [n]).map (Value.int .u8)) := by simpa using hv1
  refine shapeB_of hv2 ?_ (by simp; omega) ?_
  · rintro rfl
    rcases hv1.2 with ⟨e, e'⟩ | ⟨g, cap, cur, e, _⟩
    · omega
    · simp at e
  · intro y hy
    rcases List.mem_append.1 hy with hy | hy
    · exact h.bd y hy
    · exact hm.bd y hy

set_option maxHeartbeats 1000000 in
/-- A small number behind a slice that has no room and is not the call's own. -/
theorem withNumber_full (n : Int) (b : Nat) (xs : List Int) (w : World) (h0 : 0 ≤ n) (h1 : n < 128) (h : ReadsB w (some ⟨b, 0, none⟩) xs) (hl : xs.length ≤ 4294960000) (hx0 : 0 < xs.length) :
    Calls Tryd.prog 36 #[.slice (some ⟨b, 0, none⟩) xs.length xs.length, .int .i64 n] w fun e w' => ∃ v', e = .returned v' ∧ OwnBS w' w.heap.size v' (xs ++ putL n) ∧ Fr w w' := by
  have hp : putL n = [n] := putF_small h1
  rw [hp]
  clear hp
  have f1 := Fr.alloc w (.cells #[.int .u8 n] 5)
  have hm := readsB_one w n ⟨by omega, by omega⟩
  go_enter Tryd.func36, Tryd.ntmps36
  go_wp2_with fail
  refine wp_loop_rounds 1 ?_
  rw [rounds_succ]
  go_wp2_with (at_builtin; refine appFull _ rfl _ _ rfl b xs n rfl (h.fr f1) hx0 w.heap.size rfl hm hl ?_; intro v1 w4 hv1 hg1)
  go_ret
  exact ⟨v1, rfl, hv1.lower f1.size, f1.trans hg1⟩

set_option maxHeartbeats 2000000 in
theorem withEvent_of (e : Ev) (v : Value) (base : Nat) (xs : List Int) (w : World) (hok : evOk e = true)
    (hN : ∀ u, Fr w u → Calls Tryd.prog 36 #[v, .int .i64 e.k] u fun x w' => ∃ v', x = .returned v' ∧ OwnBS w' base v' (xs ++ putL e.k) ∧ FrB base u w')
    (hl : xs.length ≤ 4294000000) (hb : base ≤ w.heap.size) (hg : 0 < base) (hs : Shapes w) :
    Calls Tryd.prog 20 #[v, .agg #[.int .i64 e.k, .int .i64 e.g, .int .i64 e.o, .int .i64 e.w, .int .i64 e.l, .int .i64 e.s, .int .i64 e.f, .int .i64 e.t]] w fun x w' => ∃ v', x = .returned v' ∧ OwnBS w' base v' (xs ++ evL e) ∧ FrB base w w' := by
  have he := (ok_at hok).1
  have hkk : inB 1 22 e.k = true := by
    simp only [evOk, Bool.and_eq_true] at hok
    exact hok.1.1.1.1.1.1.1
  obtain ⟨n, hn, hkn⟩ := kinds hkk
  have HK : Hid (e.k = (n : Int) + 1) := hkn
  clear hkn
  have hk0 : 0 ≤ e.k ∧ e.k ≤ 65535 := he 0
  clear hok hkk
  have hE := EvB.new w e
  have f1 := Fr.alloc w (.cells #[.int .i64 e.k, .int .i64 e.g, .int .i64 e.o, .int .i64 e.w, .int .i64 e.l, .int .i64 e.s, .int .i64 e.f, .int .i64 e.t] 38)
  have hE0 := hE.at.1
  have cN := hN _ f1
  go_enter Tryd.func20, Tryd.ntmps20
  go_wp2_with fail
  refine cN.mono ?_
  rintro x w2 ⟨v2, rfl, o2, fb2⟩
  have hE2 : EvB w2 w.heap.size e := (fb2.block _ hE.lt (.inr (notB hE (by decide)))).trans hE
  have hs2 : Shapes w2 := (hs.fr f1).frB fb2 hg
  have fB := (f1.toB base).trans fb2
  clear cN hE hE0 f1
  have hk2 := hE2.at.1
  rw [HK.out] at hk2
  have cP := partsOf_any w.heap.size n hn w2 hs2 hk2
  rw [← HK.out] at cP
  have hofl := offs_len e.k
  have hofi := (offs_in (k := e.k)).1
  have HL : Hid (evL e = putL e.k ++ numsL e (offs e.k)) := rfl
  have hp6 := (putL_len e.k).2
  obtain ⟨os, hos⟩ : ∃ os, os = offs e.k := ⟨_, rfl⟩
  rw [← hos] at cP hofl hofi HL
  clear hos hk2 fb2
  go_wp2_with fail
  refine cP.mono ?_
  rintro x w3 ⟨v3, rfl, o3, f3⟩
  obtain ⟨gp, cp, rfl, -, gpl, gpn, hcp⟩ := o3.open
  have hE3 : EvB w3 w.heap.size e := hE2.keep f3 (by simp)
  have o2 := o2.fr f3
  have fB := fB.trans (f3.toB base)
  clear cP hE2 f3
  go_wp2_with fail
  go_loopw [0, 13] (fun u i wr => ∃ t : Nat, t ≤ os.length ∧ i = .int .i64 t ∧ OwnBS wr base u ((xs ++ putL e.k) ++ numsL e (os.take t)) ∧ FrB base w3 wr) (fun _ i _ => os.length - (intOf i).toNat)
  case atStart => exact ⟨0, Nat.zero_le _, rfl, by simpa [numsL] using o2, FrB.refl _ _⟩
  case round =>
    obtain ⟨t, ht, rfl, ho, hf⟩ := hrel
    by_cases hlt : t < os.length
    · have hct := hf.cell (hcp t hlt) (.inr gpn)
      have hoi := hofi _ (List.getElem_mem hlt)
      have hE4 : EvB wr w.heap.size e := (hf.block _ hE3.lt (.inr (notB hE3 (by decide)))).trans hE3
      have hcv := hE4.at.at os[t] hoi.2
      have hvr := he os[t]
      have HX : Hid (numsL e (os.take t) ++ putL (e.at os[t]) = numsL e (os.take (t + 1))) := nums_take e os t hlt
      have hnl := numsL_len e (os.take t)
      have htl : (os.take t).length ≤ 7 := by simp; omega
      obtain ⟨o, hoo⟩ : ∃ o, o = os[t] := ⟨_, rfl⟩
      rw [← hoo] at hct hcv hvr HX
      clear hoo hoi
      obtain ⟨z, hz⟩ : ∃ z, z = e.at o := ⟨_, rfl⟩
      rw [← hz] at hcv hvr HX
      clear hz
      have hle : ((xs ++ putL e.k) ++ numsL e (os.take t)).length ≤ 4294960000 := by
        rw [List.length_append, List.length_append]; omega
      have cN := withNumber_any z u0 base _ wr hvr.1 (by omega) ho hle (by have := hf.size; have := fB.size; omega)
      rw [List.append_assoc, HX.out] at cN
      go_wp2_with fail
      refine (cN).mono ?_
      rintro e w5 ⟨v5, rfl, o5, f5⟩
      go_wp2_with fail
      go_roundw
      case rel => exact ⟨t + 1, by omega, by go_num, o5, hf.trans f5⟩
      case measure => simp [intOf]; omega
    · rw [List.take_of_length_le (by omega), List.append_assoc, ← HL.out] at ho
      go_wp2_with fail
      go_ret
      exact ⟨_, rfl, ho, fB.trans hf⟩

theorem kind_small {e : Ev} (hok : evOk e = true) : 1 ≤ e.k ∧ e.k ≤ 22 := by
  simp only [evOk, Bool.and_eq_true] at hok
  exact inB_true hok.1.1.1.1.1.1.1

theorem withEvent_any (e : Ev) (v : Value) (base : Nat) (xs : List Int) (w : World) (hok : evOk e = true) (h : OwnBS w base v xs) (hl : xs.length ≤ 4294000000) (hb : base ≤ w.heap.size) (hg : 0 < base) (hs : Shapes w) :
    Calls Tryd.prog 20 #[v, .agg #[.int .i64 e.k, .int .i64 e.g, .int .i64 e.o, .int .i64 e.w, .int .i64 e.l, .int .i64 e.s, .int .i64 e.f, .int .i64 e.t]] w fun x w' => ∃ v', x = .returned v' ∧ OwnBS w' base v' (xs ++ evL e) ∧ FrB base w w' := by
  have hk := kind_small hok
  exact withEvent_of e v base xs w hok (fun u hu => withNumber_any e.k v base xs u (by omega) (by omega) (h.fr hu) (by omega) (by have := hu.size; omega)) hl hb hg hs

theorem withEvent_full (e : Ev) (b : Nat) (base : Nat) (xs : List Int) (w : World) (hok : evOk e = true) (h : ReadsB w (some ⟨b, 0, none⟩) xs) (hl : xs.length ≤ 4294000000) (hx0 : 0 < xs.length) (hb : base ≤ w.heap.size) (hg : 0 < base) (hs : Shapes w) :
    Calls Tryd.prog 20 #[.slice (some ⟨b, 0, none⟩) xs.length xs.length, .agg #[.int .i64 e.k, .int .i64 e.g, .int .i64 e.o, .int .i64 e.w, .int .i64 e.l, .int .i64 e.s, .int .i64 e.f, .int .i64 e.t]] w fun x w' => ∃ v', x = .returned v' ∧ OwnBS w' base v' (xs ++ evL e) ∧ FrB base w w' := by
  have hk := kind_small hok
  exact withEvent_of e _ base xs w hok (fun u hu => (withNumber_full e.k b xs u (by omega) (by omega) (h.fr hu) (by omega) hx0).mono (fun x w' ⟨v', hv, ho, hf⟩ => ⟨v', hv, ho.lower (by have := hu.size; omega), hf.toB base⟩)) hl hb hg hs
end Go.Proofs.YthjnhfcncinhiaaDoor
