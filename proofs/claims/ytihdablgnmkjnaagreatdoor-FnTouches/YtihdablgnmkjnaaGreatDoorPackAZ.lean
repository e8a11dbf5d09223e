/-
  A trace that is grown event by event: l5Grow.
-/
import Derived.Test.YtihdablgnmkjnaaGreatDoorPackAI
import Derived.Test.YtihdablgnmkjnaaGreatDoorPackAY
import Derived.Test.YtihdablgnmkjnaaGreatDoorPackAT
import Derived.Test.YtihdablgnmkjnaaGreatDoorPackAA
import Derived.Test.YtihdablgnmkjnaaGreatDoorPackAX
import Derived.Test.YtihdablgnmkjnaaGreatDoorPackAK
import Derived.Test.YtihdablgnmkjnaaGreatDoorPackAF
import Derived.Test.YtihdablgnmkjnaaGreatDoorPackAB
import Derived.Test.YtihdablgnmkjnaaGreatDoorPackAC
import Derived.Deep.RegionHeld3
import Derived.Test.YtihdablgnmkjnaaGreatDoorPackAU
import Derived.Test.YtihdablgnmkjnaaGreatDoorPackAP
namespace Go.Proofs.YtihdablgnmkjnaaGreatDoor
open Go.RowKit

theorem codeIn_zero {m : Scn} {e : Ev} (h : codeIn m e = 0) : evOk e = true ∧ scB m = true := by
  unfold codeIn at h
  split at h
  · simp at h
  · rename_i hn
    refine ⟨?_, ?_⟩
    · cases he : evOk e with
      | true => rfl
      | false => exact absurd (.inl he) hn
    · cases he : scB m with
      | true => rfl
      | false => exact absurd (.inr he) hn
theorem OwnE.lt {w : World} {base : Nat} {v : Value} {es : List Ev} (h : OwnE w base v es) : ∀ j, v.ownBlock = some j → j < w.heap.size := by
  obtain ⟨g, cap, rfl, ho, hl⟩ := h
  intro j hj
  exact (ho.lt j hj).2

/-- The state in the midst of l5Grow: the cursor in g, the scene in sb, the events so far in the slice u. -/
structure GX (B : Nat → Prop) (w0 : World) (g sb : Nat) (u : Value) (es : List Ev) (s : Sv) (m : Scn) (wr : World) : Prop where
  cur : Cur wr g
  gro : w0.grownBy wr (some g)
  sc : ScK wr sb s
  scr : ScR B wr s m
  own : OwnE wr w0.heap.size u es
  gl : g < w0.heap.size
  sl : w0.heap.size ≤ sb
  ul : ∀ j, u.ownBlock = some j → j ≠ sb ∧ j < wr.heap.size
  bB : ∀ b, B b → b < wr.heap.size ∧ b ≠ g ∧ b ≠ sb ∧ u.ownBlock ≠ some b
theorem GX.draw {B : Nat → Prop} {w0 wr w' : World} {g sb : Nat} {u : Value} {es : List Ev} {s : Sv} {m : Scn} (h : GX B w0 g sb u es s m wr) (c : Cur w' g) (k : wr.grownBy w' (some g)) : GX B w0 g sb u es s m w' := by
  have h1 := h.gl; have h2 := h.sl; have hs := k.size
  exact { h with cur := c, gro := grown_trans h.gro k, sc := h.sc.keep k (by simp; omega), scr := h.scr.keep k (fun j hj => by cases hj; exact fun q => (h.bB _ q).2.1 rfl), own := h.own.keep k (fun q => by have := h.own.blk _ q; omega), ul := fun j hj => ⟨(h.ul j hj).1, by have := (h.ul j hj).2; omega⟩, bB := fun b hb => ⟨by have := (h.bB b hb).1; omega, (h.bB b hb).2⟩ }
theorem GX.fr {B : Nat → Prop} {w0 wr w' : World} {g sb : Nat} {u : Value} {es : List Ev} {s : Sv} {m : Scn} (h : GX B w0 g sb u es s m wr) (k : Fr wr w') : GX B w0 g sb u es s m w' := by
  have hs := k.size
  exact { h with cur := h.cur.fr k, gro := grown_trans h.gro k.wide, sc := h.sc.fr k, scr := h.scr.fr k, own := h.own.fr k, ul := fun j hj => ⟨(h.ul j hj).1, by have := (h.ul j hj).2; omega⟩, bB := fun b hb => ⟨by have := (h.bB b hb).1; omega, (h.bB b hb).2⟩ }
theorem GX.wrote {B : Nat → Prop} {w0 wr w' : World} {g sb eb : Nat} {u : Value} {es : List Ev} {s : Sv} {m : Scn} (h : GX B w0 g sb u es s m wr) (k : wr.grownBy w' (some eb)) (he : sb < eb) (hB : ¬ B eb) (hu : u.ownBlock ≠ some eb) : GX B w0 g sb u es s m w' := by
  have h1 := h.gl; have h2 := h.sl; have hs := k.size
  exact { h with cur := h.cur.other k (by intro j hj; simp only [Option.some.injEq] at hj; omega), gro := grown_then h.gro k (by intro j hj; simp only [Option.some.injEq] at hj; omega), sc := h.sc.keep k (by simp; omega), scr := h.scr.keep k (fun j hj => by cases hj; exact hB), own := h.own.keep k hu, ul := fun j hj => ⟨(h.ul j hj).1, by have := (h.ul j hj).2; omega⟩, bB := fun b hb => ⟨by have := (h.bB b hb).1; omega, (h.bB b hb).2⟩ }
/-- The scene is put in its block: those of the new scene are B or new since w1. -/
theorem GX.scene {B : Nat → Prop} {w0 w1 wr : World} {g sb : Nat} {u : Value} {es : List Ev} {s s' : Sv} {m m' : Scn} (h1 : GX B w0 g sb u es s m w1) (f : Fr w1 wr) (hS : ScR (Grew B w1 wr) wr s' m') :
    GX (Grew B w1 wr) w0 g sb u es s' m' (((((wr.setCell ⟨sb, 0, none⟩ (.int .i64 s'.g)).setCell ⟨sb, 1, none⟩ (.slice s'.lo s'.ll s'.lc)).setCell ⟨sb, 2, none⟩ (.slice s'.co s'.cl s'.cc)).setCell ⟨sb, 3, none⟩ (.slice s'.no s'.nl s'.nc)).setCell ⟨sb, 4, none⟩ (.slice s'.oo s'.ol s'.oc)) := by
  have h := h1.fr f
  have k := put5 wr sb (.int .i64 s'.g) (.slice s'.lo s'.ll s'.lc) (.slice s'.co s'.cl s'.cc) (.slice s'.no s'.nl s'.nc) (.slice s'.oo s'.ol s'.oc)
  have hs := k.size
  have hb : ∀ b, Grew B w1 wr b → b < wr.heap.size ∧ b ≠ g ∧ b ≠ sb ∧ u.ownBlock ≠ some b := by
    rintro b (hb | ⟨h3, h4⟩)
    · exact h.bB b hb
    · have h5 := h1.sc.lt
      have h6 := h1.gl
      have h7 := h1.sl
      exact ⟨h4, by omega, by omega, fun q => by have := (h1.ul _ q).2; omega⟩
  refine { h with cur := h.cur.other k (by intro j hj; simp only [Option.some.injEq] at hj; have := h.gl; have := h.sl; omega), gro := grown_then h.gro k (by intro j hj; simp only [Option.some.injEq] at hj; have := h.sl; omega), sc := ?_, scr := hS.keep k (fun j hj => by cases hj; exact fun q => (hb _ q).2.2.1 rfl), own := h.own.keep k (fun q => (h.ul _ q).1 rfl), ul := fun j hj => ⟨(h.ul j hj).1, by have := (h.ul j hj).2; omega⟩, bB := fun b q => ⟨by have := (hb b q).1; omega, (hb b q).2⟩ }
  have e0 := heap_setCell_same wr sb 0 _ _ (.int .i64 s'.g) h.sc
  have e1 := heap_setCell_same _ sb 1 _ _ (.slice s'.lo s'.ll s'.lc) e0
  have e2 := heap_setCell_same _ sb 2 _ _ (.slice s'.co s'.cl s'.cc) e1
  have e3 := heap_setCell_same _ sb 3 _ _ (.slice s'.no s'.nl s'.nc) e2
  exact heap_setCell_same _ sb 4 _ _ (.slice s'.oo s'.ol s'.oc) e3

theorem GX.app {B : Nat → Prop} {w0 wr w' : World} {g sb : Nat} {u v : Value} {es es' : List Ev} {s : Sv} {m : Scn} (h : GX B w0 g sb u es s m wr) (hv : OwnE w' w0.heap.size v es') (k : wr.grownBy w' u.ownBlock) (hat : v.ownBlock = u.ownBlock ∨ v.ownBlock = some wr.heap.size) : GX B w0 g sb v es' s m w' := by
  have h1 := h.gl; have h2 := h.sl; have hs := k.size; have h3 := h.sc.lt
  refine { h with cur := h.cur.other k (fun j hj => by have := h.own.blk j hj; omega), gro := grown_then h.gro k (fun j hj => .inl (h.own.blk j hj)), sc := h.sc.keep k (fun q => (h.ul _ q).1 rfl), scr := h.scr.keep k (fun j hj q => (h.bB _ q).2.2.2 hj), own := hv, ul := fun j hj => ⟨?_, hv.lt j hj⟩, bB := fun b hb => ⟨by have := (h.bB b hb).1; omega, (h.bB b hb).2.1, (h.bB b hb).2.2.1, ?_⟩ }
  · rcases hat with e | e
    · rw [e] at hj; exact (h.ul j hj).1
    · rw [e] at hj; simp only [Option.some.injEq] at hj; omega
  · rcases hat with e | e
    · rw [e]; exact (h.bB b hb).2.2.2
    · rw [e]; have := (h.bB b hb).1; simp only [ne_eq, Option.some.injEq]; omega

set_option maxRecDepth 20000 in
set_option maxHeartbeats 8000000 in
theorem l5Grow_any (g : Nat) (n : Int) (w : World) (hc : Cur w g) (hn : n ≤ 100000) :
    Calls Tryz.prog 177 #[.pointer (some ⟨g, 0, none⟩), .int .i64 n] w fun x w' => ∃ v : Value, x = .returned v ∧ ∃ es : List Ev, OwnE w' w.heap.size v es ∧ es.length ≤ n.toNat ∧ Cur w' g ∧ w.grownBy w' (some g) := by
  have hgl := hc.lt
  go_enter Tryz.func177, Tryz.ntmps177
  go_wp2_with fail
  refine (newScene_any (fun _ => False) _).mono ?_
  rintro e w1 ⟨⟨sg, lo, ll, lc, co, cl, cc, no, nl, nc, oo, ol, oc⟩, rfl, hS, f1⟩
  go_wp2_with fail
  obtain ⟨sb, hsb⟩ : ∃ sb, sb = w1.heap.size := ⟨_, rfl⟩
  have h1 := f1.size
  have fA := Fr.alloc w1 (.cells #[.int .i64 sg, .slice lo ll lc, .slice co cl cc, .slice no nl nc, .slice oo ol oc] 29)
  have fB := Fr.alloc (w1.alloc (.cells #[.int .i64 sg, .slice lo ll lc, .slice co cl cc, .slice no nl nc, .slice oo ol oc] 29)) (.cells #[] 31)
  have kS := (ScK.new w1 ⟨sg, lo, ll, lc, co, cl, cc, no, nl, nc, oo, ol, oc⟩).fr fB
  have kO := (ownE_new (w1.alloc (.cells #[.int .i64 sg, .slice lo ll lc, .slice co cl cc, .slice no nl nc, .slice oo ol oc] 29))).lower (base' := w.heap.size) (by simp; omega)
  have fC := (f1.trans fA).trans fB
  have hX : GX (fun _ => False) w g w1.heap.size (.slice (some ⟨w1.heap.size + 1, 0, none⟩) 0 0) [] ⟨sg, lo, ll, lc, co, cl, cc, no, nl, nc, oo, ol, oc⟩ scn0 ((w1.alloc (.cells #[.int .i64 sg, .slice lo ll lc, .slice co cl cc, .slice no nl nc, .slice oo ol oc] 29)).alloc (.cells #[] 31)) := by
    simp only [World.size_alloc] at kO
    exact ⟨hc.fr fC, fC.wide, kS, hS.fr (fA.trans fB), kO, hgl, h1, fun j hj => by simp only [Value.ownBlock, Option.some.injEq] at hj; subst hj; simp, fun b hb => hb.elim⟩
  obtain ⟨V, hV⟩ : ∃ V, V = (w1.alloc (.cells #[.int .i64 sg, .slice lo ll lc, .slice co cl cc, .slice no nl nc, .slice oo ol oc] 29)).alloc (.cells #[] 31) := ⟨_, rfl⟩
  rw [← hV] at hX ⊢
  rw [← hsb] at hX ⊢
  clear hV hsb h1 fA fB kS kO fC f1 hS hgl hc
  go_loopw [1, 6] (fun q u wr => ∃ (nn : Int) (es : List Ev) (s : Sv) (m : Scn) (B : Nat → Prop), q = .int .i64 nn ∧ nn ≤ n ∧ es.length + nn.toNat ≤ n.toNat ∧ GX B w g sb u es s m wr) (fun q _ _ => (intOf q).toNat)
  case atStart => exact ⟨n, [], _, _, _, rfl, Int.le_refl _, by simp, hX⟩
  case round =>
    clear hX
    obtain ⟨nn, es, ⟨sg, lo, ll, lc, co, cl, cc, no, nl, nc, oo, ol, oc⟩, m, B, rfl, hnn, hel, hX⟩ := hrel
    by_cases hpos : 0 < nn
    · obtain ⟨s0, s1, s2, s3, s4⟩ := hX.sc.at
      simp only at s0 s1 s2 s3 s4
      go_wp2_with fail
      refine (l5Next_any g ⟨sg, lo, ll, lc, co, cl, cc, no, nl, nc, oo, ol, oc⟩ m _ hX.cur (fun b q => ⟨(hX.bB b q).1, (hX.bB b q).2.1⟩) hX.scr).mono ?_
      rintro x w1 ⟨⟨k, gr, o, wi, l, sz, f, t⟩, rfl, hE, c1, g1⟩
      have h1 := hX.draw c1 g1
      clear hX c1 g1 s0 s1 s2 s3 s4
      simp only
      go_upto_region 6 with fail
      have ev := EvB.new w1 ⟨k, gr, o, wi, l, sz, f, t⟩
      have h2 := h1.fr (Fr.alloc w1 (.cells #[.int .i64 k, .int .i64 gr, .int .i64 o, .int .i64 wi, .int .i64 l, .int .i64 sz, .int .i64 f, .int .i64 t] 31))
      have HU : Hid (u6.ownBlock ≠ some w1.heap.size ∧ sb < w1.heap.size ∧ ¬ B w1.heap.size) := ⟨fun q => by have := (h1.ul _ q).2; omega, h1.sc.lt, fun q => by have := (h1.bB _ q).1; omega⟩
      simp only at ev
      obtain ⟨V, hV⟩ : ∃ V, V = w1.alloc (.cells #[.int .i64 k, .int .i64 gr, .int .i64 o, .int .i64 wi, .int .i64 l, .int .i64 sz, .int .i64 f, .int .i64 t] 31) := ⟨_, rfl⟩
      rw [← hV] at ev h2 ⊢
      obtain ⟨eb, heb⟩ : ∃ eb, eb = w1.heap.size := ⟨_, rfl⟩
      rw [← heb] at ev HU ⊢
      clear hV heb h1
      have cg := h2.sc.at.c0
      simp only at cg
      by_cases hs3 : sg < 3
      · go_wp2_with fail
        refine (l1Once_any _ _ _ h2.cur).mono ?_
        rintro e w3 ⟨on, rfl, c3, g3⟩
        have h3 := h2.draw c3 g3
        have ev3 := ev.keep g3 (by have := h2.gl; have := h2.sl; have := HU.out.2.1; simp; omega)
        clear h2 ev c3 g3 cg
        cases on
        · go_upto_region 8 with fail
          have hX := h3
          have ev := ev3
          have hEE : EvI ⟨k, gr, o, wi, l, sz, f, t⟩ := hE
          have cI := fun u (hs : ScR B u ⟨sg, lo, ll, lc, co, cl, cc, no, nl, nc, oo, ol, oc⟩ m) => codeIn_any ⟨sg, lo, ll, lc, co, cl, cc, no, nl, nc, oo, ol, oc⟩ m ⟨k, gr, o, wi, l, sz, f, t⟩ u hEE.2.2.1 hs
          simp only at cI
          obtain ⟨R, hR⟩ : ∃ R, R = codeIn m ⟨k, gr, o, wi, l, sz, f, t⟩ := ⟨_, rfl⟩
          have HR : Hid (R = codeIn m ⟨k, gr, o, wi, l, sz, f, t⟩) := hR
          simp only [← hR] at cI
          clear hR
          obtain ⟨s0, s1, s2, s3, s4⟩ := hX.sc.at
          obtain ⟨e0, e1, e2, e3, e4, e5, e6, e7⟩ := ev.at
          simp only at s0 s1 s2 s3 s4 e0 e1 e2 e3 e4 e5 e6 e7
          go_wp2_with fail
          refine (cI _ hX.scr).mono ?_
          rintro y w6 ⟨rfl, f6⟩
          have h6 := hX.fr f6
          have ev6 := ev.keep f6 (by simp)
          clear cI s0 s1 s2 s3 s4 e0 e1 e2 e3 e4 e5 e6 e7 hX ev f6 h3 ev3
          cases hr : (R == 0)
          · go_wp2_with fail
            go_roundw
            case rel => exact ⟨nn - 1, es, _, m, B, by go_num, by omega, by omega, h6⟩
            case measure => simp [intOf]; omega
          · have hz := codeIn_zero (HR.out.symm.trans (beq_iff_eq.1 hr))
            obtain ⟨s0, s1, s2, s3, s4⟩ := h6.sc.at
            obtain ⟨e0, e1, e2, e3, e4, e5, e6, e7⟩ := ev6.at
            simp only at s0 s1 s2 s3 s4 e0 e1 e2 e3 e4 e5 e6 e7
            go_wp2_with fail
            refine (l4Do_any ⟨sg, lo, ll, lc, co, cl, cc, no, nl, nc, oo, ol, oc⟩ m ⟨k, gr, o, wi, l, sz, f, t⟩ _ hz.2 hz.1 (fun b q => (h6.bB b q).1) h6.scr).mono ?_
            rintro y w7 ⟨⟨g', lo1, ll1, lc1, co1, cl1, cc1, no1, nl1, nc1, oo1, ol1, oc1⟩, rfl, hS, f7⟩
            have h8 := h6.scene f7 hS
            have ev7 := (ev6.keep f7 (by simp)).keep (put5 w7 sb (.int .i64 g') (.slice lo1 ll1 lc1) (.slice co1 cl1 cc1) (.slice no1 nl1 nc1) (.slice oo1 ol1 oc1)) (by have := HU.out.2.1; simp; omega)
            obtain ⟨j0, j1, j2, j3, j4⟩ := (h6.sc.fr f7).at
            have jf := fun i => (h6.sc.fr f7).free i
            simp only at h8 j0 j1 j2 j3 j4
            clear s0 s1 s2 s3 s4 e0 e1 e2 e3 e4 e5 e6 e7 h6 ev6 hS f7 hz
            go_upto_region 10 with fail
            clear j0 j1 j2 j3 j4 jf
            obtain ⟨w8, hw8⟩ : ∃ w8, w8 = (((((w7.setCell ⟨sb, 0, none⟩ (.int .i64 g')).setCell ⟨sb, 1, none⟩ (.slice lo1 ll1 lc1)).setCell ⟨sb, 2, none⟩ (.slice co1 cl1 cc1)).setCell ⟨sb, 3, none⟩ (.slice no1 nl1 nc1)).setCell ⟨sb, 4, none⟩ (.slice oo1 ol1 oc1)) := ⟨_, rfl⟩
            rw [← hw8] at h8 ev7 ⊢
            clear hw8
            obtain ⟨e0, e1, e2, e3, e4, e5, e6, e7⟩ := ev7.at
            simp only at e0 e1 e2 e3 e4 e5 e6 e7
            have hsz : w.heap.size ≤ w8.heap.size := h8.gro.size
            have hle : es.length ≤ 100000 := by omega
            go_wp2_with (at_builtin; refine appE _ rfl _ _ rfl w.heap.size u6 es ⟨k, gr, o, wi, l, sz, f, t⟩ rfl (h8.own.fr (Fr.alloc _ _)) _ _ rfl (evC_new w8 ⟨k, gr, o, wi, l, sz, f, t⟩) (by omega) (by simp; omega) ?_; intro v9 w9 hv9 hg9 hat9)
            have h9 := h8.fr (Fr.alloc w8 (.cells #[.int .i64 k, .int .i64 gr, .int .i64 o, .int .i64 wi, .int .i64 l, .int .i64 sz, .int .i64 f, .int .i64 t] 31))
            have hX := h9.app hv9 hg9 hat9
            clear e0 e1 e2 e3 e4 e5 e6 e7 h8 ev7 h9 hv9 hg9 hat9
            go_roundw
            case rel => exact ⟨nn - 1, _, _, _, _, by go_num, by omega, by simp; omega, hX⟩
            case measure => simp [intOf]; omega
        · obtain ⟨a0, a1, a2, a3, a4, a5, a6, a7⟩ := ev3.at
          have af := fun i => ev3.free i
          have cg := h3.sc.at.c0
          simp only at a0 a1 a2 a3 a4 a5 a6 a7 cg
          have hSG : I64 sg := by have := h3.scr.g; have q := h3.scr.ig; simp only at this; rw [this]; exact q
          have k4 := grown_st8 w3 eb (.int .i64 1) (.int .i64 0) (.int .i64 sg) (.int .i64 0) (.int .i64 0) (.int .i64 0) (.int .i64 0) (.int .i64 0)
          have h4 := h3.wrote k4 HU.out.2.1 HU.out.2.2 HU.out.1
          have ev4 := ev3.set8 ⟨1, 0, sg, 0, 0, 0, 0, 0⟩
          simp only at ev4
          clear h3 ev3 k4
          go_upto_region 8 with fail
          clear a0 a1 a2 a3 a4 a5 a6 a7 af cg
          obtain ⟨w5, hw5⟩ : ∃ w5, w5 = ((((((((w3.setCell ⟨eb, 0, none⟩ (.int .i64 1)).setCell ⟨eb, 1, none⟩ (.int .i64 0)).setCell ⟨eb, 2, none⟩ (.int .i64 sg)).setCell ⟨eb, 3, none⟩ (.int .i64 0)).setCell ⟨eb, 4, none⟩ (.int .i64 0)).setCell ⟨eb, 5, none⟩ (.int .i64 0)).setCell ⟨eb, 6, none⟩ (.int .i64 0)).setCell ⟨eb, 7, none⟩ (.int .i64 0)) := ⟨_, rfl⟩
          rw [← hw5] at h4 ev4 ⊢
          clear hw5
          have hZ : I64 0 := ⟨by decide, by decide⟩
          have hX := h4
          have ev := ev4
          have hEE : EvI ⟨1, 0, sg, 0, 0, 0, 0, 0⟩ := ⟨(show I64 1 from ⟨by decide, by decide⟩), hZ, hSG, hZ, hZ, hZ, hZ, hZ⟩
          have cI := fun u (hs : ScR B u ⟨sg, lo, ll, lc, co, cl, cc, no, nl, nc, oo, ol, oc⟩ m) => codeIn_any ⟨sg, lo, ll, lc, co, cl, cc, no, nl, nc, oo, ol, oc⟩ m ⟨1, 0, sg, 0, 0, 0, 0, 0⟩ u hEE.2.2.1 hs
          simp only at cI
          obtain ⟨R, hR⟩ : ∃ R, R = codeIn m ⟨1, 0, sg, 0, 0, 0, 0, 0⟩ := ⟨_, rfl⟩
          have HR : Hid (R = codeIn m ⟨1, 0, sg, 0, 0, 0, 0, 0⟩) := hR
          simp only [← hR] at cI
          clear hR
          obtain ⟨s0, s1, s2, s3, s4⟩ := hX.sc.at
          obtain ⟨e0, e1, e2, e3, e4, e5, e6, e7⟩ := ev.at
          simp only at s0 s1 s2 s3 s4 e0 e1 e2 e3 e4 e5 e6 e7
          go_wp2_with fail
          refine (cI _ hX.scr).mono ?_
          rintro y w6 ⟨rfl, f6⟩
          have h6 := hX.fr f6
          have ev6 := ev.keep f6 (by simp)
          clear cI s0 s1 s2 s3 s4 e0 e1 e2 e3 e4 e5 e6 e7 hX ev f6 h4 ev4
          cases hr : (R == 0)
          · go_wp2_with fail
            go_roundw
            case rel => exact ⟨nn - 1, es, _, m, B, by go_num, by omega, by omega, h6⟩
            case measure => simp [intOf]; omega
          · have hz := codeIn_zero (HR.out.symm.trans (beq_iff_eq.1 hr))
            obtain ⟨s0, s1, s2, s3, s4⟩ := h6.sc.at
            obtain ⟨e0, e1, e2, e3, e4, e5, e6, e7⟩ := ev6.at
            simp only at s0 s1 s2 s3 s4 e0 e1 e2 e3 e4 e5 e6 e7
            go_wp2_with fail
            refine (l4Do_any ⟨sg, lo, ll, lc, co, cl, cc, no, nl, nc, oo, ol, oc⟩ m ⟨1, 0, sg, 0, 0, 0, 0, 0⟩ _ hz.2 hz.1 (fun b q => (h6.bB b q).1) h6.scr).mono ?_
            rintro y w7 ⟨⟨g', lo1, ll1, lc1, co1, cl1, cc1, no1, nl1, nc1, oo1, ol1, oc1⟩, rfl, hS, f7⟩
            have h8 := h6.scene f7 hS
            have ev7 := (ev6.keep f7 (by simp)).keep (put5 w7 sb (.int .i64 g') (.slice lo1 ll1 lc1) (.slice co1 cl1 cc1) (.slice no1 nl1 nc1) (.slice oo1 ol1 oc1)) (by have := HU.out.2.1; simp; omega)
            obtain ⟨j0, j1, j2, j3, j4⟩ := (h6.sc.fr f7).at
            have jf := fun i => (h6.sc.fr f7).free i
            simp only at h8 j0 j1 j2 j3 j4
            clear s0 s1 s2 s3 s4 e0 e1 e2 e3 e4 e5 e6 e7 h6 ev6 hS f7 hz
            go_upto_region 10 with fail
            clear j0 j1 j2 j3 j4 jf
            obtain ⟨w8, hw8⟩ : ∃ w8, w8 = (((((w7.setCell ⟨sb, 0, none⟩ (.int .i64 g')).setCell ⟨sb, 1, none⟩ (.slice lo1 ll1 lc1)).setCell ⟨sb, 2, none⟩ (.slice co1 cl1 cc1)).setCell ⟨sb, 3, none⟩ (.slice no1 nl1 nc1)).setCell ⟨sb, 4, none⟩ (.slice oo1 ol1 oc1)) := ⟨_, rfl⟩
            rw [← hw8] at h8 ev7 ⊢
            clear hw8
            obtain ⟨e0, e1, e2, e3, e4, e5, e6, e7⟩ := ev7.at
            simp only at e0 e1 e2 e3 e4 e5 e6 e7
            have hsz : w.heap.size ≤ w8.heap.size := h8.gro.size
            have hle : es.length ≤ 100000 := by omega
            go_wp2_with (at_builtin; refine appE _ rfl _ _ rfl w.heap.size u6 es ⟨1, 0, sg, 0, 0, 0, 0, 0⟩ rfl (h8.own.fr (Fr.alloc _ _)) _ _ rfl (evC_new w8 ⟨1, 0, sg, 0, 0, 0, 0, 0⟩) (by omega) (by simp; omega) ?_; intro v9 w9 hv9 hg9 hat9)
            have h9 := h8.fr (Fr.alloc w8 (.cells #[.int .i64 1, .int .i64 0, .int .i64 sg, .int .i64 0, .int .i64 0, .int .i64 0, .int .i64 0, .int .i64 0] 31))
            have hX := h9.app hv9 hg9 hat9
            clear e0 e1 e2 e3 e4 e5 e6 e7 h8 ev7 h9 hv9 hg9 hat9
            go_roundw
            case rel => exact ⟨nn - 1, _, _, _, _, by go_num, by omega, by simp; omega, hX⟩
            case measure => simp [intOf]; omega
      · have hd : decide (sg < 3) = false := decide_eq_false hs3
        have hs4 : 3 ≤ sg := by omega
        go_upto_region 8 with fail
        have hX := h2
        have hEE : EvI ⟨k, gr, o, wi, l, sz, f, t⟩ := hE
        have cI := fun u (hs : ScR B u ⟨sg, lo, ll, lc, co, cl, cc, no, nl, nc, oo, ol, oc⟩ m) => codeIn_any ⟨sg, lo, ll, lc, co, cl, cc, no, nl, nc, oo, ol, oc⟩ m ⟨k, gr, o, wi, l, sz, f, t⟩ u hEE.2.2.1 hs
        simp only at cI
        obtain ⟨R, hR⟩ : ∃ R, R = codeIn m ⟨k, gr, o, wi, l, sz, f, t⟩ := ⟨_, rfl⟩
        have HR : Hid (R = codeIn m ⟨k, gr, o, wi, l, sz, f, t⟩) := hR
        simp only [← hR] at cI
        clear hR
        obtain ⟨s0, s1, s2, s3, s4⟩ := hX.sc.at
        obtain ⟨e0, e1, e2, e3, e4, e5, e6, e7⟩ := ev.at
        simp only at s0 s1 s2 s3 s4 e0 e1 e2 e3 e4 e5 e6 e7
        go_wp2_with fail
        refine (cI _ hX.scr).mono ?_
        rintro y w6 ⟨rfl, f6⟩
        have h6 := hX.fr f6
        have ev6 := ev.keep f6 (by simp)
        clear cI s0 s1 s2 s3 s4 e0 e1 e2 e3 e4 e5 e6 e7 hX ev f6 h2 cg
        cases hr : (R == 0)
        · go_wp2_with fail
          go_roundw
          case rel => exact ⟨nn - 1, es, _, m, B, by go_num, by omega, by omega, h6⟩
          case measure => simp [intOf]; omega
        · have hz := codeIn_zero (HR.out.symm.trans (beq_iff_eq.1 hr))
          obtain ⟨s0, s1, s2, s3, s4⟩ := h6.sc.at
          obtain ⟨e0, e1, e2, e3, e4, e5, e6, e7⟩ := ev6.at
          simp only at s0 s1 s2 s3 s4 e0 e1 e2 e3 e4 e5 e6 e7
          go_wp2_with fail
          refine (l4Do_any ⟨sg, lo, ll, lc, co, cl, cc, no, nl, nc, oo, ol, oc⟩ m ⟨k, gr, o, wi, l, sz, f, t⟩ _ hz.2 hz.1 (fun b q => (h6.bB b q).1) h6.scr).mono ?_
          rintro y w7 ⟨⟨g', lo1, ll1, lc1, co1, cl1, cc1, no1, nl1, nc1, oo1, ol1, oc1⟩, rfl, hS, f7⟩
          have h8 := h6.scene f7 hS
          have ev7 := (ev6.keep f7 (by simp)).keep (put5 w7 sb (.int .i64 g') (.slice lo1 ll1 lc1) (.slice co1 cl1 cc1) (.slice no1 nl1 nc1) (.slice oo1 ol1 oc1)) (by have := HU.out.2.1; simp; omega)
          obtain ⟨j0, j1, j2, j3, j4⟩ := (h6.sc.fr f7).at
          have jf := fun i => (h6.sc.fr f7).free i
          simp only at h8 j0 j1 j2 j3 j4
          clear s0 s1 s2 s3 s4 e0 e1 e2 e3 e4 e5 e6 e7 h6 ev6 hS f7 hz
          go_upto_region 10 with fail
          clear j0 j1 j2 j3 j4 jf
          obtain ⟨w8, hw8⟩ : ∃ w8, w8 = (((((w7.setCell ⟨sb, 0, none⟩ (.int .i64 g')).setCell ⟨sb, 1, none⟩ (.slice lo1 ll1 lc1)).setCell ⟨sb, 2, none⟩ (.slice co1 cl1 cc1)).setCell ⟨sb, 3, none⟩ (.slice no1 nl1 nc1)).setCell ⟨sb, 4, none⟩ (.slice oo1 ol1 oc1)) := ⟨_, rfl⟩
          rw [← hw8] at h8 ev7 ⊢
          clear hw8
          obtain ⟨e0, e1, e2, e3, e4, e5, e6, e7⟩ := ev7.at
          simp only at e0 e1 e2 e3 e4 e5 e6 e7
          have hsz : w.heap.size ≤ w8.heap.size := h8.gro.size
          have hle : es.length ≤ 100000 := by omega
          go_wp2_with (at_builtin; refine appE _ rfl _ _ rfl w.heap.size u6 es ⟨k, gr, o, wi, l, sz, f, t⟩ rfl (h8.own.fr (Fr.alloc _ _)) _ _ rfl (evC_new w8 ⟨k, gr, o, wi, l, sz, f, t⟩) (by omega) (by simp; omega) ?_; intro v9 w9 hv9 hg9 hat9)
          have h9 := h8.fr (Fr.alloc w8 (.cells #[.int .i64 k, .int .i64 gr, .int .i64 o, .int .i64 wi, .int .i64 l, .int .i64 sz, .int .i64 f, .int .i64 t] 31))
          have hX := h9.app hv9 hg9 hat9
          clear e0 e1 e2 e3 e4 e5 e6 e7 h8 ev7 h9 hv9 hg9 hat9
          go_roundw
          case rel => exact ⟨nn - 1, _, _, _, _, by go_num, by omega, by simp; omega, hX⟩
          case measure => simp [intOf]; omega
    · have hpos' : nn ≤ 0 := by omega
      go_wp2_with fail
      go_ret
      exact ⟨_, rfl, es, hX.own, by omega, hX.cur, hX.gro⟩
end Go.Proofs.YtihdablgnmkjnaaGreatDoor
/-
  The drawing of traces and of lists to be encoded: l5Draw, DrawEncoded.
-/
namespace Go.Proofs.YtihdablgnmkjnaaGreatDoor
open Go.RowKit

/-- The cursor's first cell. -/
theorem Cur.c0 {w : World} {g : Nat} (h : Cur w g) : ∃ ao n cap, w.cell? ⟨g, 0, none⟩ = some (.slice ao n cap) ∧ n ≤ 4294967296 := by
  obtain ⟨ao, n, cap, i, hh, hg, hin, hn, hb⟩ := h
  exact ⟨ao, n, cap, by rw [cell_of_row _ _ _ _ _ _ hg]; rfl, hn⟩

set_option maxRecDepth 20000 in
set_option maxHeartbeats 2000000 in
theorem l5Draw_any (g : Nat) (w : World) (hc : Cur w g) :
    Calls Tryz.prog 168 #[.pointer (some ⟨g, 0, none⟩)] w fun x w' => ∃ v : Value, x = .returned v ∧ ∃ es : List Ev, OwnE w' w.heap.size v es ∧ es.length ≤ 58 ∧ Cur w' g ∧ w.grownBy w' (some g) := by
  obtain ⟨ao, n, cap, hn, hnl⟩ := hc.c0
  go_enter Tryz.func168, Tryz.ntmps168
  go_wp2_with fail
  go_region_with (first
    | (go_at_call 150; refine (l1Below_any g _ _ (hc.fr (Fr.drew w))).mono ?_; rintro e w1 ⟨x, rfl, x0, x1, x2, c1, g1⟩; have x3 : x < 50 := x1 (by omega); have hw : IntKind.i64.wrap (8 + x) = 8 + x := (by rw [IntKind.wrap_i64]; omega); obtain ⟨ao1, n1, cap1, hn1, hnl1⟩ := c1.c0)
    | (go_at_call 153; refine (l1Min_any _ _ _).mono ?_; rintro e w2 ⟨rfl, rfl⟩)
    | (go_at_call 177; refine (l5Grow_any g _ _ c1 (by first | omega | (rw [hw]; omega))).mono ?_; rintro e w3 ⟨v, rfl, es, o3, l3, c3, g3⟩))
  all_goals (
    have hsz : w.heap.size ≤ w2.heap.size := g1.size
    go_wp2_with fail
    go_ret
    exact ⟨_, rfl, es, o3.lower hsz, by omega, c3, grown_trans (Fr.drew w).wide (grown_trans g1 g3)⟩)
end Go.Proofs.YtihdablgnmkjnaaGreatDoor
/-
  The walks of the laws' markEventS (it writes q, q + 1, .. into a list of events) and heldEventS (are these still there?).
-/
namespace Go.Proofs.YtihdablgnmkjnaaGreatDoor
open Go.RowKit

/-- An event of eight numbers in a row. -/
def upE (c : Int) : Ev := ⟨c, c + 1, c + 1 + 1, c + 1 + 1 + 1, c + 1 + 1 + 1 + 1, c + 1 + 1 + 1 + 1 + 1, c + 1 + 1 + 1 + 1 + 1 + 1, c + 1 + 1 + 1 + 1 + 1 + 1 + 1⟩
def upsE (q : Int) (n : Nat) : List Ev := (List.range n).map fun j : Nat => upE (q + 8 * (j : Int))
theorem upsE_length (q : Int) (n : Nat) : (upsE q n).length = n := by simp [upsE]
theorem upsE_succ (q : Int) (n : Nat) : upsE q (n + 1) = upsE q n ++ [upE (q + 8 * (n : Int))] := by simp [upsE, List.range_succ]
theorem upsE_at (q : Int) (n j : Nat) (h : j < (upsE q n).length) : (upsE q n)[j] = upE (q + 8 * (j : Int)) := by simp [upsE]

/-- One event more is marked. -/
theorem marked_step (D : List Ev) (M : List Value) (k n : Nat) (hD : D.length = k) (hk : k < n) (hM : M.length = n * 8) (e : Ev) :
    ((((((((D.flatMap evCells ++ M.drop (k * 8)).set (k * 8) (.int .i64 e.k)).set (k * 8 + 1) (.int .i64 e.g)).set (k * 8 + 2) (.int .i64 e.o)).set (k * 8 + 3) (.int .i64 e.w)).set (k * 8 + 4) (.int .i64 e.l)).set (k * 8 + 5) (.int .i64 e.s)).set (k * 8 + 6) (.int .i64 e.f)).set (k * 8 + 7) (.int .i64 e.t)
      = (D ++ [e]).flatMap evCells ++ M.drop ((k + 1) * 8) := by
  obtain ⟨m0, m1, m2, m3, m4, m5, m6, m7, hd⟩ := drop8 M (k * 8) (by omega)
  have hl : (D.flatMap evCells).length = k * 8 := by rw [cells_len, hD]
  rw [hd, set8 _ _ _ _ _ _ _ _ _ _ _ _ _ _ _ _ _ _ _ hl, show (k + 1) * 8 = k * 8 + 8 by omega, List.flatMap_append]
  simp [evCells]

set_option maxHeartbeats 2000000 in
theorem markEs_any (g n cap base : Nat) (q : Int) (es : List Ev) (w : World) (hn : es.length = n) (q0 : 0 ≤ q) (q1 : q ≤ 4294967296) (h : w.ownsRow base 31 8 (.slice (some ⟨g, 0, none⟩) n cap) n (es.flatMap evCells)) (hl : n ≤ 16777216) :
    Calls Tryz.prog 35 #[.slice (some ⟨g, 0, none⟩) n cap, .int .i64 q] w fun e w' => e = .returned (.int .i64 (q + 8 * (n : Int))) ∧ w'.ownsRow base 31 8 (.slice (some ⟨g, 0, none⟩) n cap) n ((upsE q n).flatMap evCells) ∧ w.grownBy w' (some g) := by
  obtain ⟨M, hM⟩ : ∃ M, M = es.flatMap evCells := ⟨_, rfl⟩
  have hMl : M.length = n * 8 := by rw [hM, cells_len, hn]
  rw [← hM] at h
  clear hM hn
  go_enter Tryz.func35, Tryz.ntmps35
  go_wp2_with fail
  go_loopw [1, 5] (fun c i wr => ∃ k : Nat, k ≤ n ∧ i = .int .i64 k ∧ c = .int .i64 (q + 8 * (k : Int)) ∧ wr.ownsRow base 31 8 (.slice (some ⟨g, 0, none⟩) n cap) n ((upsE q k).flatMap evCells ++ M.drop (k * 8)) ∧ w.grownBy wr (some g)) (fun _ i _ => n - (intOf i).toNat)
  case atStart => exact ⟨0, Nat.zero_le _, rfl, by simp, by simpa [upsE] using h, ⟨rfl, rfl, rfl, Nat.le_refl _, fun _ _ _ => rfl⟩⟩
  case round =>
    obtain ⟨k, hk, rfl, rfl, ho, hf⟩ := hrel
    by_cases hlt : k < n
    · have hll : ((upsE q k).flatMap evCells ++ M.drop (k * 8)).length = n * 8 := ho.1
      have hat : ∀ i, i < 8 → ∃ u, wr.cell? ⟨g, k * 8 + i, none⟩ = some u := fun i hi => by
        rw [ho.cellAt (k * 8 + i) (by omega)]
        exact ⟨_, List.getElem?_eq_getElem (by omega)⟩
      obtain ⟨p0, d0⟩ := hat 0 (by omega)
      obtain ⟨p1, d1⟩ := hat 1 (by omega)
      obtain ⟨p2, d2⟩ := hat 2 (by omega)
      obtain ⟨p3, d3⟩ := hat 3 (by omega)
      obtain ⟨p4, d4⟩ := hat 4 (by omega)
      obtain ⟨p5, d5⟩ := hat 5 (by omega)
      obtain ⟨p6, d6⟩ := hat 6 (by omega)
      obtain ⟨p7, d7⟩ := hat 7 (by omega)
      rw [Nat.add_zero] at d0
      have z0 := ho.frozenAt (k * 8)
      have z1 := ho.frozenAt (k * 8 + 1)
      have z2 := ho.frozenAt (k * 8 + 2)
      have z3 := ho.frozenAt (k * 8 + 3)
      have z4 := ho.frozenAt (k * 8 + 4)
      have z5 := ho.frozenAt (k * 8 + 5)
      have z6 := ho.frozenAt (k * 8 + 6)
      have z7 := ho.frozenAt (k * 8 + 7)
      have hst := own8 ho (k * 8) (.int .i64 (upE (q + 8 * (k : Int))).k) (.int .i64 (upE (q + 8 * (k : Int))).g) (.int .i64 (upE (q + 8 * (k : Int))).o) (.int .i64 (upE (q + 8 * (k : Int))).w) (.int .i64 (upE (q + 8 * (k : Int))).l) (.int .i64 (upE (q + 8 * (k : Int))).s) (.int .i64 (upE (q + 8 * (k : Int))).f) (.int .i64 (upE (q + 8 * (k : Int))).t)
      rw [marked_step (upsE q k) M k n (upsE_length q k) hlt hMl, ← upsE_succ] at hst
      simp only [upE] at hst
      clear hat hll ho h
      go_wp2_with fail
      refine ⟨⟨k + 1, by omega, by go_num, ?_, hst.1, grown_tr hf hst.2⟩, ?_⟩
      · congr 1; push_cast; omega
      · simp only [intOf]; omega
    · have ek : k = n := by omega
      have hd : M.drop (k * 8) = [] := List.drop_eq_nil_of_le (by rw [hMl, ek]; omega)
      rw [hd, List.append_nil, ek] at ho
      have HK : Hid (k = n) := ek
      clear ek hd
      go_wp2_with fail
      go_ret
      refine ⟨?_, ho, hf⟩
      have := HK.out
      exact ret_int (by omega)

end Go.Proofs.YtihdablgnmkjnaaGreatDoor
/-
  The drawing of traces that may go wrong: l5DrawAny, DrawLegalLen.
-/
namespace Go.Proofs.YtihdablgnmkjnaaGreatDoor
open Go.RowKit

theorem cells_drop : ∀ (es : List Ev) (k : Nat), (es.flatMap evCells).drop (k * 8) = (es.drop k).flatMap evCells
  | _, 0 => by simp
  | [], k + 1 => by simp
  | e :: es, k + 1 => by
    rw [List.flatMap_cons, List.drop_succ_cons, ← cells_drop es k, List.drop_append, List.drop_of_length_le (by simp [evCells]; omega)]
    rw [show (evCells e).length = 8 from rfl, show (k + 1) * 8 - 8 = k * 8 by omega]
    simp
/-- One event put in another's place. -/
theorem OwnE.put {w : World} {base g n cap : Nat} {es : List Ev} (h : w.ownsRow base 31 8 (.slice (some ⟨g, 0, none⟩) n cap) n (es.flatMap evCells)) (hl : es.length ≤ 16777216) (hn : n = es.length) (k : Nat) (hk : k < es.length) (e : Ev) :
    OwnE ((((((((w.setCell ⟨g, k * 8, none⟩ (.int .i64 e.k)).setCell ⟨g, k * 8 + 1, none⟩ (.int .i64 e.g)).setCell ⟨g, k * 8 + 2, none⟩ (.int .i64 e.o)).setCell ⟨g, k * 8 + 3, none⟩ (.int .i64 e.w)).setCell ⟨g, k * 8 + 4, none⟩ (.int .i64 e.l)).setCell ⟨g, k * 8 + 5, none⟩ (.int .i64 e.s)).setCell ⟨g, k * 8 + 6, none⟩ (.int .i64 e.f)).setCell ⟨g, k * 8 + 7, none⟩ (.int .i64 e.t)) base (.slice (some ⟨g, 0, none⟩) n cap) (es.take k ++ [e] ++ es.drop (k + 1)) ∧
    w.grownBy ((((((((w.setCell ⟨g, k * 8, none⟩ (.int .i64 e.k)).setCell ⟨g, k * 8 + 1, none⟩ (.int .i64 e.g)).setCell ⟨g, k * 8 + 2, none⟩ (.int .i64 e.o)).setCell ⟨g, k * 8 + 3, none⟩ (.int .i64 e.w)).setCell ⟨g, k * 8 + 4, none⟩ (.int .i64 e.l)).setCell ⟨g, k * 8 + 5, none⟩ (.int .i64 e.s)).setCell ⟨g, k * 8 + 6, none⟩ (.int .i64 e.f)).setCell ⟨g, k * 8 + 7, none⟩ (.int .i64 e.t)) (some g) := by
  have e0 : es.flatMap evCells = (es.take k).flatMap evCells ++ (es.flatMap evCells).drop (k * 8) := by
    rw [cells_drop, ← List.flatMap_append, List.take_append_drop]
  have hst := own8 h (k * 8) (.int .i64 e.k) (.int .i64 e.g) (.int .i64 e.o) (.int .i64 e.w) (.int .i64 e.l) (.int .i64 e.s) (.int .i64 e.f) (.int .i64 e.t)
  have e1 := marked_step (es.take k) (es.flatMap evCells) k es.length (by simp; omega) hk (cells_len es) e
  rw [← e0, cells_drop, ← List.flatMap_append] at e1
  rw [e1] at hst
  have hlen : (es.take k ++ [e] ++ es.drop (k + 1)).length = es.length := by simp; omega
  refine ⟨⟨g, cap, by rw [hlen, hn], ?_, by rw [hlen]; exact hl⟩, hst.2⟩
  rw [hlen, ← hn]
  exact hst.1

/-- A first part of a slice of events. -/
theorem ReadsE.take {w : World} {ao : Option Addr} {es : List Ev} (h : ReadsE w ao es) (k : Nat) : ReadsE w ao (es.take k) := by
  refine ⟨by have := h.len; simp; omega, fun i hi => ?_⟩
  obtain ⟨b, off, e, hc⟩ := h.at_ i (by simp at hi; omega)
  refine ⟨b, off, e, fun j hj => ?_⟩
  rw [List.getElem_take]
  exact hc j (by simp at hj; omega)
end Go.Proofs.YtihdablgnmkjnaaGreatDoor
/-
  TouchesOf, the specification's and the program's.
-/
namespace Go.Proofs.YtihdablgnmkjnaaGreatDoor
open Go.RowKit

theorem touJ_no {es : List Ev} {j : Int} (h : ¬ (0 ≤ j ∧ j < legLen es ∧ j.toNat < es.length)) : touJ es j = [] := by
  unfold touJ
  rw [dif_neg h]
theorem touJ_yes {es : List Ev} {j : Int} (h : 0 ≤ j ∧ j < legLen es ∧ j.toNat < es.length) : touJ es j = tchL (es[j.toNat]'h.2.2) (slotE (es.take j.toNat) (es[j.toNat]'h.2.2)) := by
  unfold touJ
  rw [dif_pos h]
theorem legLen_le (es : List Ev) : legLen es ≤ es.length := by
  unfold legLen
  split
  · omega
  · have := leg_len es scn0
    omega
/-- An event of the legal part can be done behind what is ahead of it. -/
theorem leg_at {es : List Ev} {k : Nat} (hk : k < es.length) (h : (k : Int) < legLen es) : (legS scn0 (es.take k)).2.2 = 0 ∧ codeIn (legS scn0 (es.take k)).1 es[k] = 0 ∧ es.length ≤ 300 := by
  unfold legLen at h
  split at h
  · omega
  · have h1 := leg_part es scn0 k (by omega)
    exact ⟨h1.2.1, h1.2.2 hk (by omega), by omega⟩
theorem code_kind {m : Scn} {e : Ev} (hc : codeIn m e = 0) : 1 ≤ e.k ∧ e.k ≤ 22 := by
  have h1 := (code_parts hc).1
  simp only [evOk, Bool.and_eq_true] at h1
  simpa [inB] using h1.1.1.1.1.1.1.1

set_option maxHeartbeats 1000000 in
theorem specTouches_any (ao : Option Addr) (n c : Nat) (es : List Ev) (w : World) (hn : es.length = n) (h : ReadsE w ao es) (j : Int) :
    Calls Tryz.prog 21 #[.slice ao n c, .int .i64 j] w fun x w' => ∃ v, x = .returned v ∧ OwnG layT w' w.heap.size v (touJ es j) ∧ Fr w w' := by
  have cL := specLen_any ao n c es w hn h
  have hle := legLen_le es
  have hlen := h.len
  have hlo : -1 ≤ legLen es := by
    unfold legLen
    split
    · omega
    · omega
  obtain ⟨Z, hZ⟩ : ∃ Z, Z = legLen es := ⟨_, rfl⟩
  rw [← hZ] at cL hle hlo
  have hwz : IntKind.i64.wrap (Z - 1) = Z - 1 := by rw [IntKind.wrap_i64]; omega
  have cI := fun u => l1In_any j 0 (Z - 1) u
  cases hb : inB 0 (Z - 1) j
  · have e1 : touJ es j = [] := touJ_no (by
      rintro ⟨q1, q2, q3⟩
      rw [← hZ] at q2
      have : inB 0 (Z - 1) j = true := by simp [inB]; omega
      rw [hb] at this
      cases this)
    rw [e1]
    simp only [hb] at cI
    clear hZ hb e1
    go_enter Tryz.func21, Tryz.ntmps21
    go_wp2_with fail
    refine (cL).mono ?_
    rintro e u1 ⟨rfl, f1⟩
    go_wp2_with fail
    refine (cI _).mono ?_
    rintro e u2 ⟨rfl, rfl⟩
    go_wp2_with fail
    go_ret
    have s1 := f1.size
    refine ⟨.slice (some ⟨u2.heap.size, 0, none⟩) 0 0, rfl, ?_, f1.trans (Fr.alloc _ _)⟩
    exact ownG_litK layT _ [] (by simp) _ rfl _ _ rfl s1
  · have hj : 0 ≤ j ∧ j < Z := by simp [inB] at hb; omega
    obtain ⟨J, rfl⟩ : ∃ J : Nat, j = J := ⟨j.toNat, by omega⟩
    have hJ : J < es.length := by omega
    obtain ⟨l1, l2, l3⟩ := leg_at hJ (by omega)
    have e1 : touJ es J = tchL es[J] (slotE (es.take J) es[J]) := by
      have := touJ_yes (es := es) (j := (J : Int)) ⟨hj.1, by omega, by simpa using hJ⟩
      simpa using this
    rw [e1]
    have hch := ChAt.leg (es.take J) [] scn0 ChAt.nil l1
    simp only [List.nil_append] at hch
    have cT := fun u (f : Fr w u) => l6Touches_any ao n c es u hn (h.fr f) J hJ (code_kind l2) (fun q => (slot_same hch l2 q).2)
    obtain ⟨T, hT⟩ : ∃ T, T = tchL es[J] (slotE (es.take J) es[J]) := ⟨_, rfl⟩
    simp only [← hT] at cT ⊢
    simp only [hb] at cI
    clear hZ hb e1 hT l1 l2 l3 hch hj h
    go_enter Tryz.func21, Tryz.ntmps21
    go_wp2_with fail
    refine (cL).mono ?_
    rintro e u1 ⟨rfl, f1⟩
    go_wp2_with fail
    refine (cI _).mono ?_
    rintro e u2 ⟨rfl, rfl⟩
    go_wp2_with fail
    refine (cT _ f1).mono ?_
    rintro e u3 ⟨v3, rfl, o3, f3⟩
    go_wp2_with fail
    go_ret
    have s1 := f1.size
    exact ⟨v3, rfl, o3.lower s1, f1.trans f3⟩

set_option maxRecDepth 20000 in
set_option maxHeartbeats 2000000 in
theorem implTouches_any (ao : Option Addr) (n c : Nat) (es : List Ev) (w : World) (hn : es.length = n) (hnc : n ≤ c) (h : ReadsE w ao es) (j : Int) (hs : Shapes w) (hab : ∀ k, blk ao = some k → k < w.heap.size) :
    Calls Tryz.prog 20 #[.slice ao n c, .int .i64 j] w fun x w' => ∃ v, x = .returned v ∧ OwnG layT w' w.heap.size v (touJ es j) ∧ Fr w w' := by
  have cT := fun u => isTrace_any ao n c u
  have hlen := h.len
  by_cases hb : es.length ≤ 300
  · have e2 : decide ((n : Int) ≤ 300) = true := by simp; omega
    simp only [e2] at cT
    have hwz : IntKind.i64.wrap ((n : Int) - 1) = (n : Int) - 1 := by rw [IntKind.wrap_i64]; omega
    have cI := fun u => within_any j 0 ((n : Int) - 1) u
    cases hb2 : inB 0 ((n : Int) - 1) j
    · have e1 : touJ es j = [] := touJ_no (by
        rintro ⟨q1, q2, q3⟩
        have : inB 0 ((n : Int) - 1) j = true := by simp [inB]; omega
        rw [hb2] at this
        cases this)
      rw [e1]
      simp only [hb2] at cI
      clear e1 e2 hb2 h hs hab
      go_enter Tryz.func20, Tryz.ntmps20
      go_wp2_with fail
      refine (cT _).mono ?_
      rintro e u0 ⟨rfl, rfl⟩
      go_wp2_with fail
      refine (cI _).mono ?_
      rintro e u2 ⟨rfl, rfl⟩
      go_wp2_with fail
      go_ret
      refine ⟨.slice (some ⟨u2.heap.size, 0, none⟩) 0 0, rfl, ?_, Fr.alloc _ _⟩
      exact ownG_litK layT _ [] (by simp) _ rfl _ _ rfl (Nat.le_refl _)
    · have hj : 0 ≤ j ∧ j < n := by simp [inB] at hb2; omega
      obtain ⟨J, rfl⟩ : ∃ J : Nat, j = J := ⟨j.toNat, by omega⟩
      have hJ : J < es.length := by omega
      simp only [hb2] at cI
      have hlt : (es.take J).length = J := by simp; omega
      have cP := fun c' => legalPartOf_any ao J c' (es.take J) w hlt (h.take J) (by omega) hs hab
      have hch := fun q => ChAt.leg (es.take J) [] scn0 ChAt.nil q
      have hbd : scB (legS scn0 (es.take J)).1 = true := leg_ok _ _ (by decide)
      obtain ⟨eb, off, rfl, hev⟩ := h.at_ J hJ
      have ev := hev J hJ
      have HN : Hid (¬ ((legS scn0 (es.take J)).2.2 = 0 ∧ codeIn (legS scn0 (es.take J)).1 es[J] = 0) → touJ es J = []) := fun q => touJ_no (fun q2 => q (by
        have := leg_at hJ (by have := q2.2.1; omega)
        exact ⟨this.1, this.2.1⟩))
      have HY : Hid ((legS scn0 (es.take J)).2.2 = 0 → codeIn (legS scn0 (es.take J)).1 es[J] = 0 → touJ es J = tchL es[J] (slotC (legS scn0 (es.take J)).1 es[J])) := fun q1 q2 => by
        have hm := leg_more es scn0 J hJ q1 q2
        have hll : (J : Int) < legLen es := by
          unfold legLen
          rw [if_neg (by omega)]
          omega
        have e3 := touJ_yes (es := es) (j := (J : Int)) ⟨hj.1, hll, by simpa using hJ⟩
        simp only [Int.toNat_natCast] at e3
        have h4 := hch q1
        simp only [List.nil_append] at h4
        rw [e3, tch_same h4 q2]
      clear hch hev
      obtain ⟨z, hz⟩ : ∃ z : Int, z = (legS scn0 (es.take J)).2.1 := ⟨_, rfl⟩
      obtain ⟨q, hq⟩ : ∃ z : Int, z = (legS scn0 (es.take J)).2.2 := ⟨_, rfl⟩
      obtain ⟨M, hM⟩ : ∃ z, z = (legS scn0 (es.take J)).1 := ⟨_, rfl⟩
      simp only [← hz, ← hq, ← hM] at cP hbd HN HY
      clear hz hq hM
      obtain ⟨T, hT⟩ : ∃ T, T = touJ es J := ⟨_, rfl⟩
      rw [← hT] at HN HY ⊢
      clear hT
      obtain ⟨e, he⟩ : ∃ e, e = es[J] := ⟨_, rfl⟩
      rw [← he] at ev HN HY
      clear he
      obtain ⟨C, hC⟩ : ∃ C, C = codeIn M e := ⟨_, rfl⟩
      have HC : Hid (C = codeIn M e) := hC
      rw [← hC] at HN HY
      have hCeq := hC
      clear hC
      have hebl : eb < w.heap.size := World.block_lt_of_cell? w _ ev.c0
      have hjn : (J : Int) < n := by omega
      have hjc : (J : Int) ≤ c := by omega
      have hjc2 : J ≤ c := by omega
      clear hb hb2 e2 hlen h hlt
      go_enter Tryz.func20, Tryz.ntmps20
      go_wp2_with fail
      refine (cT _).mono ?_
      rintro e u0 ⟨rfl, rfl⟩
      go_wp2_with fail
      refine (cI _).mono ?_
      rintro e u2 ⟨rfl, rfl⟩
      go_wp2_with fail
      refine (cP _).mono ?_
      rintro e u1 ⟨lo, b, b1, b2, b3, b4, rfl, Bd, hb1, f1⟩
      have fA := Fr.alloc u1 (.cells #[.int .i64 z, .int .i64 q, .pointer (some ⟨b, 0, none⟩)] 101)
      have hP : PartAt (u1.alloc (.cells #[.int .i64 z, .int .i64 q, .pointer (some ⟨b, 0, none⟩)] 101)) u1.heap.size z q b := heap_alloc_new u1 _
      clear cP cI cT
      have hs1 := hs.fr (f1.trans fA)
      have F1 := f1.trans fA
      have ev1 := ev.keep F1 (by simp)
      have Bd1 := (Bd.fr fA).toM
      have sF := F1.size
      clear hs ev Bd
      go_wp2_with fail
      obtain ⟨V, hV⟩ : ∃ V, V = u1.alloc (.cells #[.int .i64 z, .int .i64 q, .pointer (some ⟨b, 0, none⟩)] 101) := ⟨_, rfl⟩
      rw [← hV] at fA hP F1 hs1 ev1 Bd1 sF ⊢
      obtain ⟨pb, hpb⟩ : ∃ pb, pb = u1.heap.size := ⟨_, rfl⟩
      rw [← hpb] at hP ⊢
      clear hV hpb f1 fA
      have cC := fun u (f : Fr V u) => codeM_all e u (Bd1.fr f) hbd (hs1.fr f)
      simp only [← hCeq] at cC
      have cU := fun (qc : C = 0) u (f : Fr V u) => touches_any e u (Bd1.fr f) (hCeq ▸ qc)
      obtain ⟨ek, eg, ej, ew, el, ez, ef, et⟩ := e
      simp only at cC cU
      have HQ : Hid (∀ u, Fr V u → (u.cell? ⟨pb, 1, none⟩ = some (.int .i64 q) ∧ u.cell? ⟨pb, 2, none⟩ = some (.pointer (some ⟨b, 0, none⟩))) ∧ EvC u eb (off + J * 8) ⟨ek, eg, ej, ew, el, ez, ef, et⟩) := fun u f => ⟨⟨f.cell (cell_of_row V pb 1 _ _ _ hP), f.cell (cell_of_row V pb 2 _ _ _ hP)⟩, ev1.keep f (by simp)⟩
      clear hCeq HC hP ev1 Bd1 hs1 hbd
      obtain ⟨⟨p1, p2⟩, c0, c1, c2, c3, c4, c5, c6, c7⟩ := HQ.out V (Fr.refl V)
      simp only at c0 c1 c2 c3 c4 c5 c6 c7
      by_cases hq0 : q = 0
      · have hqb : (q != 0) = false := by simp [hq0]
        go_region_held3 (fun u => (u.cell? ⟨pb, 1, none⟩ = some (.int .i64 q) ∧ u.cell? ⟨pb, 2, none⟩ = some (.pointer (some ⟨b, 0, none⟩))) ∧ u.cell? ⟨eb, off + J * 8, none⟩ = some (.int .i64 ek) ∧ u.cell? ⟨eb, off + J * 8 + 1, none⟩ = some (.int .i64 eg) ∧ u.cell? ⟨eb, off + J * 8 + 2, none⟩ = some (.int .i64 ej) ∧ u.cell? ⟨eb, off + J * 8 + 3, none⟩ = some (.int .i64 ew) ∧ u.cell? ⟨eb, off + J * 8 + 4, none⟩ = some (.int .i64 el) ∧ u.cell? ⟨eb, off + J * 8 + 5, none⟩ = some (.int .i64 ez) ∧ u.cell? ⟨eb, off + J * 8 + 6, none⟩ = some (.int .i64 ef) ∧ u.cell? ⟨eb, off + J * 8 + 7, none⟩ = some (.int .i64 et)) (go_keep)
          (first | (go_at_call 48; refine (cC _ (Fr.drew V)).mono ?_; rintro x u3 ⟨rfl, f3⟩; have g3 := (Fr.drew V).trans f3; obtain ⟨⟨r1, r2⟩, d0, d1, d2, d3, d4, d5, d6, d7⟩ := HQ.out _ g3; simp only at d0 d1 d2 d3 d4 d5 d6 d7))
        all_goals
          clear p1 p2 c0 c1 c2 c3 c4 c5 c6 c7
          by_cases hC0 : C = 0
          · have hCb : (C != 0) = false := by simp [hC0]
            have cU := cU hC0
            have HT : Hid (T = _) := HY.out hq0 hC0
            clear hC0 hq0 HN HY
            obtain ⟨⟨p1, p2⟩, c0, c1, c2, c3, c4, c5, c6, c7⟩ := HQ.out _ g3
            simp only at c0 c1 c2 c3 c4 c5 c6 c7
            go_wp2_with fail
            go_region_held3 (fun u => (u.cell? ⟨pb, 1, none⟩ = some (.int .i64 q) ∧ u.cell? ⟨pb, 2, none⟩ = some (.pointer (some ⟨b, 0, none⟩))) ∧ u.cell? ⟨eb, off + J * 8, none⟩ = some (.int .i64 ek) ∧ u.cell? ⟨eb, off + J * 8 + 1, none⟩ = some (.int .i64 eg) ∧ u.cell? ⟨eb, off + J * 8 + 2, none⟩ = some (.int .i64 ej) ∧ u.cell? ⟨eb, off + J * 8 + 3, none⟩ = some (.int .i64 ew) ∧ u.cell? ⟨eb, off + J * 8 + 4, none⟩ = some (.int .i64 el) ∧ u.cell? ⟨eb, off + J * 8 + 5, none⟩ = some (.int .i64 ez) ∧ u.cell? ⟨eb, off + J * 8 + 6, none⟩ = some (.int .i64 ef) ∧ u.cell? ⟨eb, off + J * 8 + 7, none⟩ = some (.int .i64 et)) (go_keep)
              (first | (go_at_call 64; refine (cU _ (g3.trans (Fr.drew u3))).mono ?_; rintro x u4 ⟨v4, rfl, o4, f4⟩; obtain ⟨⟨k1, k2⟩, k3, k4, k5, k6, k7, k8, k9, k0⟩ := HQ.out _ ((g3.trans (Fr.drew u3)).trans f4); simp only at k3 k4 k5 k6 k7 k8 k9 k0))
            all_goals
              have sz3 := g3.size
              go_wp2_with fail
              go_ret
              exact ⟨v4, rfl, by rw [HT.out]; exact o4.lower (by have : u3.drew.heap.size = u3.heap.size := rfl; omega), (F1.trans (g3.trans (Fr.drew u3))).trans f4⟩
          · have hCb : (C != 0) = true := by simpa using hC0
            have HT : Hid (T = []) := HN.out (fun q2 => hC0 q2.2)
            clear hC0 hq0 HN HY cU
            have sz3 := g3.size
            go_wp2_with fail
            go_ret
            refine ⟨.slice (some ⟨u3.heap.size, 0, none⟩) 0 0, rfl, ?_, (F1.trans g3).trans (Fr.alloc _ _)⟩
            rw [HT.out]
            exact ownG_litK layT _ [] (by simp) _ rfl _ _ rfl (by omega)
      · have hqb : (q != 0) = true := by simpa using hq0
        have HT : Hid (T = []) := HN.out (fun q2 => hq0 q2.1)
        clear hq0 HN HY cU
        go_quiet (fail)
        go_wp2_with fail
        go_ret
        refine ⟨.slice (some ⟨V.heap.size, 0, none⟩) 0 0, rfl, ?_, (F1.trans (Fr.drewN _ _)).trans (Fr.alloc _ _)⟩
        rw [HT.out]
        exact ownG_litK layT _ [] (by simp) _ rfl _ _ rfl sF
  · have e2 : decide ((n : Int) ≤ 300) = false := by simp; omega
    simp only [e2] at cT
    have e1 : touJ es j = [] := touJ_no (by
      rintro ⟨q1, q2, q3⟩
      unfold legLen at q2
      rw [if_pos (by omega)] at q2
      omega)
    rw [e1]
    clear e1 e2 hb h hs hab
    go_enter Tryz.func20, Tryz.ntmps20
    go_wp2_with fail
    refine (cT _).mono ?_
    rintro e u0 ⟨rfl, rfl⟩
    go_wp2_with fail
    go_ret
    refine ⟨.slice (some ⟨u0.heap.size, 0, none⟩) 0 0, rfl, ?_, Fr.alloc _ _⟩
    exact ownG_litK layT _ [] (by simp) _ rfl _ _ rfl (Nat.le_refl _)
end Go.Proofs.YtihdablgnmkjnaaGreatDoor
/-
  GorsOf, the specification's and the program's.
-/
namespace Go.Proofs.YtihdablgnmkjnaaGreatDoor
open Go.RowKit

/-- The goroutines that an event is of. -/
def gorsL (e : Ev) : List Int := if evOk e = true then (if e.k ≠ 9 ∨ e.w = e.g then [e.g] else [min e.g e.w, max e.g e.w]) else []
theorem gors_len (e : Ev) : (gorsL e).length ≤ 2 := by
  unfold gorsL
  split
  · split <;> simp
  · simp
theorem evOk_gw {e : Ev} (h : evOk e = true) : (0 ≤ e.g ∧ e.g ≤ 15) ∧ (e.k = 9 → 0 ≤ e.w ∧ e.w ≤ 15) := by
  simp only [evOk, Bool.and_eq_true] at h
  obtain ⟨⟨⟨⟨⟨⟨⟨h1, h2⟩, h3⟩, h4⟩, h5⟩, h6⟩, h7⟩, h8⟩ := h
  refine ⟨by simpa [inB] using h2, fun hk => ?_⟩
  have e1 : hasB e.k 2 = true := by rw [hk]; decide
  simp only [ev2, e1, fitB, if_true] at h4
  simpa [inB] using h4

theorem EvAt.keepG {w w' : World} {b : Nat} {e : Ev} {row : Option Nat} (h : EvAt w b e) (k : w.grownBy w' row) (hr : some b ≠ row) : EvAt w' b e := by
  obtain ⟨c0, c1, c2, c3, c4, c5, c6, c7⟩ := h
  exact ⟨k.cell c0 hr, k.cell c1 hr, k.cell c2 hr, k.cell c3 hr, k.cell c4 hr, k.cell c5 hr, k.cell c6 hr, k.cell c7 hr⟩
/-- A new list of numbers. -/
theorem ownI_lit (w : World) (xs : List Int) (hl : xs.length ≤ 1000) (hx : ∀ x ∈ xs, I64 x) (o : Obj) (ho : o = .cells (xs.map (Value.int .i64)).toArray 2 (0, 0)) : OwnI (w.alloc o) w.heap.size (.slice (some ⟨w.heap.size, 0, none⟩) xs.length xs.length) xs := by
  subst ho
  refine ⟨⟨by simp, .inr ⟨w.heap.size, xs.length, (xs.map (Value.int .i64)).toArray, rfl, Nat.le_refl _, heap_alloc_new w _, Nat.le_refl _, by unfold maxLen; omega, by simp, by simp [List.take_of_length_le]⟩⟩, by omega, hx⟩

theorem retG_int {x y : Int} (h : x = y) : Ending.returned (.int .i64 x) = .returned (.int .i64 y) := by rw [h]
set_option maxHeartbeats 400000 in
theorem l1MinG (a b : Int) (w : World) :
    Calls Tryz.prog 153 #[.int .i64 a, .int .i64 b] w fun e w' => e = .returned (.int .i64 (min a b)) ∧ w' = w := by
  by_cases h : a < b
  · go_enter Tryz.func153, Tryz.ntmps153
    go_wp2
    go_ret
    exact ⟨retG_int (by omega), rfl⟩
  · go_enter Tryz.func153, Tryz.ntmps153
    go_wp2
    go_ret
    exact ⟨retG_int (by omega), rfl⟩
set_option maxHeartbeats 400000 in
theorem l1MaxG (a b : Int) (w : World) :
    Calls Tryz.prog 154 #[.int .i64 a, .int .i64 b] w fun e w' => e = .returned (.int .i64 (max a b)) ∧ w' = w := by
  by_cases h : b < a
  · go_enter Tryz.func154, Tryz.ntmps154
    go_wp2
    go_ret
    exact ⟨retG_int (by omega), rfl⟩
  · go_enter Tryz.func154, Tryz.ntmps154
    go_wp2
    go_ret
    exact ⟨retG_int (by omega), rfl⟩

set_option maxHeartbeats 6000000 in
theorem implGors_any (e : Ev) (w : World) (hs : Shapes w) :
    Calls Tryz.prog 22 #[.agg #[.int .i64 e.k, .int .i64 e.g, .int .i64 e.o, .int .i64 e.w, .int .i64 e.l, .int .i64 e.s, .int .i64 e.f, .int .i64 e.t]] w fun x w' => ∃ g, x = .returned (.slice (some ⟨g, 0, none⟩) (gorsL e).length (gorsL e).length) ∧ OwnI w' w.heap.size (.slice (some ⟨g, 0, none⟩) (gorsL e).length (gorsL e).length) (gorsL e) ∧ Fr w w' := by
  have fW := Fr.alloc w (.cells #[.int .i64 e.k, .int .i64 e.g, .int .i64 e.o, .int .i64 e.w, .int .i64 e.l, .int .i64 e.s, .int .i64 e.f, .int .i64 e.t] 31)
  have kE := EvAt.new w e 31
  have cO := fun u (f : Fr w u) => implOk_any e u (hs.fr f)
  have hg := fun q => evOk_gw (e := e) q
  unfold gorsL
  cases hE : evOk e
  · simp only [hE] at cO
    simp only [Bool.false_eq_true, if_false, List.length_nil]
    clear hg
    obtain ⟨k, gr, o, wi, l, sz, f, t⟩ := e
    simp only at fW kE cO ⊢
    go_enter Tryz.func22, Tryz.ntmps22
    go_wp2_with fail
    refine (cO _ fW).mono ?_
    rintro x u1 ⟨rfl, f1⟩
    have fA := Fr.alloc u1 (.cells #[] 2)
    go_wp2_with fail
    go_ret
    exact ⟨_, rfl, OwnI.lower (ownI_lit u1 [] (by simp) (by simp) _ rfl) (by have := fW.size; have := f1.size; omega), (fW.trans f1).trans fA⟩
  · simp only [hE] at cO
    have hg := hg hE
    simp only [if_true]
    by_cases h9 : e.k ≠ 9
    · rw [if_pos (.inl h9)]
      simp only [List.length_cons, List.length_nil]
      obtain ⟨k, gr, o, wi, l, sz, f, t⟩ := e
      simp only at fW kE cO hg h9 ⊢
      have hb : (k != 9) = true := by simpa using h9
      go_enter Tryz.func22, Tryz.ntmps22
      go_wp2_with fail
      refine (cO _ fW).mono ?_
      rintro x u1 ⟨rfl, f1⟩
      obtain ⟨c0, c1, c2, c3, c4, c5, c6, c7⟩ := kE.fr f1
      have fA := Fr.alloc u1 (.cells #[.int .i64 gr] 2)
      go_wp2_with fail
      go_ret
      exact ⟨_, rfl, OwnI.lower (ownI_lit u1 [gr] (by simp) (by simp [I64]; omega) _ rfl) (by have := fW.size; have := f1.size; omega), (fW.trans f1).trans fA⟩
    · have h9 : e.k = 9 := by omega
      have hb : (e.k != 9) = false := by simp [h9]
      have hg2 := hg.2 h9
      have hg := hg.1
      by_cases hw : e.w = e.g
      · rw [if_pos (.inr hw)]
        simp only [List.length_cons, List.length_nil]
        obtain ⟨k, gr, o, wi, l, sz, f, t⟩ := e
        simp only at fW kE cO hg hb hg2 hw h9 ⊢
        have hwb : (wi == gr) = true := by simp [hw]
        clear hw h9
        go_enter Tryz.func22, Tryz.ntmps22
        go_wp2_with fail
        refine (cO _ fW).mono ?_
        rintro x u1 ⟨rfl, f1⟩
        obtain ⟨c0, c1, c2, c3, c4, c5, c6, c7⟩ := kE.fr f1
        have fA := Fr.alloc u1 (.cells #[.int .i64 gr] 2)
        go_wp2_with fail
        go_ret
        exact ⟨_, rfl, OwnI.lower (ownI_lit u1 [gr] (by simp) (by simp [I64]; omega) _ rfl) (by have := fW.size; have := f1.size; omega), (fW.trans f1).trans fA⟩
      · rw [if_neg (by omega)]
        simp only [List.length_cons, List.length_nil]
        obtain ⟨k, gr, o, wi, l, sz, f, t⟩ := e
        simp only at fW kE cO hg hb hg2 hw h9 ⊢
        have hwb : (wi == gr) = false := by simpa using hw
        clear h9
        rcases Int.lt_or_gt_of_ne hw with hlt | hlt
        · have m1 : min gr wi = wi := by omega
          have m2 : max gr wi = gr := by omega
          have hn : ¬ gr ≤ wi := by omega
          rw [m1, m2]
          go_enter Tryz.func22, Tryz.ntmps22
          go_wp2_with fail
          refine (cO _ fW).mono ?_
          rintro x u1 ⟨rfl, f1⟩
          obtain ⟨c0, c1, c2, c3, c4, c5, c6, c7⟩ := kE.fr f1
          have fA := Fr.alloc u1 (.cells #[.int .i64 wi, .int .i64 gr] 2)
          go_wp2_with fail
          go_ret
          exact ⟨_, rfl, OwnI.lower (ownI_lit u1 [wi, gr] (by simp) (by simp [I64]; omega) _ rfl) (by have := fW.size; have := f1.size; omega), (fW.trans f1).trans fA⟩
        · have m1 : min gr wi = gr := by omega
          have m2 : max gr wi = wi := by omega
          rw [m1, m2]
          go_enter Tryz.func22, Tryz.ntmps22
          go_wp2_with fail
          refine (cO _ fW).mono ?_
          rintro x u1 ⟨rfl, f1⟩
          obtain ⟨c0, c1, c2, c3, c4, c5, c6, c7⟩ := kE.fr f1
          have fA := Fr.alloc u1 (.cells #[.int .i64 gr, .int .i64 wi] 2)
          go_wp2_with fail
          go_ret
          exact ⟨_, rfl, OwnI.lower (ownI_lit u1 [gr, wi] (by simp) (by simp [I64]; omega) _ rfl) (by have := fW.size; have := f1.size; omega), (fW.trans f1).trans fA⟩

end Go.Proofs.YtihdablgnmkjnaaGreatDoor
/-
  For the laws over traces: has; parts of a legal trace; what touches are.
-/
namespace Go.Proofs.YtihdablgnmkjnaaGreatDoor
open Go.RowKit

set_option maxHeartbeats 400000 in
theorem has_any (ao : Option Addr) (n cap : Nat) (xs : List Int) (x : Int) (w : World) (hn : xs.length = n) (h : Reads w ao xs) :
    Calls Tryz.prog 23 #[.slice ao n cap, .int .i64 x] w fun e w' => e = .returned (.bool (memB xs x)) ∧ w' = w := by
  subst hn
  have hl := h.len
  go_enter Tryz.func23, Tryz.ntmps23
  go_wp2
  go_loop [5] (fun i => ∃ k : Nat, k ≤ xs.length ∧ i = .int .i64 k ∧ Hid (∀ j, j < k → xs.getD j 0 ≠ x)) (fun i => xs.length - (intOf i).toNat)
  case atStart => exact ⟨0, Nat.zero_le _, rfl, fun j hj => by omega⟩
  case round =>
    obtain ⟨k, hk, rfl, HA⟩ := hrel
    by_cases hlt : k < xs.length
    · obtain ⟨b, off, rfl, hc⟩ := h.at_ k hlt
      have hck := hc k hlt
      rw [getD_at hlt] at hck
      clear hc
      by_cases he : xs[k] = x
      · have hb : (xs[k] == x) = true := beq_iff_eq.2 he
        have HE : Hid (memB xs x = true) := memB_yes hlt he
        clear he
        go_wp2
        go_ret
        exact ⟨ret_bool HE.out.symm, rfl⟩
      · have hb : (xs[k] == x) = false := beq_eq_false_iff_ne.2 he
        have HE : Hid (xs[k] ≠ x) := he
        clear he
        go_wp2
        go_round
        case rel =>
          refine ⟨k + 1, by omega, by go_num, fun j hj => ?_⟩
          by_cases e : j = k
          · subst e; rw [getD_at hlt]; exact HE.out
          · exact HA.out j (by omega)
        case measure => simp [intOf]; omega
    · have HN : Hid (memB xs x = false) := memB_no (fun j hj => HA.out j (by omega))
      go_wp2
      go_ret
      exact ⟨ret_bool HN.out.symm, rfl⟩

/-- The touches of an event of a legal trace are those of the trace's part up to it; ahead of it there is none. -/
theorem leg_whole {es : List Ev} {m : Scn} (h : legS scn0 es = (m, es.length, 0)) (hl : es.length ≤ 300) : legLen es = es.length := by
  rw [legLen, if_neg (by omega), h]
theorem leg_first {es : List Ev} {m : Scn} {k : Nat} (h : legS scn0 es = (m, es.length, 0)) (hl : es.length ≤ 300) (hk : k ≤ es.length) : legLen (es.take k) = k := by
  have h1 := (leg_part es scn0 k (by rw [h]; exact hk)).1
  rw [legLen, if_neg (by simp; omega), h1]
theorem touJ_part {es : List Ev} {m : Scn} {J : Nat} (h : legS scn0 es = (m, es.length, 0)) (hl : es.length ≤ 300) (hJ : J < es.length) : touJ (es.take (J + 1)) J = touJ es J := by
  have e1 := leg_whole h hl
  have e2 := leg_first (k := J + 1) h hl (by omega)
  have hJ2 : J < (es.take (J + 1)).length := by simp; omega
  have q1 := touJ_yes (es := es) (j := (J : Int)) ⟨by omega, by rw [e1]; omega, by simpa using hJ⟩
  have q2 := touJ_yes (es := es.take (J + 1)) (j := (J : Int)) ⟨by omega, by rw [e2]; omega, by rw [Int.toNat_natCast]; exact hJ2⟩
  simp only [Int.toNat_natCast] at q1 q2
  rw [q1, q2, List.getElem_take, List.take_take]
  simp
theorem touJ_none {es : List Ev} {J : Nat} : touJ (es.take J) J = [] := touJ_no (fun q => by have := q.2.2; simp at this; omega)
/-- Each touch is of a space, and takes or gives. -/
def goodT (t : Tch) : Prop := (1 ≤ t.sp ∧ t.sp ≤ 7) ∧ (t.tk = true ∨ t.gv = true)
theorem ite_good {p : Prop} [Decidable p] {a b : List Tch} (ha : ∀ t ∈ a, goodT t) (hb : ∀ t ∈ b, goodT t) : ∀ t ∈ (if p then a else b), goodT t := by
  by_cases h : p
  · rw [if_pos h]; exact ha
  · rw [if_neg h]; exact hb
theorem tch_good (e : Ev) (z : Int) : ∀ t ∈ tchL e z, goodT t := by
  unfold tchL
  repeat (refine ite_good (by simp [goodT]) ?_)
  simp
theorem touJ_good (es : List Ev) (j : Int) : ∀ t ∈ touJ es j, goodT t := by
  unfold touJ
  split
  · exact tch_good _ _
  · simp
/-- The goroutines of an event that can be done. -/
theorem gors_of {m : Scn} {e : Ev} (h : codeIn m e = 0) : memB (gorsL e) e.g = true ∧ decide ((gorsL e).length = 2) = decide (e.k = 9) := by
  obtain ⟨h1, -, h3, -⟩ := code_parts h
  unfold gorsL
  rw [if_pos h1]
  by_cases h9 : e.k = 9
  · have hw : e.w ≠ e.g := fun q => h3 (.inr (.inr ⟨h9, .inr q⟩))
    rw [if_neg (by omega)]
    refine ⟨?_, by simp [h9]⟩
    rw [memB, List.any_eq_true]
    by_cases q : e.g ≤ e.w
    · exact ⟨min e.g e.w, by simp, by simp; omega⟩
    · exact ⟨max e.g e.w, by simp, by simp; omega⟩
  · rw [if_pos (.inl h9)]
    exact ⟨by simp [memB], by simp [h9]⟩
end Go.Proofs.YtihdablgnmkjnaaGreatDoor
/-
  The walk of the laws' likeEvents, of two like lists.
-/
namespace Go.Proofs.YtihdablgnmkjnaaGreatDoor
open Go.RowKit

end Go.Proofs.YtihdablgnmkjnaaGreatDoor
