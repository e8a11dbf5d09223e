/-
  A trace that is grown event by event: l5Grow.
-/
import Derived.Test.YtikjodbboljhjaaGreatDoorPackAL
import Derived.Test.YtikjodbboljhjaaGreatDoorPackAR
import Derived.Test.YtikjodbboljhjaaGreatDoorPackAP
import Derived.Test.YtikjodbboljhjaaGreatDoorPackAQ
namespace Go.Proofs.YtikjodbboljhjaaGreatDoor
open Go.RowKit

theorem codeIn_zero {m : Scn} {e : Ev} (h : codeIn m e = 0) : evOk e = true ∧ scB m = true := by
  unfold codeIn at h
  split at h
  · simp at h
  · rename_i hn
    refine ⟨?_, ?_⟩
    · cases he : evOk e with
      | true => rfl
      | false => exact absurd (.inl he) hn
    · cases he : scB m with
      | true => rfl
      | false => exact absurd (.inr he) hn
theorem OwnE.lt {w : World} {base : Nat} {v : Value} {es : List Ev} (h : OwnE w base v es) : ∀ j, v.ownBlock = some j → j < w.heap.size := by
  obtain ⟨g, cap, rfl, ho, hl⟩ := h
  intro j hj
  exact (ho.lt j hj).2

/-- The state in the midst of l5Grow: the cursor in g, the scene in sb, the events so far in the slice u. -/
structure GX (B : Nat → Prop) (w0 : World) (g sb : Nat) (u : Value) (es : List Ev) (s : Sv) (m : Scn) (wr : World) : Prop where
  cur : Cur wr g
  gro : w0.grownBy wr (some g)
  sc : ScK wr sb s
  scr : ScR B wr s m
  own : OwnE wr w0.heap.size u es
  gl : g < w0.heap.size
  sl : w0.heap.size ≤ sb
  ul : ∀ j, u.ownBlock = some j → j ≠ sb ∧ j < wr.heap.size
  bB : ∀ b, B b → b < wr.heap.size ∧ b ≠ g ∧ b ≠ sb ∧ u.ownBlock ≠ some b
theorem GX.draw {B : Nat → Prop} {w0 wr w' : World} {g sb : Nat} {u : Value} {es : List Ev} {s : Sv} {m : Scn} (h : GX B w0 g sb u es s m wr) (c : Cur w' g) (k : wr.grownBy w' (some g)) : GX B w0 g sb u es s m w' := by
  have h1 := h.gl; have h2 := h.sl; have hs := k.size
  exact { h with cur := c, gro := grown_trans h.gro k, sc := h.sc.keep k (by simp; omega), scr := h.scr.keep k (fun j hj => by cases hj; exact fun q => (h.bB _ q).2.1 rfl), own := h.own.keep k (fun q => by have := h.own.blk _ q; omega), ul := fun j hj => ⟨(h.ul j hj).1, by have := (h.ul j hj).2; omega⟩, bB := fun b hb => ⟨by have := (h.bB b hb).1; omega, (h.bB b hb).2⟩ }
theorem GX.fr {B : Nat → Prop} {w0 wr w' : World} {g sb : Nat} {u : Value} {es : List Ev} {s : Sv} {m : Scn} (h : GX B w0 g sb u es s m wr) (k : Fr wr w') : GX B w0 g sb u es s m w' := by
  have hs := k.size
  exact { h with cur := h.cur.fr k, gro := grown_trans h.gro k.wide, sc := h.sc.fr k, scr := h.scr.fr k, own := h.own.fr k, ul := fun j hj => ⟨(h.ul j hj).1, by have := (h.ul j hj).2; omega⟩, bB := fun b hb => ⟨by have := (h.bB b hb).1; omega, (h.bB b hb).2⟩ }
theorem GX.wrote {B : Nat → Prop} {w0 wr w' : World} {g sb eb : Nat} {u : Value} {es : List Ev} {s : Sv} {m : Scn} (h : GX B w0 g sb u es s m wr) (k : wr.grownBy w' (some eb)) (he : sb < eb) (hB : ¬ B eb) (hu : u.ownBlock ≠ some eb) : GX B w0 g sb u es s m w' := by
  have h1 := h.gl; have h2 := h.sl; have hs := k.size
  exact { h with cur := h.cur.other k (by intro j hj; simp only [Option.some.injEq] at hj; omega), gro := grown_then h.gro k (by intro j hj; simp only [Option.some.injEq] at hj; omega), sc := h.sc.keep k (by simp; omega), scr := h.scr.keep k (fun j hj => by cases hj; exact hB), own := h.own.keep k hu, ul := fun j hj => ⟨(h.ul j hj).1, by have := (h.ul j hj).2; omega⟩, bB := fun b hb => ⟨by have := (h.bB b hb).1; omega, (h.bB b hb).2⟩ }
/-- The scene is put in its block: those of the new scene are B or new since w1. -/
theorem GX.scene {B : Nat → Prop} {w0 w1 wr : World} {g sb : Nat} {u : Value} {es : List Ev} {s s' : Sv} {m m' : Scn} (h1 : GX B w0 g sb u es s m w1) (f : Fr w1 wr) (hS : ScR (Grew B w1 wr) wr s' m') :
    GX (Grew B w1 wr) w0 g sb u es s' m' (((((wr.setCell ⟨sb, 0, none⟩ (.int .i64 s'.g)).setCell ⟨sb, 1, none⟩ (.slice s'.lo s'.ll s'.lc)).setCell ⟨sb, 2, none⟩ (.slice s'.co s'.cl s'.cc)).setCell ⟨sb, 3, none⟩ (.slice s'.no s'.nl s'.nc)).setCell ⟨sb, 4, none⟩ (.slice s'.oo s'.ol s'.oc)) := by
  have h := h1.fr f
  have k := put5 wr sb (.int .i64 s'.g) (.slice s'.lo s'.ll s'.lc) (.slice s'.co s'.cl s'.cc) (.slice s'.no s'.nl s'.nc) (.slice s'.oo s'.ol s'.oc)
  have hs := k.size
  have hb : ∀ b, Grew B w1 wr b → b < wr.heap.size ∧ b ≠ g ∧ b ≠ sb ∧ u.ownBlock ≠ some b := by
    rintro b (hb | ⟨h3, h4⟩)
    · exact h.bB b hb
    · have h5 := h1.sc.lt
      have h6 := h1.gl
      have h7 := h1.sl
      exact ⟨h4, by omega, by omega, fun q => by have := (h1.ul _ q).2; omega⟩
  refine { h with cur := h.cur.other k (by intro j hj; simp only [Option.some.injEq] at hj; have := h.gl; have := h.sl; omega), gro := grown_then h.gro k (by intro j hj; simp only [Option.some.injEq] at hj; have := h.sl; omega), sc := ?_, scr := hS.keep k (fun j hj => by cases hj; exact fun q => (hb _ q).2.2.1 rfl), own := h.own.keep k (fun q => (h.ul _ q).1 rfl), ul := fun j hj => ⟨(h.ul j hj).1, by have := (h.ul j hj).2; omega⟩, bB := fun b q => ⟨by have := (hb b q).1; omega, (hb b q).2⟩ }
  have e0 := heap_setCell_same wr sb 0 _ _ (.int .i64 s'.g) h.sc
  have e1 := heap_setCell_same _ sb 1 _ _ (.slice s'.lo s'.ll s'.lc) e0
  have e2 := heap_setCell_same _ sb 2 _ _ (.slice s'.co s'.cl s'.cc) e1
  have e3 := heap_setCell_same _ sb 3 _ _ (.slice s'.no s'.nl s'.nc) e2
  exact heap_setCell_same _ sb 4 _ _ (.slice s'.oo s'.ol s'.oc) e3

theorem GX.app {B : Nat → Prop} {w0 wr w' : World} {g sb : Nat} {u v : Value} {es es' : List Ev} {s : Sv} {m : Scn} (h : GX B w0 g sb u es s m wr) (hv : OwnE w' w0.heap.size v es') (k : wr.grownBy w' u.ownBlock) (hat : v.ownBlock = u.ownBlock ∨ v.ownBlock = some wr.heap.size) : GX B w0 g sb v es' s m w' := by
  have h1 := h.gl; have h2 := h.sl; have hs := k.size; have h3 := h.sc.lt
  refine { h with cur := h.cur.other k (fun j hj => by have := h.own.blk j hj; omega), gro := grown_then h.gro k (fun j hj => .inl (h.own.blk j hj)), sc := h.sc.keep k (fun q => (h.ul _ q).1 rfl), scr := h.scr.keep k (fun j hj q => (h.bB _ q).2.2.2 hj), own := hv, ul := fun j hj => ⟨?_, hv.lt j hj⟩, bB := fun b hb => ⟨by have := (h.bB b hb).1; omega, (h.bB b hb).2.1, (h.bB b hb).2.2.1, ?_⟩ }
  · rcases hat with e | e
    · rw [e] at hj; exact (h.ul j hj).1
    · rw [e] at hj; simp only [Option.some.injEq] at hj; omega
  · rcases hat with e | e
    · rw [e]; exact (h.bB b hb).2.2.2
    · rw [e]; have := (h.bB b hb).1; simp only [ne_eq, Option.some.injEq]; omega

set_option maxRecDepth 20000 in
set_option maxHeartbeats 8000000 in
theorem l5Grow_any (g : Nat) (n : Int) (w : World) (hc : Cur w g) (hn : n ≤ 100000) :
    Calls Tryz.prog 163 #[.pointer (some ⟨g, 0, none⟩), .int .i64 n] w fun x w' => ∃ v : Value, x = .returned v ∧ ∃ es : List Ev, OwnE w' w.heap.size v es ∧ es.length ≤ n.toNat ∧ Cur w' g ∧ w.grownBy w' (some g) := by
  have hgl := hc.lt
  go_enter Tryz.func163, Tryz.ntmps163
  go_wp2_with fail
  refine (newScene_any (fun _ => False) _).mono ?_
  rintro e w1 ⟨⟨sg, lo, ll, lc, co, cl, cc, no, nl, nc, oo, ol, oc⟩, rfl, hS, f1⟩
  go_wp2_with fail
  obtain ⟨sb, hsb⟩ : ∃ sb, sb = w1.heap.size := ⟨_, rfl⟩
  have h1 := f1.size
  have fA := Fr.alloc w1 (.cells #[.int .i64 sg, .slice lo ll lc, .slice co cl cc, .slice no nl nc, .slice oo ol oc] 29)
  have fB := Fr.alloc (w1.alloc (.cells #[.int .i64 sg, .slice lo ll lc, .slice co cl cc, .slice no nl nc, .slice oo ol oc] 29)) (.cells #[] 31)
  have kS := (ScK.new w1 ⟨sg, lo, ll, lc, co, cl, cc, no, nl, nc, oo, ol, oc⟩).fr fB
  have kO := (ownE_new (w1.alloc (.cells #[.int .i64 sg, .slice lo ll lc, .slice co cl cc, .slice no nl nc, .slice oo ol oc] 29))).lower (base' := w.heap.size) (by simp; omega)
  have fC := (f1.trans fA).trans fB
  have hX : GX (fun _ => False) w g w1.heap.size (.slice (some ⟨w1.heap.size + 1, 0, none⟩) 0 0) [] ⟨sg, lo, ll, lc, co, cl, cc, no, nl, nc, oo, ol, oc⟩ scn0 ((w1.alloc (.cells #[.int .i64 sg, .slice lo ll lc, .slice co cl cc, .slice no nl nc, .slice oo ol oc] 29)).alloc (.cells #[] 31)) := by
    simp only [World.size_alloc] at kO
    exact ⟨hc.fr fC, fC.wide, kS, hS.fr (fA.trans fB), kO, hgl, h1, fun j hj => by simp only [Value.ownBlock, Option.some.injEq] at hj; subst hj; simp, fun b hb => hb.elim⟩
  obtain ⟨V, hV⟩ : ∃ V, V = (w1.alloc (.cells #[.int .i64 sg, .slice lo ll lc, .slice co cl cc, .slice no nl nc, .slice oo ol oc] 29)).alloc (.cells #[] 31) := ⟨_, rfl⟩
  rw [← hV] at hX ⊢
  rw [← hsb] at hX ⊢
  clear hV hsb h1 fA fB kS kO fC f1 hS hgl hc
  go_loopw [1, 6] (fun q u wr => ∃ (nn : Int) (es : List Ev) (s : Sv) (m : Scn) (B : Nat → Prop), q = .int .i64 nn ∧ nn ≤ n ∧ es.length + nn.toNat ≤ n.toNat ∧ GX B w g sb u es s m wr) (fun q _ _ => (intOf q).toNat)
  case atStart => exact ⟨n, [], _, _, _, rfl, Int.le_refl _, by simp, hX⟩
  case round =>
    clear hX
    obtain ⟨nn, es, ⟨sg, lo, ll, lc, co, cl, cc, no, nl, nc, oo, ol, oc⟩, m, B, rfl, hnn, hel, hX⟩ := hrel
    by_cases hpos : 0 < nn
    · obtain ⟨s0, s1, s2, s3, s4⟩ := hX.sc.at
      simp only at s0 s1 s2 s3 s4
      go_wp2_with fail
      refine (l5Next_any g ⟨sg, lo, ll, lc, co, cl, cc, no, nl, nc, oo, ol, oc⟩ m _ hX.cur (fun b q => ⟨(hX.bB b q).1, (hX.bB b q).2.1⟩) hX.scr).mono ?_
      rintro x w1 ⟨⟨k, gr, o, wi, l, sz, f, t⟩, rfl, hE, c1, g1⟩
      have h1 := hX.draw c1 g1
      clear hX c1 g1 s0 s1 s2 s3 s4
      simp only
      go_upto_region 6 with fail
      have ev := EvB.new w1 ⟨k, gr, o, wi, l, sz, f, t⟩
      have h2 := h1.fr (Fr.alloc w1 (.cells #[.int .i64 k, .int .i64 gr, .int .i64 o, .int .i64 wi, .int .i64 l, .int .i64 sz, .int .i64 f, .int .i64 t] 31))
      have HU : Hid (u6.ownBlock ≠ some w1.heap.size ∧ sb < w1.heap.size ∧ ¬ B w1.heap.size) := ⟨fun q => by have := (h1.ul _ q).2; omega, h1.sc.lt, fun q => by have := (h1.bB _ q).1; omega⟩
      simp only at ev
      obtain ⟨V, hV⟩ : ∃ V, V = w1.alloc (.cells #[.int .i64 k, .int .i64 gr, .int .i64 o, .int .i64 wi, .int .i64 l, .int .i64 sz, .int .i64 f, .int .i64 t] 31) := ⟨_, rfl⟩
      rw [← hV] at ev h2 ⊢
      obtain ⟨eb, heb⟩ : ∃ eb, eb = w1.heap.size := ⟨_, rfl⟩
      rw [← heb] at ev HU ⊢
      clear hV heb h1
      have cg := h2.sc.at.c0
      simp only at cg
      by_cases hs3 : sg < 3
      · go_wp2_with fail
        refine (l1Once_any _ _ _ h2.cur).mono ?_
        rintro e w3 ⟨on, rfl, c3, g3⟩
        have h3 := h2.draw c3 g3
        have ev3 := ev.keep g3 (by have := h2.gl; have := h2.sl; have := HU.out.2.1; simp; omega)
        clear h2 ev c3 g3 cg
        cases on
        · go_upto_region 8 with fail
          have hX := h3
          have ev := ev3
          have hEE : EvI ⟨k, gr, o, wi, l, sz, f, t⟩ := hE
          have cI := fun u (hs : ScR B u ⟨sg, lo, ll, lc, co, cl, cc, no, nl, nc, oo, ol, oc⟩ m) => codeIn_any ⟨sg, lo, ll, lc, co, cl, cc, no, nl, nc, oo, ol, oc⟩ m ⟨k, gr, o, wi, l, sz, f, t⟩ u hEE.2.2.1 hs
          simp only at cI
          obtain ⟨R, hR⟩ : ∃ R, R = codeIn m ⟨k, gr, o, wi, l, sz, f, t⟩ := ⟨_, rfl⟩
          have HR : Hid (R = codeIn m ⟨k, gr, o, wi, l, sz, f, t⟩) := hR
          simp only [← hR] at cI
          clear hR
          obtain ⟨s0, s1, s2, s3, s4⟩ := hX.sc.at
          obtain ⟨e0, e1, e2, e3, e4, e5, e6, e7⟩ := ev.at
          simp only at s0 s1 s2 s3 s4 e0 e1 e2 e3 e4 e5 e6 e7
          go_wp2_with fail
          refine (cI _ hX.scr).mono ?_
          rintro y w6 ⟨rfl, f6⟩
          have h6 := hX.fr f6
          have ev6 := ev.keep f6 (by simp)
          clear cI s0 s1 s2 s3 s4 e0 e1 e2 e3 e4 e5 e6 e7 hX ev f6 h3 ev3
          cases hr : (R == 0)
          · go_wp2_with fail
            go_roundw
            case rel => exact ⟨nn - 1, es, _, m, B, by go_num, by omega, by omega, h6⟩
            case measure => simp [intOf]; omega
          · have hz := codeIn_zero (HR.out.symm.trans (beq_iff_eq.1 hr))
            obtain ⟨s0, s1, s2, s3, s4⟩ := h6.sc.at
            obtain ⟨e0, e1, e2, e3, e4, e5, e6, e7⟩ := ev6.at
            simp only at s0 s1 s2 s3 s4 e0 e1 e2 e3 e4 e5 e6 e7
            go_wp2_with fail
            refine (l4Do_any ⟨sg, lo, ll, lc, co, cl, cc, no, nl, nc, oo, ol, oc⟩ m ⟨k, gr, o, wi, l, sz, f, t⟩ _ hz.2 hz.1 (fun b q => (h6.bB b q).1) h6.scr).mono ?_
            rintro y w7 ⟨⟨g', lo1, ll1, lc1, co1, cl1, cc1, no1, nl1, nc1, oo1, ol1, oc1⟩, rfl, hS, f7⟩
            have h8 := h6.scene f7 hS
            have ev7 := (ev6.keep f7 (by simp)).keep (put5 w7 sb (.int .i64 g') (.slice lo1 ll1 lc1) (.slice co1 cl1 cc1) (.slice no1 nl1 nc1) (.slice oo1 ol1 oc1)) (by have := HU.out.2.1; simp; omega)
            obtain ⟨j0, j1, j2, j3, j4⟩ := (h6.sc.fr f7).at
            have jf := fun i => (h6.sc.fr f7).free i
            simp only at h8 j0 j1 j2 j3 j4
            clear s0 s1 s2 s3 s4 e0 e1 e2 e3 e4 e5 e6 e7 h6 ev6 hS f7 hz
            go_upto_region 10 with fail
            clear j0 j1 j2 j3 j4 jf
            obtain ⟨w8, hw8⟩ : ∃ w8, w8 = (((((w7.setCell ⟨sb, 0, none⟩ (.int .i64 g')).setCell ⟨sb, 1, none⟩ (.slice lo1 ll1 lc1)).setCell ⟨sb, 2, none⟩ (.slice co1 cl1 cc1)).setCell ⟨sb, 3, none⟩ (.slice no1 nl1 nc1)).setCell ⟨sb, 4, none⟩ (.slice oo1 ol1 oc1)) := ⟨_, rfl⟩
            rw [← hw8] at h8 ev7 ⊢
            clear hw8
            obtain ⟨e0, e1, e2, e3, e4, e5, e6, e7⟩ := ev7.at
            simp only at e0 e1 e2 e3 e4 e5 e6 e7
            have hsz : w.heap.size ≤ w8.heap.size := h8.gro.size
            have hle : es.length ≤ 100000 := by omega
            go_wp2_with (at_builtin; refine appE _ rfl _ _ rfl w.heap.size u6 es ⟨k, gr, o, wi, l, sz, f, t⟩ rfl (h8.own.fr (Fr.alloc _ _)) _ _ rfl (evC_new w8 ⟨k, gr, o, wi, l, sz, f, t⟩) (by omega) (by simp; omega) ?_; intro v9 w9 hv9 hg9 hat9)
            have h9 := h8.fr (Fr.alloc w8 (.cells #[.int .i64 k, .int .i64 gr, .int .i64 o, .int .i64 wi, .int .i64 l, .int .i64 sz, .int .i64 f, .int .i64 t] 31))
            have hX := h9.app hv9 hg9 hat9
            clear e0 e1 e2 e3 e4 e5 e6 e7 h8 ev7 h9 hv9 hg9 hat9
            go_roundw
            case rel => exact ⟨nn - 1, _, _, _, _, by go_num, by omega, by simp; omega, hX⟩
            case measure => simp [intOf]; omega
        · obtain ⟨a0, a1, a2, a3, a4, a5, a6, a7⟩ := ev3.at
          have af := fun i => ev3.free i
          have cg := h3.sc.at.c0
          simp only at a0 a1 a2 a3 a4 a5 a6 a7 cg
          have hSG : I64 sg := by have := h3.scr.g; have q := h3.scr.ig; simp only at this; rw [this]; exact q
          have k4 := grown_st8 w3 eb (.int .i64 1) (.int .i64 0) (.int .i64 sg) (.int .i64 0) (.int .i64 0) (.int .i64 0) (.int .i64 0) (.int .i64 0)
          have h4 := h3.wrote k4 HU.out.2.1 HU.out.2.2 HU.out.1
          have ev4 := ev3.set8 ⟨1, 0, sg, 0, 0, 0, 0, 0⟩
          simp only at ev4
          clear h3 ev3 k4
          go_upto_region 8 with fail
          clear a0 a1 a2 a3 a4 a5 a6 a7 af cg
          obtain ⟨w5, hw5⟩ : ∃ w5, w5 = ((((((((w3.setCell ⟨eb, 0, none⟩ (.int .i64 1)).setCell ⟨eb, 1, none⟩ (.int .i64 0)).setCell ⟨eb, 2, none⟩ (.int .i64 sg)).setCell ⟨eb, 3, none⟩ (.int .i64 0)).setCell ⟨eb, 4, none⟩ (.int .i64 0)).setCell ⟨eb, 5, none⟩ (.int .i64 0)).setCell ⟨eb, 6, none⟩ (.int .i64 0)).setCell ⟨eb, 7, none⟩ (.int .i64 0)) := ⟨_, rfl⟩
          rw [← hw5] at h4 ev4 ⊢
          clear hw5
          have hZ : I64 0 := ⟨by decide, by decide⟩
          have hX := h4
          have ev := ev4
          have hEE : EvI ⟨1, 0, sg, 0, 0, 0, 0, 0⟩ := ⟨(show I64 1 from ⟨by decide, by decide⟩), hZ, hSG, hZ, hZ, hZ, hZ, hZ⟩
          have cI := fun u (hs : ScR B u ⟨sg, lo, ll, lc, co, cl, cc, no, nl, nc, oo, ol, oc⟩ m) => codeIn_any ⟨sg, lo, ll, lc, co, cl, cc, no, nl, nc, oo, ol, oc⟩ m ⟨1, 0, sg, 0, 0, 0, 0, 0⟩ u hEE.2.2.1 hs
          simp only at cI
          obtain ⟨R, hR⟩ : ∃ R, R = codeIn m ⟨1, 0, sg, 0, 0, 0, 0, 0⟩ := ⟨_, rfl⟩
          have HR : Hid (R = codeIn m ⟨1, 0, sg, 0, 0, 0, 0, 0⟩) := hR
          simp only [← hR] at cI
          clear hR
          obtain ⟨s0, s1, s2, s3, s4⟩ := hX.sc.at
          obtain ⟨e0, e1, e2, e3, e4, e5, e6, e7⟩ := ev.at
          simp only at s0 s1 s2 s3 s4 e0 e1 e2 e3 e4 e5 e6 e7
          go_wp2_with fail
          refine (cI _ hX.scr).mono ?_
          rintro y w6 ⟨rfl, f6⟩
          have h6 := hX.fr f6
          have ev6 := ev.keep f6 (by simp)
          clear cI s0 s1 s2 s3 s4 e0 e1 e2 e3 e4 e5 e6 e7 hX ev f6 h4 ev4
          cases hr : (R == 0)
          · go_wp2_with fail
            go_roundw
            case rel => exact ⟨nn - 1, es, _, m, B, by go_num, by omega, by omega, h6⟩
            case measure => simp [intOf]; omega
          · have hz := codeIn_zero (HR.out.symm.trans (beq_iff_eq.1 hr))
            obtain ⟨s0, s1, s2, s3, s4⟩ := h6.sc.at
            obtain ⟨e0, e1, e2, e3, e4, e5, e6, e7⟩ := ev6.at
            simp only at s0 s1 s2 s3 s4 e0 e1 e2 e3 e4 e5 e6 e7
            go_wp2_with fail
            refine (l4Do_any ⟨sg, lo, ll, lc, co, cl, cc, no, nl, nc, oo, ol, oc⟩ m ⟨1, 0, sg, 0, 0, 0, 0, 0⟩ _ hz.2 hz.1 (fun b q => (h6.bB b q).1) h6.scr).mono ?_
            rintro y w7 ⟨⟨g', lo1, ll1, lc1, co1, cl1, cc1, no1, nl1, nc1, oo1, ol1, oc1⟩, rfl, hS, f7⟩
            have h8 := h6.scene f7 hS
            have ev7 := (ev6.keep f7 (by simp)).keep (put5 w7 sb (.int .i64 g') (.slice lo1 ll1 lc1) (.slice co1 cl1 cc1) (.slice no1 nl1 nc1) (.slice oo1 ol1 oc1)) (by have := HU.out.2.1; simp; omega)
            obtain ⟨j0, j1, j2, j3, j4⟩ := (h6.sc.fr f7).at
            have jf := fun i => (h6.sc.fr f7).free i
            simp only at h8 j0 j1 j2 j3 j4
            clear s0 s1 s2 s3 s4 e0 e1 e2 e3 e4 e5 e6 e7 h6 ev6 hS f7 hz
            go_upto_region 10 with fail
            clear j0 j1 j2 j3 j4 jf
            obtain ⟨w8, hw8⟩ : ∃ w8, w8 = (((((w7.setCell ⟨sb, 0, none⟩ (.int .i64 g')).setCell ⟨sb, 1, none⟩ (.slice lo1 ll1 lc1)).setCell ⟨sb, 2, none⟩ (.slice co1 cl1 cc1)).setCell ⟨sb, 3, none⟩ (.slice no1 nl1 nc1)).setCell ⟨sb, 4, none⟩ (.slice oo1 ol1 oc1)) := ⟨_, rfl⟩
            rw [← hw8] at h8 ev7 ⊢
            clear hw8
            obtain ⟨e0, e1, e2, e3, e4, e5, e6, e7⟩ := ev7.at
            simp only at e0 e1 e2 e3 e4 e5 e6 e7
            have hsz : w.heap.size ≤ w8.heap.size := h8.gro.size
            have hle : es.length ≤ 100000 := by omega
            go_wp2_with (at_builtin; refine appE _ rfl _ _ rfl w.heap.size u6 es ⟨1, 0, sg, 0, 0, 0, 0, 0⟩ rfl (h8.own.fr (Fr.alloc _ _)) _ _ rfl (evC_new w8 ⟨1, 0, sg, 0, 0, 0, 0, 0⟩) (by omega) (by simp; omega) ?_; intro v9 w9 hv9 hg9 hat9)
            have h9 := h8.fr (Fr.alloc w8 (.cells #[.int .i64 1, .int .i64 0, .int .i64 sg, .int .i64 0, .int .i64 0, .int .i64 0, .int .i64 0, .int .i64 0] 31))
            have hX := h9.app hv9 hg9 hat9
            clear e0 e1 e2 e3 e4 e5 e6 e7 h8 ev7 h9 hv9 hg9 hat9
            go_roundw
            case rel => exact ⟨nn - 1, _, _, _, _, by go_num, by omega, by simp; omega, hX⟩
            case measure => simp [intOf]; omega
      · have hd : decide (sg < 3) = false := decide_eq_false hs3
        have hs4 : 3 ≤ sg := by omega
        go_upto_region 8 with fail
        have hX := h2
        have hEE : EvI ⟨k, gr, o, wi, l, sz, f, t⟩ := hE
        have cI := fun u (hs : ScR B u ⟨sg, lo, ll, lc, co, cl, cc, no, nl, nc, oo, ol, oc⟩ m) => codeIn_any ⟨sg, lo, ll, lc, co, cl, cc, no, nl, nc, oo, ol, oc⟩ m ⟨k, gr, o, wi, l, sz, f, t⟩ u hEE.2.2.1 hs
        simp only at cI
        obtain ⟨R, hR⟩ : ∃ R, R = codeIn m ⟨k, gr, o, wi, l, sz, f, t⟩ := ⟨_, rfl⟩
        have HR : Hid (R = codeIn m ⟨k, gr, o, wi, l, sz, f, t⟩) := hR
        simp only [← hR] at cI
        clear hR
        obtain ⟨s0, s1, s2, s3, s4⟩ := hX.sc.at
        obtain ⟨e0, e1, e2, e3, e4, e5, e6, e7⟩ := ev.at
        simp only at s0 s1 s2 s3 s4 e0 e1 e2 e3 e4 e5 e6 e7
        go_wp2_with fail
        refine (cI _ hX.scr).mono ?_
        rintro y w6 ⟨rfl, f6⟩
        have h6 := hX.fr f6
        have ev6 := ev.keep f6 (by simp)
        clear cI s0 s1 s2 s3 s4 e0 e1 e2 e3 e4 e5 e6 e7 hX ev f6 h2 cg
        cases hr : (R == 0)
        · go_wp2_with fail
          go_roundw
          case rel => exact ⟨nn - 1, es, _, m, B, by go_num, by omega, by omega, h6⟩
          case measure => simp [intOf]; omega
        · have hz := codeIn_zero (HR.out.symm.trans (beq_iff_eq.1 hr))
          obtain ⟨s0, s1, s2, s3, s4⟩ := h6.sc.at
          obtain ⟨e0, e1, e2, e3, e4, e5, e6, e7⟩ := ev6.at
          simp only at s0 s1 s2 s3 s4 e0 e1 e2 e3 e4 e5 e6 e7
          go_wp2_with fail
          refine (l4Do_any ⟨sg, lo, ll, lc, co, cl, cc, no, nl, nc, oo, ol, oc⟩ m ⟨k, gr, o, wi, l, sz, f, t⟩ _ hz.2 hz.1 (fun b q => (h6.bB b q).1) h6.scr).mono ?_
          rintro y w7 ⟨⟨g', lo1, ll1, lc1, co1, cl1, cc1, no1, nl1, nc1, oo1, ol1, oc1⟩, rfl, hS, f7⟩
          have h8 := h6.scene f7 hS
          have ev7 := (ev6.keep f7 (by simp)).keep (put5 w7 sb (.int .i64 g') (.slice lo1 ll1 lc1) (.slice co1 cl1 cc1) (.slice no1 nl1 nc1) (.slice oo1 ol1 oc1)) (by have := HU.out.2.1; simp; omega)
          obtain ⟨j0, j1, j2, j3, j4⟩ := (h6.sc.fr f7).at
          have jf := fun i => (h6.sc.fr f7).free i
          simp only at h8 j0 j1 j2 j3 j4
          clear s0 s1 s2 s3 s4 e0 e1 e2 e3 e4 e5 e6 e7 h6 ev6 hS f7 hz
          go_upto_region 10 with fail
          clear j0 j1 j2 j3 j4 jf
          obtain ⟨w8, hw8⟩ : ∃ w8, w8 = (((((w7.setCell ⟨sb, 0, none⟩ (.int .i64 g')).setCell ⟨sb, 1, none⟩ (.slice lo1 ll1 lc1)).setCell ⟨sb, 2, none⟩ (.slice co1 cl1 cc1)).setCell ⟨sb, 3, none⟩ (.slice no1 nl1 nc1)).setCell ⟨sb, 4, none⟩ (.slice oo1 ol1 oc1)) := ⟨_, rfl⟩
          rw [← hw8] at h8 ev7 ⊢
          clear hw8
          obtain ⟨e0, e1, e2, e3, e4, e5, e6, e7⟩ := ev7.at
          simp only at e0 e1 e2 e3 e4 e5 e6 e7
          have hsz : w.heap.size ≤ w8.heap.size := h8.gro.size
          have hle : es.length ≤ 100000 := by omega
          go_wp2_with (at_builtin; refine appE _ rfl _ _ rfl w.heap.size u6 es ⟨k, gr, o, wi, l, sz, f, t⟩ rfl (h8.own.fr (Fr.alloc _ _)) _ _ rfl (evC_new w8 ⟨k, gr, o, wi, l, sz, f, t⟩) (by omega) (by simp; omega) ?_; intro v9 w9 hv9 hg9 hat9)
          have h9 := h8.fr (Fr.alloc w8 (.cells #[.int .i64 k, .int .i64 gr, .int .i64 o, .int .i64 wi, .int .i64 l, .int .i64 sz, .int .i64 f, .int .i64 t] 31))
          have hX := h9.app hv9 hg9 hat9
          clear e0 e1 e2 e3 e4 e5 e6 e7 h8 ev7 h9 hv9 hg9 hat9
          go_roundw
          case rel => exact ⟨nn - 1, _, _, _, _, by go_num, by omega, by simp; omega, hX⟩
          case measure => simp [intOf]; omega
    · have hpos' : nn ≤ 0 := by omega
      go_wp2_with fail
      go_ret
      exact ⟨_, rfl, es, hX.own, by omega, hX.cur, hX.gro⟩
end Go.Proofs.YtikjodbboljhjaaGreatDoor
/-
  The drawing of traces and of lists to be encoded: l5Draw, DrawEncoded.
-/
namespace Go.Proofs.YtikjodbboljhjaaGreatDoor
open Go.RowKit

/-- The cursor's first cell. -/
theorem Cur.c0 {w : World} {g : Nat} (h : Cur w g) : ∃ ao n cap, w.cell? ⟨g, 0, none⟩ = some (.slice ao n cap) ∧ n ≤ 4294967296 := by
  obtain ⟨ao, n, cap, i, hh, hg, hin, hn, hb⟩ := h
  exact ⟨ao, n, cap, by rw [cell_of_row _ _ _ _ _ _ hg]; rfl, hn⟩

set_option maxRecDepth 20000 in
set_option maxHeartbeats 2000000 in
theorem l5Draw_any (g : Nat) (w : World) (hc : Cur w g) :
    Calls Tryz.prog 126 #[.pointer (some ⟨g, 0, none⟩)] w fun x w' => ∃ v : Value, x = .returned v ∧ ∃ es : List Ev, OwnE w' w.heap.size v es ∧ es.length ≤ 58 ∧ Cur w' g ∧ w.grownBy w' (some g) := by
  obtain ⟨ao, n, cap, hn, hnl⟩ := hc.c0
  go_enter Tryz.func126, Tryz.ntmps126
  go_wp2_with fail
  go_region_with (first
    | (go_at_call 127; refine (l1Below_any g _ _ (hc.fr (Fr.drew w))).mono ?_; rintro e w1 ⟨x, rfl, x0, x1, x2, c1, g1⟩; have x3 : x < 50 := x1 (by omega); have hw : IntKind.i64.wrap (8 + x) = 8 + x := (by rw [IntKind.wrap_i64]; omega); obtain ⟨ao1, n1, cap1, hn1, hnl1⟩ := c1.c0)
    | (go_at_call 145; refine (l1Min_any _ _ _).mono ?_; rintro e w2 ⟨rfl, rfl⟩)
    | (go_at_call 163; refine (l5Grow_any g _ _ c1 (by first | omega | (rw [hw]; omega))).mono ?_; rintro e w3 ⟨v, rfl, es, o3, l3, c3, g3⟩))
  all_goals (
    have hsz : w.heap.size ≤ w2.heap.size := g1.size
    go_wp2_with fail
    go_ret
    exact ⟨_, rfl, es, o3.lower hsz, by omega, c3, grown_trans (Fr.drew w).wide (grown_trans g1 g3)⟩)
end Go.Proofs.YtikjodbboljhjaaGreatDoor
/-
  The walks of the laws' markEventS (it writes q, q + 1, .. into a list of events) and heldEventS (are these still there?).
-/
namespace Go.Proofs.YtikjodbboljhjaaGreatDoor
open Go.RowKit

/-- An event of eight numbers in a row. -/
def upE (c : Int) : Ev := ⟨c, c + 1, c + 1 + 1, c + 1 + 1 + 1, c + 1 + 1 + 1 + 1, c + 1 + 1 + 1 + 1 + 1, c + 1 + 1 + 1 + 1 + 1 + 1, c + 1 + 1 + 1 + 1 + 1 + 1 + 1⟩
def upsE (q : Int) (n : Nat) : List Ev := (List.range n).map fun j : Nat => upE (q + 8 * (j : Int))
theorem upsE_length (q : Int) (n : Nat) : (upsE q n).length = n := by simp [upsE]
theorem upsE_succ (q : Int) (n : Nat) : upsE q (n + 1) = upsE q n ++ [upE (q + 8 * (n : Int))] := by simp [upsE, List.range_succ]
theorem upsE_at (q : Int) (n j : Nat) (h : j < (upsE q n).length) : (upsE q n)[j] = upE (q + 8 * (j : Int)) := by simp [upsE]

/-- One event more is marked. -/
theorem marked_step (D : List Ev) (M : List Value) (k n : Nat) (hD : D.length = k) (hk : k < n) (hM : M.length = n * 8) (e : Ev) :
    ((((((((D.flatMap evCells ++ M.drop (k * 8)).set (k * 8) (.int .i64 e.k)).set (k * 8 + 1) (.int .i64 e.g)).set (k * 8 + 2) (.int .i64 e.o)).set (k * 8 + 3) (.int .i64 e.w)).set (k * 8 + 4) (.int .i64 e.l)).set (k * 8 + 5) (.int .i64 e.s)).set (k * 8 + 6) (.int .i64 e.f)).set (k * 8 + 7) (.int .i64 e.t)
      = (D ++ [e]).flatMap evCells ++ M.drop ((k + 1) * 8) := by
  obtain ⟨m0, m1, m2, m3, m4, m5, m6, m7, hd⟩ := drop8 M (k * 8) (by omega)
  have hl : (D.flatMap evCells).length = k * 8 := by rw [cells_len, hD]
  rw [hd, set8 _ _ _ _ _ _ _ _ _ _ _ _ _ _ _ _ _ _ _ hl, show (k + 1) * 8 = k * 8 + 8 by omega, List.flatMap_append]
  simp [evCells]

set_option maxHeartbeats 2000000 in
theorem markEs_any (g n cap base : Nat) (q : Int) (es : List Ev) (w : World) (hn : es.length = n) (q0 : 0 ≤ q) (q1 : q ≤ 4294967296) (h : w.ownsRow base 31 8 (.slice (some ⟨g, 0, none⟩) n cap) n (es.flatMap evCells)) (hl : n ≤ 16777216) :
    Calls Tryz.prog 36 #[.slice (some ⟨g, 0, none⟩) n cap, .int .i64 q] w fun e w' => e = .returned (.int .i64 (q + 8 * (n : Int))) ∧ w'.ownsRow base 31 8 (.slice (some ⟨g, 0, none⟩) n cap) n ((upsE q n).flatMap evCells) ∧ w.grownBy w' (some g) := by
  obtain ⟨M, hM⟩ : ∃ M, M = es.flatMap evCells := ⟨_, rfl⟩
  have hMl : M.length = n * 8 := by rw [hM, cells_len, hn]
  rw [← hM] at h
  clear hM hn
  go_enter Tryz.func36, Tryz.ntmps36
  go_wp2_with fail
  go_loopw [1, 5] (fun c i wr => ∃ k : Nat, k ≤ n ∧ i = .int .i64 k ∧ c = .int .i64 (q + 8 * (k : Int)) ∧ wr.ownsRow base 31 8 (.slice (some ⟨g, 0, none⟩) n cap) n ((upsE q k).flatMap evCells ++ M.drop (k * 8)) ∧ w.grownBy wr (some g)) (fun _ i _ => n - (intOf i).toNat)
  case atStart => exact ⟨0, Nat.zero_le _, rfl, by simp, by simpa [upsE] using h, ⟨rfl, rfl, rfl, Nat.le_refl _, fun _ _ _ => rfl⟩⟩
  case round =>
    obtain ⟨k, hk, rfl, rfl, ho, hf⟩ := hrel
    by_cases hlt : k < n
    · have hll : ((upsE q k).flatMap evCells ++ M.drop (k * 8)).length = n * 8 := ho.1
      have hat : ∀ i, i < 8 → ∃ u, wr.cell? ⟨g, k * 8 + i, none⟩ = some u := fun i hi => by
        rw [ho.cellAt (k * 8 + i) (by omega)]
        exact ⟨_, List.getElem?_eq_getElem (by omega)⟩
      obtain ⟨p0, d0⟩ := hat 0 (by omega)
      obtain ⟨p1, d1⟩ := hat 1 (by omega)
      obtain ⟨p2, d2⟩ := hat 2 (by omega)
      obtain ⟨p3, d3⟩ := hat 3 (by omega)
      obtain ⟨p4, d4⟩ := hat 4 (by omega)
      obtain ⟨p5, d5⟩ := hat 5 (by omega)
      obtain ⟨p6, d6⟩ := hat 6 (by omega)
      obtain ⟨p7, d7⟩ := hat 7 (by omega)
      rw [Nat.add_zero] at d0
      have z0 := ho.frozenAt (k * 8)
      have z1 := ho.frozenAt (k * 8 + 1)
      have z2 := ho.frozenAt (k * 8 + 2)
      have z3 := ho.frozenAt (k * 8 + 3)
      have z4 := ho.frozenAt (k * 8 + 4)
      have z5 := ho.frozenAt (k * 8 + 5)
      have z6 := ho.frozenAt (k * 8 + 6)
      have z7 := ho.frozenAt (k * 8 + 7)
      have hst := own8 ho (k * 8) (.int .i64 (upE (q + 8 * (k : Int))).k) (.int .i64 (upE (q + 8 * (k : Int))).g) (.int .i64 (upE (q + 8 * (k : Int))).o) (.int .i64 (upE (q + 8 * (k : Int))).w) (.int .i64 (upE (q + 8 * (k : Int))).l) (.int .i64 (upE (q + 8 * (k : Int))).s) (.int .i64 (upE (q + 8 * (k : Int))).f) (.int .i64 (upE (q + 8 * (k : Int))).t)
      rw [marked_step (upsE q k) M k n (upsE_length q k) hlt hMl, ← upsE_succ] at hst
      simp only [upE] at hst
      clear hat hll ho h
      go_wp2_with fail
      refine ⟨⟨k + 1, by omega, by go_num, ?_, hst.1, grown_tr hf hst.2⟩, ?_⟩
      · congr 1; push_cast; omega
      · simp only [intOf]; omega
    · have ek : k = n := by omega
      have hd : M.drop (k * 8) = [] := List.drop_eq_nil_of_le (by rw [hMl, ek]; omega)
      rw [hd, List.append_nil, ek] at ho
      have HK : Hid (k = n) := ek
      clear ek hd
      go_wp2_with fail
      go_ret
      refine ⟨?_, ho, hf⟩
      have := HK.out
      exact ret_int (by omega)

end Go.Proofs.YtikjodbboljhjaaGreatDoor
/-
  The drawing of traces that may go wrong: l5DrawAny, DrawLegalLen.
-/
namespace Go.Proofs.YtikjodbboljhjaaGreatDoor
open Go.RowKit

theorem cells_drop : ∀ (es : List Ev) (k : Nat), (es.flatMap evCells).drop (k * 8) = (es.drop k).flatMap evCells
  | _, 0 => by simp
  | [], k + 1 => by simp
  | e :: es, k + 1 => by
    rw [List.flatMap_cons, List.drop_succ_cons, ← cells_drop es k, List.drop_append, List.drop_of_length_le (by simp [evCells]; omega)]
    rw [show (evCells e).length = 8 from rfl, show (k + 1) * 8 - 8 = k * 8 by omega]
    simp
/-- One event put in another's place. -/
theorem OwnE.put {w : World} {base g n cap : Nat} {es : List Ev} (h : w.ownsRow base 31 8 (.slice (some ⟨g, 0, none⟩) n cap) n (es.flatMap evCells)) (hl : es.length ≤ 16777216) (hn : n = es.length) (k : Nat) (hk : k < es.length) (e : Ev) :
    OwnE ((((((((w.setCell ⟨g, k * 8, none⟩ (.int .i64 e.k)).setCell ⟨g, k * 8 + 1, none⟩ (.int .i64 e.g)).setCell ⟨g, k * 8 + 2, none⟩ (.int .i64 e.o)).setCell ⟨g, k * 8 + 3, none⟩ (.int .i64 e.w)).setCell ⟨g, k * 8 + 4, none⟩ (.int .i64 e.l)).setCell ⟨g, k * 8 + 5, none⟩ (.int .i64 e.s)).setCell ⟨g, k * 8 + 6, none⟩ (.int .i64 e.f)).setCell ⟨g, k * 8 + 7, none⟩ (.int .i64 e.t)) base (.slice (some ⟨g, 0, none⟩) n cap) (es.take k ++ [e] ++ es.drop (k + 1)) ∧
    w.grownBy ((((((((w.setCell ⟨g, k * 8, none⟩ (.int .i64 e.k)).setCell ⟨g, k * 8 + 1, none⟩ (.int .i64 e.g)).setCell ⟨g, k * 8 + 2, none⟩ (.int .i64 e.o)).setCell ⟨g, k * 8 + 3, none⟩ (.int .i64 e.w)).setCell ⟨g, k * 8 + 4, none⟩ (.int .i64 e.l)).setCell ⟨g, k * 8 + 5, none⟩ (.int .i64 e.s)).setCell ⟨g, k * 8 + 6, none⟩ (.int .i64 e.f)).setCell ⟨g, k * 8 + 7, none⟩ (.int .i64 e.t)) (some g) := by
  have e0 : es.flatMap evCells = (es.take k).flatMap evCells ++ (es.flatMap evCells).drop (k * 8) := by
    rw [cells_drop, ← List.flatMap_append, List.take_append_drop]
  have hst := own8 h (k * 8) (.int .i64 e.k) (.int .i64 e.g) (.int .i64 e.o) (.int .i64 e.w) (.int .i64 e.l) (.int .i64 e.s) (.int .i64 e.f) (.int .i64 e.t)
  have e1 := marked_step (es.take k) (es.flatMap evCells) k es.length (by simp; omega) hk (cells_len es) e
  rw [← e0, cells_drop, ← List.flatMap_append] at e1
  rw [e1] at hst
  have hlen : (es.take k ++ [e] ++ es.drop (k + 1)).length = es.length := by simp; omega
  refine ⟨⟨g, cap, by rw [hlen, hn], ?_, by rw [hlen]; exact hl⟩, hst.2⟩
  rw [hlen, ← hn]
  exact hst.1

set_option maxRecDepth 20000 in
set_option maxHeartbeats 4000000 in
theorem l5DrawAny_any (g : Nat) (w : World) (hc : Cur w g) :
    Calls Tryz.prog 62 #[.pointer (some ⟨g, 0, none⟩)] w fun x w' => ∃ v : Value, x = .returned v ∧ ∃ es : List Ev, OwnE w' w.heap.size v es ∧ es.length ≤ 301 ∧ w.grownBy w' (some g) := by
  have hg := hc.lt
  go_enter Tryz.func62, Tryz.ntmps62
  go_wp2_with fail
  refine (l5Draw_any _ _ hc).mono ?_
  rintro e w2 ⟨v2, rfl, es, o2, l2, c2, g2⟩
  go_wp2_with fail
  refine (l1Once_any _ _ _ c2).mono ?_
  rintro e w3 ⟨b, rfl, c3, g3⟩
  have o3 := o2.keep g3 (fun q => by have := o2.blk _ q; omega)
  have G3 := grown_trans g2 g3
  clear o2 c2 g2 g3 hc
  cases b
  · obtain ⟨ox, lx, cx, Gx⟩ : OwnE w3 w.heap.size v2 es ∧ es.length ≤ 58 ∧ Cur w3 g ∧ w.grownBy w3 (some g) := ⟨o3, l2, c3, G3⟩
    clear o3 l2 c3 G3
    obtain ⟨xs, hxs⟩ : ∃ xs, xs = es := ⟨_, rfl⟩
    rw [← hxs] at ox lx
    clear hxs es
    go_wp2_with fail
    refine (l1Once_any _ _ _ cx).mono ?_
    rintro e w6 ⟨b6, rfl, c6, g6⟩
    have o6 := ox.keep g6 (fun q => by have := ox.blk _ q; omega)
    have G6 := grown_trans Gx g6
    clear ox cx Gx g6
    cases b6
    · go_wp2_with fail
      go_ret
      exact ⟨_, rfl, xs, o6, by omega, G6⟩
    · clear o6 lx xs
      have s6 := G6.size
      go_wp2_with fail
      refine (l1Below_any _ _ _ (c6.fr (Fr.alloc _ _))).mono ?_
      rintro e w7 ⟨x, rfl, x0, x1, x2, c7, g7⟩
      have x3 : x < 2 := x1 (by omega)
      have o7 := ((ownE_new w6).lower (base' := w.heap.size) s6).keep g7 (by simp [Value.ownBlock]; omega)
      have G7 := grown_trans (grown_trans G6 (Fr.alloc w6 (.cells #[] 31)).wide) g7
      clear x1 x2 g7 c6 G6
      go_wp2_with fail
      go_loopw [3, 5] (fun u q wr => ∃ (nn : Int) (es : List Ev), q = .int .i64 nn ∧ nn ≤ 301 ∧ es.length + nn.toNat ≤ 301 ∧ OwnE wr w.heap.size u es ∧ w.grownBy wr (some g)) (fun _ q _ => (intOf q).toNat)
      case atStart => exact ⟨300 + x, [], by go_num, by omega, by simp; omega, o7, G7⟩
      case round =>
        clear o7 G7
        obtain ⟨nn, es, rfl, hnn, hel, o8, G8⟩ := hrel
        have s8 := G8.size
        by_cases hpos : 0 < nn
        · go_wp2_with (at_builtin; refine appE _ rfl _ _ rfl w.heap.size u3 es ⟨17, 0, 0, 0, 0, 0, 0, 0⟩ rfl (o8.fr (Fr.alloc _ _)) _ _ rfl (evC_new wr ⟨17, 0, 0, 0, 0, 0, 0, 0⟩) (by omega) (by simp; omega) ?_; intro v9 w9 hv9 hg9 hat9)
          have k9 := grown_trans (Fr.alloc wr (.cells #[.int .i64 17, .int .i64 0, .int .i64 0, .int .i64 0, .int .i64 0, .int .i64 0, .int .i64 0, .int .i64 0] 31)).wide hg9
          go_roundw
          case rel => exact ⟨nn - 1, _, by go_num, by omega, by simp; omega, hv9, grown_then G8 k9 (fun j hj => .inl (o8.blk j hj))⟩
          case measure => simp [intOf]; omega
        · have hpos' : nn ≤ 0 := by omega
          go_wp2_with fail
          go_ret
          exact ⟨_, rfl, es, o8, by omega, G8⟩
  by_cases he : es = []
  · subst he
    obtain ⟨gv, cap, rfl, ov, hl⟩ := o3
    obtain ⟨ox, lx, cx, Gx⟩ : OwnE w3 w.heap.size (.slice (some ⟨gv, 0, none⟩) 0 cap) [] ∧ ([] : List Ev).length ≤ 58 ∧ Cur w3 g ∧ w.grownBy w3 (some g) := ⟨⟨gv, cap, rfl, ov, hl⟩, l2, c3, G3⟩
    clear ov l2 c3 G3 hl
    obtain ⟨xs, hxs⟩ : ∃ xs : List Ev, xs = [] := ⟨_, rfl⟩
    rw [← hxs] at ox lx
    clear hxs
    simp only [List.length_nil]
    go_wp2_with fail
    refine (l1Once_any _ _ _ cx).mono ?_
    rintro e w6 ⟨b6, rfl, c6, g6⟩
    have o6 := ox.keep g6 (fun q => by have := ox.blk _ q; omega)
    have G6 := grown_trans Gx g6
    clear ox cx Gx g6
    cases b6
    · go_wp2_with fail
      go_ret
      exact ⟨_, rfl, xs, o6, by omega, G6⟩
    · clear o6 lx xs
      have s6 := G6.size
      go_wp2_with fail
      refine (l1Below_any _ _ _ (c6.fr (Fr.alloc _ _))).mono ?_
      rintro e w7 ⟨x, rfl, x0, x1, x2, c7, g7⟩
      have x3 : x < 2 := x1 (by omega)
      have o7 := ((ownE_new w6).lower (base' := w.heap.size) s6).keep g7 (by simp [Value.ownBlock]; omega)
      have G7 := grown_trans (grown_trans G6 (Fr.alloc w6 (.cells #[] 31)).wide) g7
      clear x1 x2 g7 c6 G6
      go_wp2_with fail
      go_loopw [3, 5] (fun u q wr => ∃ (nn : Int) (es : List Ev), q = .int .i64 nn ∧ nn ≤ 301 ∧ es.length + nn.toNat ≤ 301 ∧ OwnE wr w.heap.size u es ∧ w.grownBy wr (some g)) (fun _ q _ => (intOf q).toNat)
      case atStart => exact ⟨300 + x, [], by go_num, by omega, by simp; omega, o7, G7⟩
      case round =>
        clear o7 G7
        obtain ⟨nn, es, rfl, hnn, hel, o8, G8⟩ := hrel
        have s8 := G8.size
        by_cases hpos : 0 < nn
        · go_wp2_with (at_builtin; refine appE _ rfl _ _ rfl w.heap.size u3 es ⟨17, 0, 0, 0, 0, 0, 0, 0⟩ rfl (o8.fr (Fr.alloc _ _)) _ _ rfl (evC_new wr ⟨17, 0, 0, 0, 0, 0, 0, 0⟩) (by omega) (by simp; omega) ?_; intro v9 w9 hv9 hg9 hat9)
          have k9 := grown_trans (Fr.alloc wr (.cells #[.int .i64 17, .int .i64 0, .int .i64 0, .int .i64 0, .int .i64 0, .int .i64 0, .int .i64 0, .int .i64 0] 31)).wide hg9
          go_roundw
          case rel => exact ⟨nn - 1, _, by go_num, by omega, by simp; omega, hv9, grown_then G8 k9 (fun j hj => .inl (o8.blk j hj))⟩
          case measure => simp [intOf]; omega
        · have hpos' : nn ≤ 0 := by omega
          go_wp2_with fail
          go_ret
          exact ⟨_, rfl, es, o8, by omega, G8⟩
  · have hpos : 0 < es.length := List.length_pos_iff.2 he
    have hposI : (0 : Int) < es.length := by omega
    clear he
    obtain ⟨gv, cap, rfl, -, -⟩ := id o3
    go_wp2_with fail
    refine (l1Below_any _ _ _ c3).mono ?_
    rintro e w4 ⟨ki, rfl, k0, k1, -, c4, g4⟩
    have k1 := k1 (by omega)
    have o4 := o3.keep g4 (fun q => by have := o3.blk _ q; omega)
    have G4 := grown_trans G3 g4
    clear o3 c3 G3 g4
    go_wp2_with fail
    refine (l2DrawAny_any _ _ c4).mono ?_
    rintro e w5 ⟨⟨k, gr, o, wi, l, sz, f, t⟩, rfl, -, c5, g5⟩
    have o5 := o4.keep g5 (fun q => by have := o4.blk _ q; omega)
    have G5 := grown_trans G4 g5
    clear o4 c4 G4 g5
    obtain ⟨gv', cap', ee, ov, hl⟩ := o5
    cases ee
    have hgv := ov.lt gv rfl
    obtain ⟨kn, rfl⟩ : ∃ kn : Nat, ki = kn := ⟨ki.toNat, by omega⟩
    have hkn : kn < es.length := by omega
    have hat : ∀ i, i < 8 → ∃ u, w5.cell? ⟨gv, kn * 8 + i, none⟩ = some u := fun i hi => by
      rw [ov.cellAt (kn * 8 + i) (by omega)]
      exact ⟨_, List.getElem?_eq_getElem (by rw [cells_len]; omega)⟩
    obtain ⟨p0, d0⟩ := hat 0 (by omega)
    obtain ⟨p1, d1⟩ := hat 1 (by omega)
    obtain ⟨p2, d2⟩ := hat 2 (by omega)
    obtain ⟨p3, d3⟩ := hat 3 (by omega)
    obtain ⟨p4, d4⟩ := hat 4 (by omega)
    obtain ⟨p5, d5⟩ := hat 5 (by omega)
    obtain ⟨p6, d6⟩ := hat 6 (by omega)
    obtain ⟨p7, d7⟩ := hat 7 (by omega)
    rw [Nat.add_zero] at d0
    have z0 := ov.frozenAt (kn * 8)
    have z1 := ov.frozenAt (kn * 8 + 1)
    have z2 := ov.frozenAt (kn * 8 + 2)
    have z3 := ov.frozenAt (kn * 8 + 3)
    have z4 := ov.frozenAt (kn * 8 + 4)
    have z5 := ov.frozenAt (kn * 8 + 5)
    have z6 := ov.frozenAt (kn * 8 + 6)
    have z7 := ov.frozenAt (kn * 8 + 7)
    obtain ⟨ox, k8⟩ := OwnE.put ov hl rfl kn hkn ⟨k, gr, o, wi, l, sz, f, t⟩
    simp only at ox k8
    have Gx := grown_then G5 k8 (fun j hj => by simp only [Option.some.injEq] at hj; exact .inl (by omega))
    have cx := c5.other k8 (fun j hj => by simp only [Option.some.injEq] at hj; omega)
    have lx : (es.take kn ++ [(⟨k, gr, o, wi, l, sz, f, t⟩ : Ev)] ++ es.drop (kn + 1)).length ≤ 58 := by simp; omega
    obtain ⟨xs, hxs⟩ : ∃ xs, xs = es.take kn ++ [(⟨k, gr, o, wi, l, sz, f, t⟩ : Ev)] ++ es.drop (kn + 1) := ⟨_, rfl⟩
    rw [← hxs] at ox lx
    clear hxs hat k8 c5 G5 ov
    go_upto_region 5 with fail
    clear p0 p1 p2 p3 p4 p5 p6 p7 d0 d1 d2 d3 d4 d5 d6 d7 z0 z1 z2 z3 z4 z5 z6 z7
    obtain ⟨wx, hwx⟩ : ∃ wx, wx = ((((((((w5.setCell ⟨gv, kn * 8, none⟩ (.int .i64 k)).setCell ⟨gv, kn * 8 + 1, none⟩ (.int .i64 gr)).setCell ⟨gv, kn * 8 + 2, none⟩ (.int .i64 o)).setCell ⟨gv, kn * 8 + 3, none⟩ (.int .i64 wi)).setCell ⟨gv, kn * 8 + 4, none⟩ (.int .i64 l)).setCell ⟨gv, kn * 8 + 5, none⟩ (.int .i64 sz)).setCell ⟨gv, kn * 8 + 6, none⟩ (.int .i64 f)).setCell ⟨gv, kn * 8 + 7, none⟩ (.int .i64 t)) := ⟨_, rfl⟩
    rw [← hwx] at ox cx Gx ⊢
    clear hwx
    go_wp2_with fail
    refine (l1Once_any _ _ _ cx).mono ?_
    rintro e w6 ⟨b6, rfl, c6, g6⟩
    have o6 := ox.keep g6 (fun q => by have := ox.blk _ q; omega)
    have G6 := grown_trans Gx g6
    clear ox cx Gx g6
    cases b6
    · go_wp2_with fail
      go_ret
      exact ⟨_, rfl, xs, o6, by omega, G6⟩
    · clear o6 lx xs
      have s6 := G6.size
      go_wp2_with fail
      refine (l1Below_any _ _ _ (c6.fr (Fr.alloc _ _))).mono ?_
      rintro e w7 ⟨x, rfl, x0, x1, x2, c7, g7⟩
      have x3 : x < 2 := x1 (by omega)
      have o7 := ((ownE_new w6).lower (base' := w.heap.size) s6).keep g7 (by simp [Value.ownBlock]; omega)
      have G7 := grown_trans (grown_trans G6 (Fr.alloc w6 (.cells #[] 31)).wide) g7
      clear x1 x2 g7 c6 G6
      go_wp2_with fail
      go_loopw [3, 5] (fun u q wr => ∃ (nn : Int) (es : List Ev), q = .int .i64 nn ∧ nn ≤ 301 ∧ es.length + nn.toNat ≤ 301 ∧ OwnE wr w.heap.size u es ∧ w.grownBy wr (some g)) (fun _ q _ => (intOf q).toNat)
      case atStart => exact ⟨300 + x, [], by go_num, by omega, by simp; omega, o7, G7⟩
      case round =>
        clear o7 G7
        obtain ⟨nn, es, rfl, hnn, hel, o8, G8⟩ := hrel
        have s8 := G8.size
        by_cases hpos : 0 < nn
        · go_wp2_with (at_builtin; refine appE _ rfl _ _ rfl w.heap.size u3 es ⟨17, 0, 0, 0, 0, 0, 0, 0⟩ rfl (o8.fr (Fr.alloc _ _)) _ _ rfl (evC_new wr ⟨17, 0, 0, 0, 0, 0, 0, 0⟩) (by omega) (by simp; omega) ?_; intro v9 w9 hv9 hg9 hat9)
          have k9 := grown_trans (Fr.alloc wr (.cells #[.int .i64 17, .int .i64 0, .int .i64 0, .int .i64 0, .int .i64 0, .int .i64 0, .int .i64 0, .int .i64 0] 31)).wide hg9
          go_roundw
          case rel => exact ⟨nn - 1, _, by go_num, by omega, by simp; omega, hv9, grown_then G8 k9 (fun j hj => .inl (o8.blk j hj))⟩
          case measure => simp [intOf]; omega
        · have hpos' : nn ≤ 0 := by omega
          go_wp2_with fail
          go_ret
          exact ⟨_, rfl, es, o8, by omega, G8⟩

set_option maxHeartbeats 1000000 in
theorem drawLegal_any (ao : Option Addr) (n cap : Nat) (w : World) (h : ByteRow w ao n) (hn : n ≤ 4294967296) :
    Calls Tryz.prog 19 #[.slice ao n cap] w fun x w' => ∃ v : Value, x = .returned v ∧ ∃ es : List Ev, OwnE w' w.heap.size v es ∧ es.length ≤ 301 ∧ Fr w w' := by
  go_enter Tryz.func19, Tryz.ntmps19
  go_wp2_with fail
  refine (l1New_any _ _ _ _ h hn).mono ?_
  rintro e w1 ⟨rfl, c1, f1⟩
  go_wp2_with fail
  refine (l5DrawAny_any _ _ c1).mono ?_
  rintro e w2 ⟨v2, rfl, es, o2, l2, g2⟩
  go_wp2_with fail
  go_ret
  exact ⟨_, rfl, es, o2.lower (by have := f1.size; omega), l2, f1.then g2 (fun j hj => by simp only [Option.some.injEq] at hj; omega)⟩
/-- A first part of a slice of events. -/
theorem ReadsE.take {w : World} {ao : Option Addr} {es : List Ev} (h : ReadsE w ao es) (k : Nat) : ReadsE w ao (es.take k) := by
  refine ⟨by have := h.len; simp; omega, fun i hi => ?_⟩
  obtain ⟨b, off, e, hc⟩ := h.at_ i (by simp at hi; omega)
  refine ⟨b, off, e, fun j hj => ?_⟩
  rw [List.getElem_take]
  exact hc j (by simp at hj; omega)
end Go.Proofs.YtikjodbboljhjaaGreatDoor
