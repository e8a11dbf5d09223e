/-
  Pack AW: ScLeg, ScIter, ScPart, ScLen, ScLegP, TchMod, TchAll, TchOf, OrdMod.
-/
import Derived.Test.YtcofhmikdkkigaaGreatDoorPrAO
import Derived.Test.YtcofhmikdkkigaaGreatDoorPrAT
import Derived.Test.YtcofhmikdkkigaaGreatDoorPrAD
import Derived.Deep.RegionHeld3
import Derived.Deep.RegionWith
import Derived.BigRegion
import Derived.Test.YtcofhmikdkkigaaGreatDoorPrAA
import Derived.Shelf.Abstract
import Derived.Shelf.RegionOpen
import Derived.WalkKit
import Derived.OwnWalkIn
import Derived.TacticsInMore
import Derived.LoopNIn
import Derived.LoopIn
import Derived.Test.YtcofhmikdkkigaaGreatDoorPrAU
import Derived.Test.YtcofhmikdkkigaaGreatDoorPrAI
import Derived.Test.YtcofhmikdkkigaaGreatDoorPrAJ
import Derived.Test.YtcofhmikdkkigaaGreatDoorPrAH
import Derived.Test.YtcofhmikdkkigaaGreatDoorPrAE
import Derived.Test.YtcofhmikdkkigaaGreatDoorPrAV
namespace Go.Proofs.YtcofhmikdkkigaaGreatDoor
open Go.RowKit

def legS : Scn → List Ev → Scn × Nat × Int
  | m, [] => (m, 0, 0)
  | m, e :: es => if codeIn m e = 0 then ((legS (doS m e) es).1, (legS (doS m e) es).2.1 + 1, (legS (doS m e) es).2.2) else (m, 0, codeIn m e)
theorem leg_go {m : Scn} {e : Ev} {es : List Ev} (h : codeIn m e = 0) : legS m (e :: es) = ((legS (doS m e) es).1, (legS (doS m e) es).2.1 + 1, (legS (doS m e) es).2.2) := by rw [legS, if_pos h]
theorem leg_no {m : Scn} {e : Ev} {es : List Ev} (h : ¬ codeIn m e = 0) : legS m (e :: es) = (m, 0, codeIn m e) := by rw [legS, if_neg h]
def LegAt (es : List Ev) (k : Nat) (m : Scn) : Prop := legS scn0 es = ((legS m (es.drop k)).1, k + (legS m (es.drop k)).2.1, (legS m (es.drop k)).2.2)
theorem LegAt.start (es : List Ev) : LegAt es 0 scn0 := by simp [LegAt]
theorem LegAt.next {es : List Ev} {k : Nat} {m : Scn} (h : LegAt es k m) (hk : k < es.length) (hc : codeIn m es[k] = 0) : LegAt es (k + 1) (doS m es[k]) := by
  unfold LegAt at h ⊢
  rw [h, List.drop_eq_getElem_cons hk, leg_go hc]
  simp only [Prod.mk.injEq, true_and, and_true]
  omega
theorem LegAt.stop {es : List Ev} {k : Nat} {m : Scn} (h : LegAt es k m) (hk : k < es.length) (hc : ¬ codeIn m es[k] = 0) : legS scn0 es = (m, k, codeIn m es[k]) := by
  unfold LegAt at h
  rw [h, List.drop_eq_getElem_cons hk, leg_no hc]
  rfl
theorem LegAt.done {es : List Ev} {m : Scn} (h : LegAt es es.length m) : legS scn0 es = (m, es.length, 0) := by
  unfold LegAt at h
  rw [h, List.drop_length]
  rfl

structure SX (B : Nat → Prop) (w0 : World) (rb sb : Nat) (s : Sv) (m : Scn) (wr : World) : Prop where
  fr : Fr w0 wr
  sc : ScK wr sb s
  rk : ScK wr rb ⟨0, none, 0, 0, none, 0, 0, none, 0, 0, none, 0, 0⟩
  scr : ScR B wr s m
  sl : w0.heap.size ≤ rb ∧ rb < sb
  bB : ∀ b, B b → b < wr.heap.size ∧ b ≠ sb ∧ b ≠ rb
theorem SX.grow {B : Nat → Prop} {w0 wr w' : World} {rb sb : Nat} {s : Sv} {m : Scn} (h : SX B w0 rb sb s m wr) (k : Fr wr w') : SX B w0 rb sb s m w' := by
  have hs := k.size
  exact { h with fr := h.fr.trans k, sc := h.sc.fr k, rk := h.rk.fr k, scr := h.scr.fr k, bB := fun b hb => ⟨by have := (h.bB b hb).1; omega, (h.bB b hb).2⟩ }
theorem SX.scene {B : Nat → Prop} {w0 w1 wr : World} {rb sb : Nat} {s s' : Sv} {m m' : Scn} (h1 : SX B w0 rb sb s m w1) (f : Fr w1 wr) (hS : ScR (Grew B w1 wr) wr s' m') :
    SX (Grew B w1 wr) w0 rb sb s' m' (((((wr.setCell ⟨sb, 0, none⟩ (.int .i64 s'.g)).setCell ⟨sb, 1, none⟩ (.slice s'.lo s'.ll s'.lc)).setCell ⟨sb, 2, none⟩ (.slice s'.co s'.cl s'.cc)).setCell ⟨sb, 3, none⟩ (.slice s'.no s'.nl s'.nc)).setCell ⟨sb, 4, none⟩ (.slice s'.oo s'.ol s'.oc)) := by
  have h := h1.grow f
  have k := put5 wr sb (.int .i64 s'.g) (.slice s'.lo s'.ll s'.lc) (.slice s'.co s'.cl s'.cc) (.slice s'.no s'.nl s'.nc) (.slice s'.oo s'.ol s'.oc)
  have hs := k.size
  have hsl := h1.sl
  have h5 := h1.sc.lt
  have hb : ∀ b, Grew B w1 wr b → b < wr.heap.size ∧ b ≠ sb ∧ b ≠ rb := by
    rintro b (hb | ⟨h3, h4⟩)
    · exact h.bB b hb
    · exact ⟨h4, by omega, by omega⟩
  refine { h with fr := h.fr.then k (fun j hj => by simp only [Option.some.injEq] at hj; omega), sc := ?_, rk := h.rk.keep k (by simp; omega), scr := hS.keep k (fun j hj => by cases hj; exact fun q => (hb _ q).2.1 rfl), bB := fun b q => ⟨by have := (hb b q).1; omega, (hb b q).2⟩ }
  have e0 := heap_setCell_same wr sb 0 _ _ (.int .i64 s'.g) h.sc
  have e1 := heap_setCell_same _ sb 1 _ _ (.slice s'.lo s'.ll s'.lc) e0
  have e2 := heap_setCell_same _ sb 2 _ _ (.slice s'.co s'.cl s'.cc) e1
  have e3 := heap_setCell_same _ sb 3 _ _ (.slice s'.no s'.nl s'.nc) e2
  exact heap_setCell_same _ sb 4 _ _ (.slice s'.oo s'.ol s'.oc) e3

set_option maxRecDepth 20000 in
set_option maxHeartbeats 4000000 in
theorem l5Scene_any (ao : Option Addr) (n c : Nat) (es : List Ev) (w : World) (hn : es.length = n) (h : ReadsE w ao es) :
    Calls Tryz.prog 127 #[.slice ao n c] w fun x w' => ∃ (s : Sv) (B : Nat → Prop), x = .returned (.tuple #[.agg #[.int .i64 s.g, .slice s.lo s.ll s.lc, .slice s.co s.cl s.cc, .slice s.no s.nl s.nc, .slice s.oo s.ol s.oc], .int .i64 (legS scn0 es).2.1, .int .i64 (legS scn0 es).2.2]) ∧ ScR B w' s (legS scn0 es).1 ∧ (∀ b, B b → w.heap.size ≤ b ∧ b < w'.heap.size) ∧ Fr w w' := by
  subst hn
  have hl := h.len
  have f0 := Fr.alloc w (.cells #[.int .i64 0, .slice none 0 0, .slice none 0 0, .slice none 0 0, .slice none 0 0] 29)
  have k0 := ScK.new w ⟨0, none, 0, 0, none, 0, 0, none, 0, 0, none, 0, 0⟩
  simp only at k0
  go_enter Tryz.func127, Tryz.ntmps127
  go_wp2_with fail
  obtain ⟨W, hW⟩ : ∃ W, W = w.alloc (.cells #[.int .i64 0, .slice none 0 0, .slice none 0 0, .slice none 0 0, .slice none 0 0] 29) := ⟨_, rfl⟩
  rw [← hW] at f0 k0 ⊢
  obtain ⟨rb, hrb⟩ : ∃ rb, rb = w.heap.size := ⟨_, rfl⟩
  rw [← hrb] at k0 ⊢
  refine (newScene_any (fun _ => False) W).mono ?_
  rintro x w1 ⟨⟨sg, lo, ll, lc, co, cl, cc, no, nl, nc, oo, ol, oc⟩, rfl, hS, f1⟩
  have fA := Fr.alloc w1 (.cells #[.int .i64 sg, .slice lo ll lc, .slice co cl cc, .slice no nl nc, .slice oo ol oc] 29)
  have kS := ScK.new w1 ⟨sg, lo, ll, lc, co, cl, cc, no, nl, nc, oo, ol, oc⟩
  have hX : SX (fun _ => False) w rb w1.heap.size ⟨sg, lo, ll, lc, co, cl, cc, no, nl, nc, oo, ol, oc⟩ scn0 (w1.alloc (.cells #[.int .i64 sg, .slice lo ll lc, .slice co cl cc, .slice no nl nc, .slice oo ol oc] 29)) :=
    ⟨f0.trans (f1.trans fA), kS, k0.fr (f1.trans fA), hS.fr fA, ⟨by omega, by have := k0.lt; have := f1.size; omega⟩, fun b hb => hb.elim⟩
  clear hW hrb f0 k0 fA kS hS
  go_wp2_with fail
  obtain ⟨V, hV⟩ : ∃ V, V = w1.alloc (.cells #[.int .i64 sg, .slice lo ll lc, .slice co cl cc, .slice no nl nc, .slice oo ol oc] 29) := ⟨_, rfl⟩
  rw [← hV] at hX ⊢
  obtain ⟨sb, hsb⟩ : ∃ sb, sb = w1.heap.size := ⟨_, rfl⟩
  rw [← hsb] at hX ⊢
  clear hV hsb f1
  go_loopw [6] (fun i wr => ∃ (k : Nat) (s : Sv) (m : Scn) (B : Nat → Prop), k ≤ es.length ∧ i = .int .i64 k ∧ Hid (LegAt es k m) ∧ SX B w rb sb s m wr ∧ Hid (∀ b, B b → w.heap.size ≤ b)) (fun i _ => es.length - (intOf i).toNat)
  case atStart => exact ⟨0, _, _, _, Nat.zero_le _, rfl, LegAt.start es, hX, fun b hb => hb.elim⟩
  case round =>
    clear hX
    obtain ⟨k, ⟨sg, lo, ll, lc, co, cl, cc, no, nl, nc, oo, ol, oc⟩, m, B, hk, rfl, HL, hX, HB⟩ := hrel
    obtain ⟨s0, s1, s2, s3, s4⟩ := hX.sc.at
    simp only at s0 s1 s2 s3 s4
    by_cases hlt : k < es.length
    · obtain ⟨eb, off, rfl, hev⟩ := h.at_ k hlt
      have ev := (hev k hlt)
      clear hev
      have HN : Hid (codeIn m es[k] = 0 → LegAt es (k + 1) (doS m es[k])) := fun q => HL.out.next hlt q
      have HT : Hid (¬ codeIn m es[k] = 0 → legS scn0 es = (m, k, codeIn m es[k])) := fun q => HL.out.stop hlt q
      have cI := fun u (f : Fr wr u) => codeIn_all ⟨sg, lo, ll, lc, co, cl, cc, no, nl, nc, oo, ol, oc⟩ m es[k] u (hX.scr.fr f)
      have cD := fun (q : codeIn m es[k] = 0) u (hu : Fr wr u) (hlt2 : ∀ b, B b → b < u.heap.size) => l4Do_any ⟨sg, lo, ll, lc, co, cl, cc, no, nl, nc, oo, ol, oc⟩ m es[k] u (code_parts q).2.1 (code_parts q).1 hlt2 (hX.scr.fr hu)
      have hi : (k : Int) < es.length := by omega
      obtain ⟨e, he⟩ : ∃ e, e = es[k] := ⟨_, rfl⟩
      rw [← he] at ev HN HT
      simp only [← he] at cI cD
      clear he
      obtain ⟨C, hC⟩ : ∃ C, C = codeIn m e := ⟨_, rfl⟩
      rw [← hC] at HN HT
      simp only [← hC] at cI cD
      clear hC
      obtain ⟨D, hD⟩ : ∃ D, D = doS m e := ⟨_, rfl⟩
      rw [← hD] at HN
      simp only [← hD] at cD
      clear hD
      obtain ⟨ek, eg, ej, ew, el, ez, ef, et⟩ := e
      simp only at cI cD
      have hblt : eb < w.heap.size := World.block_lt_of_cell? w _ ev.c0
      have HQ : Hid (∀ u, Fr wr u → ScB u sb ⟨sg, lo, ll, lc, co, cl, cc, no, nl, nc, oo, ol, oc⟩ ∧ EvC u eb (off + k * 8) ⟨ek, eg, ej, ew, el, ez, ef, et⟩) := fun u f => ⟨(hX.sc.fr f).at, ev.keep (hX.fr.trans f) (by simp)⟩
      clear s0 s1 s2 s3 s4 ev
      obtain ⟨⟨s0, s1, s2, s3, s4⟩, c0, c1, c2, c3, c4, c5, c6, c7⟩ := HQ.out wr (Fr.refl wr)
      simp only at s0 s1 s2 s3 s4 c0 c1 c2 c3 c4 c5 c6 c7
      have hX1 := hX
      go_wp2_with fail
      go_region_held3 (fun u => u.cell? ⟨sb, 0, none⟩ = some (.int .i64 sg) ∧ u.cell? ⟨sb, 1, none⟩ = some (.slice lo ll lc) ∧ u.cell? ⟨sb, 2, none⟩ = some (.slice co cl cc) ∧ u.cell? ⟨sb, 3, none⟩ = some (.slice no nl nc) ∧ u.cell? ⟨sb, 4, none⟩ = some (.slice oo ol oc) ∧ u.cell? ⟨eb, off + k * 8, none⟩ = some (.int .i64 ek) ∧ u.cell? ⟨eb, off + k * 8 + 1, none⟩ = some (.int .i64 eg) ∧ u.cell? ⟨eb, off + k * 8 + 2, none⟩ = some (.int .i64 ej) ∧ u.cell? ⟨eb, off + k * 8 + 3, none⟩ = some (.int .i64 ew) ∧ u.cell? ⟨eb, off + k * 8 + 4, none⟩ = some (.int .i64 el) ∧ u.cell? ⟨eb, off + k * 8 + 5, none⟩ = some (.int .i64 ez) ∧ u.cell? ⟨eb, off + k * 8 + 6, none⟩ = some (.int .i64 ef) ∧ u.cell? ⟨eb, off + k * 8 + 7, none⟩ = some (.int .i64 et)) (go_keep)
        (first | (go_at_call 14; refine (cI _ (Fr.drew wr)).mono ?_; rintro x u2 ⟨rfl, f2⟩; have g2 := (Fr.drew wr).trans f2; obtain ⟨⟨p0, p1, p2, p3, p4⟩, q0, q1, q2, q3, q4, q5, q6, q7⟩ := HQ.out _ g2; simp only at p0 p1 p2 p3 p4 q0 q1 q2 q3 q4 q5 q6 q7))
      clear s0 s1 s2 s3 s4 c0 c1 c2 c3 c4 c5 c6 c7 cI
      have hX2 := hX.grow g2
      by_cases hc : C = 0
      · have hcb : (C != 0) = false := by simp [hc]
        have HN := HN.out hc
        have cD := cD hc
        have HN : Hid (LegAt es (k + 1) D) := HN
        clear hc HT
        have hbl := fun b (q : B b) => (hX2.bB b q).1
        have cD := cD u2.drew (g2.trans (Fr.drew u2)) hbl
        go_wp2_with fail
        go_region_with (go_at_call 129; refine cD.mono ?_; rintro x u3 ⟨⟨g', lo1, ll1, lc1, co1, cl1, cc1, no1, nl1, nc1, oo1, ol1, oc1⟩, rfl, hS, f3⟩; obtain ⟨j0, j1, j2, j3, j4⟩ := (hX2.sc.fr ((Fr.drew u2).trans f3)).at; simp only at j0 j1 j2 j3 j4; have jf0 := (hX2.sc.fr ((Fr.drew u2).trans f3)).free 0; have jf1 := (hX2.sc.fr ((Fr.drew u2).trans f3)).free 1; have jf2 := (hX2.sc.fr ((Fr.drew u2).trans f3)).free 2; have jf3 := (hX2.sc.fr ((Fr.drew u2).trans f3)).free 3; have jf4 := (hX2.sc.fr ((Fr.drew u2).trans f3)).free 4)
        all_goals
          have hX3 := hX2.scene ((Fr.drew u2).trans f3) hS
          have HB3 : Hid (∀ b, Grew B u2 u3 b → w.heap.size ≤ b) := fun b q => by
            have := hX2.fr.size
            rcases q with q | q
            · exact HB.out b q
            · omega
          simp only at hX3
          clear j0 j1 j2 j3 j4 jf0 jf1 jf2 jf3 jf4
          obtain ⟨V3, hV3⟩ : ∃ V, V = (((((u3.setCell ⟨sb, 0, none⟩ (.int .i64 g')).setCell ⟨sb, 1, none⟩ (.slice lo1 ll1 lc1)).setCell ⟨sb, 2, none⟩ (.slice co1 cl1 cc1)).setCell ⟨sb, 3, none⟩ (.slice no1 nl1 nc1)).setCell ⟨sb, 4, none⟩ (.slice oo1 ol1 oc1)) := ⟨_, rfl⟩
          rw [← hV3] at hX3 ⊢
          clear hV3 hS f3 p0 p1 p2 p3 p4 q0 q1 q2 q3 q4 q5 q6 q7
          go_wp2_with fail
          go_roundw
          case rel => exact ⟨k + 1, _, _, _, by omega, by go_num, HN, hX3, HB3⟩
          case measure => simp [intOf]; omega
      · have hcb : (C != 0) = true := by simpa using hc
        have HT := HT.out hc
        have HT : Hid (legS scn0 es = (m, k, C)) := HT
        clear hc HN cD q0 q1 q2 q3 q4 q5 q6 q7
        obtain ⟨j0, j1, j2, j3, j4⟩ := hX2.rk.at
        have jf := fun i => hX2.rk.free i
        simp only at j0 j1 j2 j3 j4
        have HF := do_fin (B := B) (Bx := B) (w := w) hX2.scr (fun q => (hX2.bB _ q).2.2 rfl) (fun b q => .inl q) hX2.sl.1 hX2.fr (.int .i64 sg) (.slice lo ll lc) (.slice co cl cc) (.slice no nl nc) (.slice oo ol oc)
        have HF : Hid _ := HF
        have HS : Hid (∀ b, B b → b < u2.heap.size) := fun b q => (hX2.bB b q).1
        go_wp2_with fail
        refine bodyPost_ret (v := .tuple #[.agg #[.int .i64 sg, .slice lo ll lc, .slice co cl cc, .slice no nl nc, .slice oo ol oc], .int .i64 k, .int .i64 C]) (by simp [results, Tryz.results127, go_sem, j0, j1, j2, j3, j4]) rfl ⟨⟨sg, lo, ll, lc, co, cl, cc, no, nl, nc, oo, ol, oc⟩, B, ?_, ?_, ?_, HF.out.2⟩
        · rw [HT.out]
        · rw [HT.out]
          exact hX2.scr.keep (put5 _ _ _ _ _ _ _) (fun j hj => by cases hj; exact fun q => (hX2.bB _ q).2.2 rfl)
        · intro b q
          have h1 := HB.out b q
          have h2 := HS.out b q
          have h3 := (put5 u2 rb (.int .i64 sg) (.slice lo ll lc) (.slice co cl cc) (.slice no nl nc) (.slice oo ol oc)).size
          exact ⟨h1, by omega⟩
    · have hke : k = es.length := by omega
      have HT : Hid (legS scn0 es = (m, es.length, 0)) := LegAt.done (by rw [← hke]; exact HL.out)
      have hX2 := hX
      clear HL
      obtain ⟨j0, j1, j2, j3, j4⟩ := hX2.rk.at
      have jf := fun i => hX2.rk.free i
      simp only at j0 j1 j2 j3 j4
      have HF := do_fin (B := B) (Bx := B) (w := w) hX2.scr (fun q => (hX2.bB _ q).2.2 rfl) (fun b q => .inl q) hX2.sl.1 hX2.fr (.int .i64 sg) (.slice lo ll lc) (.slice co cl cc) (.slice no nl nc) (.slice oo ol oc)
      have HF : Hid _ := HF
      have HS : Hid (∀ b, B b → b < wr.heap.size) := fun b q => (hX2.bB b q).1
      go_wp2_with fail
      refine bodyPost_ret (v := .tuple #[.agg #[.int .i64 sg, .slice lo ll lc, .slice co cl cc, .slice no nl nc, .slice oo ol oc], .int .i64 es.length, .int .i64 0]) (by simp [results, Tryz.results127, go_sem, j0, j1, j2, j3, j4]) rfl ⟨⟨sg, lo, ll, lc, co, cl, cc, no, nl, nc, oo, ol, oc⟩, B, ?_, ?_, ?_, HF.out.2⟩
      · rw [HT.out]
      · rw [HT.out]
        exact hX2.scr.keep (put5 _ _ _ _ _ _ _) (fun j hj => by cases hj; exact fun q => (hX2.bB _ q).2.2 rfl)
      · intro b q
        have h1 := HB.out b q
        have h2 := HS.out b q
        have h3 := (put5 wr rb (.int .i64 sg) (.slice lo ll lc) (.slice co cl cc) (.slice no nl nc) (.slice oo ol oc)).size
        exact ⟨h1, by omega⟩
end Go.Proofs.YtcofhmikdkkigaaGreatDoor
namespace Go.Proofs.YtcofhmikdkkigaaGreatDoor
open Go.RowKit Go.Shelf
attribute [local go_sem] Oper.semAt_some

theorem EvC.keepS {S : Nat → Prop} {w w' : World} {b o : Nat} {e : Ev} (h : EvC w b o e) (k : FrS S w w') (hs : ¬ S b) : EvC w' b o e :=
  ⟨k.cell h.c0 hs, k.cell h.c1 hs, k.cell h.c2 hs, k.cell h.c3 hs, k.cell h.c4 hs, k.cell h.c5 hs, k.cell h.c6 hs, k.cell h.c7 hs⟩
theorem Shapes.keepS {S : Nat → Prop} {w w' : World} (h : Shapes w) (k : FrS S w w') (hs : ¬ S 0) : Shapes w' := fun n hn => by
  obtain ⟨h1, h2, h3⟩ := h n hn
  exact ⟨k.cell h1 hs, k.cell h2 hs, k.cell h3 hs⟩

end Go.Proofs.YtcofhmikdkkigaaGreatDoor
namespace Go.Proofs.YtcofhmikdkkigaaGreatDoor
open Go.RowKit Go.Shelf
attribute [local go_sem] Oper.semAt_some

theorem implNew_any (B : Nat → Prop) (w : World) :
    Calls Tryz.prog 204 #[] w fun e w' => ∃ s : Sv, e = .returned (.agg #[.int .i64 s.g, .slice s.lo s.ll s.lc, .slice s.co s.cl s.cc, .slice s.no s.nl s.nc, .slice s.oo s.ol s.oc]) ∧ ScR B w' s scn0 ∧ Fr w w' := by
  go_enter Tryz.func204, Tryz.ntmps204
  go_wp2
  refine bodyPost_ret (v := .agg #[.int .i64 1, .slice none 0 0, .slice none 0 0, .slice none 0 0, .slice none 0 0]) (by simp [results, Tryz.results204, go_sem]) rfl ⟨⟨1, none, 0, 0, none, 0, 0, none, 0, 0, none, 0, 0⟩, rfl, scR_new _ _, Fr.alloc _ _⟩

theorem boardNew_any (s : Sv) (w : World) (h : ScR (fun _ => False) w s scn0) :
    Calls Tryz.prog 51 #[.agg #[.int .i64 s.g, .slice s.lo s.ll s.lc, .slice s.co s.cl s.cc, .slice s.no s.nl s.nc, .slice s.oo s.ol s.oc]] w fun e w' => ∃ b b1 b2 b3 b4, e = .returned (.pointer (some ⟨b, 0, none⟩)) ∧ w.heap.size ≤ b1 ∧ (∀ lo u, Fr w' u → b < lo → lo ≤ u.heap.size → BoardW (0, lo) u b b1 b2 b3 b4 1048576 scn0) ∧ b < w'.heap.size ∧ Fr w w' := by
  obtain ⟨lvs, r1, e1, l1⟩ := h.lks
  refine (boardOf_any s scn0 lvs w h r1 e1 l1).mono ?_
  rintro e w' ⟨b, b1, b2, b3, b4, rfl, ⟨q0, q1, q2, q3, q4⟩, Bd, f⟩
  have M := boardM_of (B := fun _ => False) (by decide) (l1.fr f) h.sl h.sc h.sn h.so Bd
  refine ⟨b, b1, b2, b3, b4, rfl, q0, fun lo u g hl hs => ?_, (Array.getElem?_eq_some_iff.1 Bd.row).1, f⟩
  obtain ⟨fl, p1, p2⟩ := M.m1
  exact ⟨⟨Nat.zero_le _, hl, hs⟩, (g.block b (Array.getElem?_eq_some_iff.1 Bd.row).1 (by simp)).trans Bd.row, ⟨q1, q2, q3, q4⟩, ⟨fl, p1.fr g, fun o => ((p2 o).keep g (by simp)).mono (fun _ q => q.elim)⟩, M.m2.fr g, M.m3.fr g, M.m4.fr g⟩

end Go.Proofs.YtcofhmikdkkigaaGreatDoor
namespace Go.Proofs.YtcofhmikdkkigaaGreatDoor
open Go.RowKit

def legLen (es : List Ev) : Int := if 300 < es.length then -1 else (legS scn0 es).2.1
theorem isTrace_any (ao : Option Addr) (n c : Nat) (w : World) :
    Calls Tryz.prog 136 #[.slice ao n c] w fun e w' => e = .returned (.bool (decide ((n : Int) ≤ 300))) ∧ w' = w := by
  go_enter Tryz.func136, Tryz.ntmps136
  go_wp2_with fail
  go_ret
  exact ⟨rfl, rfl⟩
set_option maxHeartbeats 1000000 in
theorem specLen_any (ao : Option Addr) (n c : Nat) (es : List Ev) (w : World) (hn : es.length = n) (h : ReadsE w ao es) :
    Calls Tryz.prog 138 #[.slice ao n c] w fun x w' => x = .returned (.int .i64 (legLen es)) ∧ Fr w w' := by
  have cP := l5Scene_any ao n c es w hn h
  by_cases hb : es.length ≤ 300
  · have e1 : legLen es = (legS scn0 es).2.1 := if_neg (by omega)
    have e2 : (n : Int) ≤ 300 := by omega
    rw [e1]
    clear e1 hb h hn
    obtain ⟨z, hz⟩ : ∃ z : Int, z = (legS scn0 es).2.1 := ⟨_, rfl⟩
    obtain ⟨q, hq⟩ : ∃ z : Int, z = (legS scn0 es).2.2 := ⟨_, rfl⟩
    simp only [← hz, ← hq] at cP
    rw [← hz]
    clear hz hq
    go_enter Tryz.func138, Tryz.ntmps138
    go_wp2_with fail
    refine (cP).mono ?_
    rintro e u1 ⟨⟨sg, lo, ll, lc, co, cl, cc, no, nl, nc, oo, ol, oc⟩, B, rfl, -, -, f1⟩
    go_wp2_with fail
    go_ret
    exact ⟨rfl, f1.trans (Fr.alloc _ _)⟩
  · have e1 : legLen es = -1 := if_pos (by omega)
    have e2 : 300 < (n : Int) := by omega
    rw [e1]
    clear e1 hb h hn cP
    go_enter Tryz.func138, Tryz.ntmps138
    go_wp2_with fail
    go_ret
    exact ⟨rfl, Fr.refl _⟩

end Go.Proofs.YtcofhmikdkkigaaGreatDoor
namespace Go.Proofs.YtcofhmikdkkigaaGreatDoor
open Go.RowKit

theorem leg_len : ∀ (es : List Ev) (m : Scn), (legS m es).2.1 ≤ es.length
  | [], m => by simp [legS]
  | e :: es, m => by
    by_cases q : codeIn m e = 0
    · rw [leg_go q]
      have := leg_len es (doS m e)
      simp only [List.length_cons]
      omega
    · rw [leg_no q]; simp
theorem leg_code : ∀ (es : List Ev) (m : Scn), (legS m es).2.2 = 0 ↔ (legS m es).2.1 = es.length
  | [], m => by simp [legS]
  | e :: es, m => by
    by_cases q : codeIn m e = 0
    · rw [leg_go q]
      have := leg_code es (doS m e)
      simp only [List.length_cons]
      omega
    · rw [leg_no q]
      simp [q]
theorem leg_part : ∀ (es : List Ev) (m : Scn) (k : Nat), k ≤ (legS m es).2.1 → (legS m (es.take k)).2.1 = k ∧ (legS m (es.take k)).2.2 = 0 ∧ ∀ (h : k < es.length), k < (legS m es).2.1 → codeIn (legS m (es.take k)).1 es[k] = 0
  | es, m, 0, _ => by
    simp only [List.take_zero]
    refine ⟨rfl, rfl, fun h h2 => ?_⟩
    cases es with
    | nil => simp at h
    | cons e es =>
      by_cases q : codeIn m e = 0
      · exact q
      · rw [leg_no q] at h2; simp at h2
  | [], m, k + 1, h => by simp [legS] at h
  | e :: es, m, k + 1, h => by
    by_cases q : codeIn m e = 0
    · rw [leg_go q] at h ⊢
      simp only at h
      obtain ⟨h1, h2, h3⟩ := leg_part es (doS m e) k (by omega)
      rw [List.take_succ_cons, leg_go q]
      refine ⟨by simp only; omega, h2, fun hk hk2 => ?_⟩
      simp only [List.getElem_cons_succ]
      exact h3 (by simpa using hk) (by simp only at hk2; omega)
    · rw [leg_no q] at h; simp at h
theorem leg_ok : ∀ (es : List Ev) (m : Scn), scB m = true → scB (legS m es).1 = true
  | [], m, h => h
  | e :: es, m, h => by
    by_cases q : codeIn m e = 0
    · rw [leg_go q]; exact leg_ok es _ (do_ok q)
    · rw [leg_no q]; exact h
end Go.Proofs.YtcofhmikdkkigaaGreatDoor
namespace Go.Proofs.YtcofhmikdkkigaaGreatDoor
open Go.RowKit

def ChAt (es : List Ev) (m : Scn) : Prop := ∀ o, (∀ c, m.cs.find? (fun c => c.o == o) = some c → c.cap = capK o es ∧ c.sent = cntK 7 o es ∧ c.got = cntK 8 o es) ∧ (m.cs.find? (fun c => c.o == o) = none → cntK 7 o es = 0 ∧ cntK 8 o es = 0)
theorem ChAt.nil : ChAt [] scn0 := fun o => ⟨fun c h => by simp [scn0] at h, fun _ => ⟨rfl, rfl⟩⟩
theorem chanOf_some {m : Scn} {o : Int} {c : Ch} (h : m.cs.find? (fun c => c.o == o) = some c) : chanOf m.cs o = c ∧ chanZ m o = c ∧ c.o = o := by
  refine ⟨by simp [chanOf, h], by simp [chanZ, h], ?_⟩
  have := List.find?_some h
  simpa using this
theorem code_chan {m : Scn} {e : Ev} (hc : codeIn m e = 0) (h6 : 6 ≤ e.k) (h11 : e.k ≤ 11) :
    (e.k = 6 → m.cs.find? (fun c => c.o == e.o) = none) ∧ (e.k ≠ 6 → ∃ c, m.cs.find? (fun c => c.o == e.o) = some c ∧ (e.k = 7 ∨ e.k = 8 → c.cap ≠ 0)) := by
  have hr : restCode m e = 0 := by
    unfold codeIn at hc
    split at hc
    · simp at hc
    · split at hc
      · simp at hc
      · exact hc
  unfold restCode at hr
  rw [if_neg (by omega), if_pos ⟨h6, h11⟩] at hr
  unfold chanCode at hr
  split at hr
  · simp at hr
  · rename_i h1
    split at hr
    · simp at hr
    · rename_i h2
      refine ⟨fun h => ?_, fun h => ?_⟩
      · simp only [h, decide_true, isChan] at h1
        cases hf : m.cs.find? (fun c => c.o == e.o) with
        | none => rfl
        | some c => simp [hf] at h1
      · simp only [h, decide_false, isChan] at h1
        cases hf : m.cs.find? (fun c => c.o == e.o) with
        | none => simp [hf] at h1
        | some c =>
          refine ⟨c, rfl, fun h78 h0 => h2 (.inl ⟨h78, ?_⟩)⟩
          rw [(chanOf_some hf).1]
          exact h0
theorem ChAt.step {es : List Ev} {m : Scn} {e : Ev} (h : ChAt es m) (hc : codeIn m e = 0) : ChAt (es ++ [e]) (doS m e) := by
  have hm := (code_parts hc).2.1
  have hr := (sc_rise hm).2.1
  intro o
  rw [capK_one, cntK_one, cntK_one]
  have h0 := h o
  by_cases hk : 6 ≤ e.k ∧ e.k ≤ 8 ∨ e.k = 10
  · have ed : (doS m e).cs = setL Ch.o (chanTo m e) false m.cs := by
      unfold doS
      rw [if_neg (by omega), if_neg (by omega), if_pos hk]
      rfl
    have ho : (chanTo m e).o = e.o := by
      have q : (chanOf m.cs e.o).o = e.o := by
        unfold chanOf
        cases hf : m.cs.find? (fun c => c.o == e.o) with
        | none => rfl
        | some c => exact (chanOf_some hf).2.2
      unfold chanTo
      split
      · exact q
      · split
        · exact q
        · split
          · exact q
          · exact q
    have hq := code_chan hc (by omega) (by omega)
    rw [ed, find_setL Ch.o (chanTo m e) false m.cs hr o, ho]
    by_cases hoo : o = e.o
    · subst hoo
      simp only [if_true]
      refine ⟨fun c hcc => ?_, fun q => by simp at q⟩
      simp only [Bool.false_eq_true, if_false, Option.some.injEq] at hcc
      subst hcc
      by_cases h6 : e.k = 6
      · have hn := h0.2 (hq.1 h6)
        have e1 : chanOf m.cs e.o = ⟨e.o, 0, 0, 0, false⟩ := by simp [chanOf, hq.1 h6]
        simp [chanTo, h6, e1, hn.1, hn.2]
      · obtain ⟨c, hf, -⟩ := hq.2 h6
        have hs := h0.1 c hf
        have e1 := (chanOf_some hf).1
        unfold chanTo
        rw [e1, if_neg h6]
        by_cases h7 : e.k = 7
        · simp [h7, hs.1, hs.2.1, hs.2.2]
        · by_cases h8 : e.k = 8
          · simp [h8, hs.1, hs.2.1, hs.2.2]
          · simp [h6, h7, h8, hs.1, hs.2.1, hs.2.2]
    · have hne : ¬ e.o = o := fun q => hoo q.symm
      simp only [hoo, hne, if_false, false_and, Nat.add_zero]
      exact h0
  · have ed : (doS m e).cs = m.cs := by
      unfold doS
      split
      · rfl
      · split
        · rfl
        · first | rw [if_neg hk] | skip
          split
          · rfl
          · split
            · rfl
            · split
              · rfl
              · rfl
    rw [ed, if_neg (by omega), if_neg (by omega), if_neg (by omega)]
    exact h0
theorem ChAt.leg : ∀ (es pre : List Ev) (m : Scn), ChAt pre m → (legS m es).2.2 = 0 → ChAt (pre ++ es) (legS m es).1
  | [], pre, m, h, _ => by simpa [legS] using h
  | e :: es, pre, m, h, hl => by
    by_cases q : codeIn m e = 0
    · rw [leg_go q] at hl ⊢
      have := ChAt.leg es (pre ++ [e]) (doS m e) (h.step q) hl
      simpa using this
    · rw [leg_no q] at hl
      exact absurd hl q

def slotC (m : Scn) (e : Ev) : Int := (if e.k = 8 then (chanZ m e.o).got else (chanZ m e.o).sent).tmod (chanZ m e.o).cap
def touJ (es : List Ev) (j : Int) : List Tch :=
  if h : 0 ≤ j ∧ j < legLen es ∧ j.toNat < es.length then tchL es[j.toNat] (slotE (es.take j.toNat) es[j.toNat]) else []
theorem slot_same {es : List Ev} {m : Scn} {e : Ev} (h : ChAt es m) (hc : codeIn m e = 0) (hk : e.k = 7 ∨ e.k = 8) : slotC m e = slotE es e ∧ capK e.o es ≠ 0 := by
  obtain ⟨c, hf, h0⟩ := (code_chan hc (by omega) (by omega)).2 (by omega)
  have h1 := (h e.o).1 c hf
  have e1 := (chanOf_some hf).2.1
  refine ⟨?_, by rw [← h1.1]; exact h0 hk⟩
  unfold slotC slotE
  rw [e1, h1.1]
  rcases hk with hk | hk
  · rw [if_neg (by omega), h1.2.1, hk]
  · rw [if_pos hk, h1.2.2, hk]
theorem tch_same {es : List Ev} {m : Scn} {e : Ev} (h : ChAt es m) (hc : codeIn m e = 0) : tchL e (slotC m e) = tchL e (slotE es e) := by
  by_cases hk : e.k = 7 ∨ e.k = 8
  · rw [(slot_same h hc hk).1]
  · unfold tchL
    simp only [hk, if_false]
end Go.Proofs.YtcofhmikdkkigaaGreatDoor
namespace Go.Proofs.YtcofhmikdkkigaaGreatDoor
open Go.RowKit

set_option maxHeartbeats 1000000 in
theorem l6Touches_any (ao : Option Addr) (n c : Nat) (es : List Ev) (w : World) (hn : es.length = n) (h : ReadsE w ao es) (j : Nat) (hj : j < es.length) (hk : 1 ≤ es[j].k ∧ es[j].k ≤ 22) (hr : es[j].k = 7 ∨ es[j].k = 8 → capK es[j].o (es.take j) ≠ 0) :
    Calls Tryz.prog 181 #[.slice ao n c, .int .i64 j] w fun x w' => ∃ v, x = .returned v ∧ OwnG layT w' w.heap.size v (tchL es[j] (slotE (es.take j) es[j])) ∧ Fr w w' := by
  obtain ⟨E, hE⟩ : ∃ E, E = es[j] := ⟨_, rfl⟩
  have hr2 : es[j].k = 7 ∨ es[j].k = 8 → capK es[j].o (es.take j) ≠ 0 := hr
  rw [← hE] at hk hr
  obtain ⟨k, fg, fo, fw, fl, fs, ff, ft⟩ := E
  simp only at hk hr
  have hr : k = 7 ∨ k = 8 → capK es[j].o (es.take j) ≠ 0 := fun q => hr2 (by rw [← hE]; exact q)
  clear hr2
  have hcs : k = 1 ∨ k = 2 ∨ k = 3 ∨ k = 4 ∨ k = 5 ∨ k = 6 ∨ k = 7 ∨ k = 8 ∨ k = 9 ∨ k = 10 ∨ k = 11 ∨ k = 12 ∨ k = 13 ∨ k = 14 ∨ k = 15 ∨ k = 16 ∨ k = 17 ∨ k = 18 ∨ k = 19 ∨ k = 20 ∨ k = 21 ∨ k = 22 := by omega
  have e0 : tchL es[j] (slotE (es.take j) es[j]) = tchL ⟨k, fg, fo, fw, fl, fs, ff, ft⟩ (slotE (es.take j) es[j]) := by rw [← hE]
  rw [e0]
  clear e0 hk
  rcases hcs with rfl | rfl | rfl | rfl | rfl | rfl | rfl | rfl | rfl | rfl | rfl | rfl | rfl | rfl | rfl | rfl | rfl | rfl | rfl | rfl | rfl | rfl
  · have e1 := l6T_1 fg fo fw fl fs ff ft ao n c es w hn h j hj hE.symm
    simpa [tchL] using e1
  · have e1 := l6T_2 fg fo fw fl fs ff ft ao n c es w hn h j hj hE.symm
    simpa [tchL] using e1
  · have e1 := l6T_3 fg fo fw fl fs ff ft ao n c es w hn h j hj hE.symm
    simpa [tchL] using e1
  · have e1 := l6T_4 fg fo fw fl fs ff ft ao n c es w hn h j hj hE.symm
    simpa [tchL] using e1
  · have e1 := l6T_5 fg fo fw fl fs ff ft ao n c es w hn h j hj hE.symm
    simpa [tchL] using e1
  · have e1 := l6T_6 fg fo fw fl fs ff ft ao n c es w hn h j hj hE.symm
    simpa [tchL] using e1
  · have e1 := l6T_7 fg fo fw fl fs ff ft ao n c es w hn h j hj hE.symm (hr (by simp))
    simpa [tchL] using e1
  · have e1 := l6T_8 fg fo fw fl fs ff ft ao n c es w hn h j hj hE.symm (hr (by simp))
    simpa [tchL] using e1
  · have e1 := l6T_9 fg fo fw fl fs ff ft ao n c es w hn h j hj hE.symm
    simpa [tchL] using e1
  · have e1 := l6T_10 fg fo fw fl fs ff ft ao n c es w hn h j hj hE.symm
    simpa [tchL] using e1
  · have e1 := l6T_11 fg fo fw fl fs ff ft ao n c es w hn h j hj hE.symm
    simpa [tchL] using e1
  · have e1 := l6T_12 fg fo fw fl fs ff ft ao n c es w hn h j hj hE.symm
    simpa [tchL] using e1
  · have e1 := l6T_13 fg fo fw fl fs ff ft ao n c es w hn h j hj hE.symm
    simpa [tchL] using e1
  · have e1 := l6T_14 fg fo fw fl fs ff ft ao n c es w hn h j hj hE.symm
    simpa [tchL] using e1
  · have e1 := l6T_15 fg fo fw fl fs ff ft ao n c es w hn h j hj hE.symm
    simpa [tchL] using e1
  · have e1 := l6T_16 fg fo fw fl fs ff ft ao n c es w hn h j hj hE.symm
    simpa [tchL] using e1
  · have e1 := l6T_17 fg fo fw fl fs ff ft ao n c es w hn h j hj hE.symm
    simpa [tchL] using e1
  · have e1 := l6T_18 fg fo fw fl fs ff ft ao n c es w hn h j hj hE.symm
    simpa [tchL] using e1
  · have e1 := l6T_19 fg fo fw fl fs ff ft ao n c es w hn h j hj hE.symm
    simpa [tchL] using e1
  · have e1 := l6T_20 fg fo fw fl fs ff ft ao n c es w hn h j hj hE.symm
    simpa [tchL] using e1
  · have e1 := l6T_21 fg fo fw fl fs ff ft ao n c es w hn h j hj hE.symm
    simpa [tchL] using e1
  · have e1 := l6T_22 fg fo fw fl fs ff ft ao n c es w hn h j hj hE.symm
    simpa [tchL] using e1

set_option maxHeartbeats 1000000 in
theorem touches_any {B : Nat → Prop} {b b1 b2 b3 b4 n : Nat} {m : Scn} (e : Ev) (w : World) (h : BoardM B w b b1 b2 b3 b4 n m) (hc : codeIn m e = 0) :
    Calls Tryz.prog 194 #[.pointer (some ⟨b, 0, none⟩), .agg #[.int .i64 e.k, .int .i64 e.g, .int .i64 e.o, .int .i64 e.w, .int .i64 e.l, .int .i64 e.s, .int .i64 e.f, .int .i64 e.t]] w fun x w' => ∃ v, x = .returned v ∧ OwnG layT w' w.heap.size v (tchL e (slotC m e)) ∧ Fr w w' := by
  have hp := code_parts hc
  have ho := evOk_o hp.1
  have hL := h.lookC (o := e.o) (i64_small (by omega))
  have hk : 1 ≤ e.k ∧ e.k ≤ 22 := by
    have h1 := hp.1
    simp only [evOk, Bool.and_eq_true] at h1
    simpa [inB] using h1.1.1.1.1.1.1.1
  have hs : e.k = 7 ∨ e.k = 8 → (chanZ m e.o).cap ≠ 0 ∧ (0 ≤ (chanZ m e.o).got ∧ 0 ≤ (chanZ m e.o).sent ∧ (chanZ m e.o).got ≤ 1000000 ∧ (chanZ m e.o).sent ≤ 1000000 ∧ 0 ≤ (chanZ m e.o).cap ∧ (chanZ m e.o).cap ≤ 8) := by
    intro q
    obtain ⟨c, hf, h0⟩ := (code_chan hc (by omega) (by omega)).2 (by omega)
    have q1 := chan_in hp.2.1 e.o
    rw [(chanOf_some hf).1] at q1
    rw [(chanOf_some hf).2.1]
    exact ⟨h0 q, by omega⟩
  clear hp ho hc
  obtain ⟨k, gr, o, wi, l, sz, f, t⟩ := e
  simp only at hL hk hs ⊢
  have hcs : k = 1 ∨ k = 2 ∨ k = 3 ∨ k = 4 ∨ k = 5 ∨ k = 6 ∨ k = 7 ∨ k = 8 ∨ k = 9 ∨ k = 10 ∨ k = 11 ∨ k = 12 ∨ k = 13 ∨ k = 14 ∨ k = 15 ∨ k = 16 ∨ k = 17 ∨ k = 18 ∨ k = 19 ∨ k = 20 ∨ k = 21 ∨ k = 22 := by omega
  clear hk
  rcases hcs with rfl | rfl | rfl | rfl | rfl | rfl | rfl | rfl | rfl | rfl | rfl | rfl | rfl | rfl | rfl | rfl | rfl | rfl | rfl | rfl | rfl | rfl
  · have e1 := tchI_1 b b2 (chanZ m o).o (chanZ m o).cap (chanZ m o).sent (chanZ m o).got (chanZ m o).cl gr o wi l sz f t w h.c2 hL
    simpa [tchL] using e1
  · have e1 := tchI_2 b b2 (chanZ m o).o (chanZ m o).cap (chanZ m o).sent (chanZ m o).got (chanZ m o).cl gr o wi l sz f t w h.c2 hL
    simpa [tchL] using e1
  · have e1 := tchI_3 b b2 (chanZ m o).o (chanZ m o).cap (chanZ m o).sent (chanZ m o).got (chanZ m o).cl gr o wi l sz f t w h.c2 hL
    simpa [tchL] using e1
  · have e1 := tchI_4 b b2 (chanZ m o).o (chanZ m o).cap (chanZ m o).sent (chanZ m o).got (chanZ m o).cl gr o wi l sz f t w h.c2 hL
    simpa [tchL] using e1
  · have e1 := tchI_5 b b2 (chanZ m o).o (chanZ m o).cap (chanZ m o).sent (chanZ m o).got (chanZ m o).cl gr o wi l sz f t w h.c2 hL
    simpa [tchL] using e1
  · have e1 := tchI_6 b b2 (chanZ m o).o (chanZ m o).cap (chanZ m o).sent (chanZ m o).got (chanZ m o).cl gr o wi l sz f t w h.c2 hL
    simpa [tchL] using e1
  · obtain ⟨s1, s2⟩ := hs (by simp)
    have e1 := tchI_7 b b2 (chanZ m o).o (chanZ m o).cap (chanZ m o).sent (chanZ m o).got (chanZ m o).cl gr o wi l sz f t w h.c2 s1 s2 hL
    have e2 : slotC m ⟨7, gr, o, wi, l, sz, f, t⟩ = (chanZ m o).sent % (chanZ m o).cap := by
      simp only [slotC]
      first | rw [if_neg (by decide)] | rw [if_pos trivial]
      exact Int.tmod_eq_emod_of_nonneg (by omega)
    rw [e2]
    simpa [tchL] using e1
  · obtain ⟨s1, s2⟩ := hs (by simp)
    have e1 := tchI_8 b b2 (chanZ m o).o (chanZ m o).cap (chanZ m o).sent (chanZ m o).got (chanZ m o).cl gr o wi l sz f t w h.c2 s1 s2 hL
    have e2 : slotC m ⟨8, gr, o, wi, l, sz, f, t⟩ = (chanZ m o).got % (chanZ m o).cap := by
      simp only [slotC]
      first | rw [if_neg (by decide)] | rw [if_pos trivial]
      exact Int.tmod_eq_emod_of_nonneg (by omega)
    rw [e2]
    simpa [tchL] using e1
  · have e1 := tchI_9 b b2 (chanZ m o).o (chanZ m o).cap (chanZ m o).sent (chanZ m o).got (chanZ m o).cl gr o wi l sz f t w h.c2 hL
    simpa [tchL] using e1
  · have e1 := tchI_10 b b2 (chanZ m o).o (chanZ m o).cap (chanZ m o).sent (chanZ m o).got (chanZ m o).cl gr o wi l sz f t w h.c2 hL
    simpa [tchL] using e1
  · have e1 := tchI_11 b b2 (chanZ m o).o (chanZ m o).cap (chanZ m o).sent (chanZ m o).got (chanZ m o).cl gr o wi l sz f t w h.c2 hL
    simpa [tchL] using e1
  · have e1 := tchI_12 b b2 (chanZ m o).o (chanZ m o).cap (chanZ m o).sent (chanZ m o).got (chanZ m o).cl gr o wi l sz f t w h.c2 hL
    simpa [tchL] using e1
  · have e1 := tchI_13 b b2 (chanZ m o).o (chanZ m o).cap (chanZ m o).sent (chanZ m o).got (chanZ m o).cl gr o wi l sz f t w h.c2 hL
    simpa [tchL] using e1
  · have e1 := tchI_14 b b2 (chanZ m o).o (chanZ m o).cap (chanZ m o).sent (chanZ m o).got (chanZ m o).cl gr o wi l sz f t w h.c2 hL
    simpa [tchL] using e1
  · have e1 := tchI_15 b b2 (chanZ m o).o (chanZ m o).cap (chanZ m o).sent (chanZ m o).got (chanZ m o).cl gr o wi l sz f t w h.c2 hL
    simpa [tchL] using e1
  · have e1 := tchI_16 b b2 (chanZ m o).o (chanZ m o).cap (chanZ m o).sent (chanZ m o).got (chanZ m o).cl gr o wi l sz f t w h.c2 hL
    simpa [tchL] using e1
  · have e1 := tchI_17 b b2 (chanZ m o).o (chanZ m o).cap (chanZ m o).sent (chanZ m o).got (chanZ m o).cl gr o wi l sz f t w h.c2 hL
    simpa [tchL] using e1
  · have e1 := tchI_18 b b2 (chanZ m o).o (chanZ m o).cap (chanZ m o).sent (chanZ m o).got (chanZ m o).cl gr o wi l sz f t w h.c2 hL
    simpa [tchL] using e1
  · have e1 := tchI_19 b b2 (chanZ m o).o (chanZ m o).cap (chanZ m o).sent (chanZ m o).got (chanZ m o).cl gr o wi l sz f t w h.c2 hL
    simpa [tchL] using e1
  · have e1 := tchI_20 b b2 (chanZ m o).o (chanZ m o).cap (chanZ m o).sent (chanZ m o).got (chanZ m o).cl gr o wi l sz f t w h.c2 hL
    simpa [tchL] using e1
  · have e1 := tchI_21 b b2 (chanZ m o).o (chanZ m o).cap (chanZ m o).sent (chanZ m o).got (chanZ m o).cl gr o wi l sz f t w h.c2 hL
    simpa [tchL] using e1
  · have e1 := tchI_22 b b2 (chanZ m o).o (chanZ m o).cap (chanZ m o).sent (chanZ m o).got (chanZ m o).cl gr o wi l sz f t w h.c2 hL
    simpa [tchL] using e1

theorem leg_more : ∀ (es : List Ev) (m : Scn) (k : Nat) (h : k < es.length), (legS m (es.take k)).2.2 = 0 → codeIn (legS m (es.take k)).1 es[k] = 0 → k < (legS m es).2.1
  | [], _, _, h, _, _ => by simp at h
  | e :: es, m, 0, _, _, h2 => by
    simp only [List.take_zero, legS, List.getElem_cons_zero] at h2
    rw [leg_go h2]
    simp
  | e :: es, m, k + 1, h, h1, h2 => by
    rw [List.take_succ_cons] at h1 h2
    by_cases q : codeIn m e = 0
    · rw [leg_go q] at h1 h2 ⊢
      simp only [List.getElem_cons_succ] at h1 h2 ⊢
      have := leg_more es (doS m e) k (by simpa using h) h1 h2
      omega
    · rw [leg_no q] at h1
      exact absurd h1 q
end Go.Proofs.YtcofhmikdkkigaaGreatDoor
namespace Go.Proofs.YtcofhmikdkkigaaGreatDoor
open Go.RowKit

theorem touJ_no {es : List Ev} {j : Int} (h : ¬ (0 ≤ j ∧ j < legLen es ∧ j.toNat < es.length)) : touJ es j = [] := by
  unfold touJ
  rw [dif_neg h]
theorem touJ_yes {es : List Ev} {j : Int} (h : 0 ≤ j ∧ j < legLen es ∧ j.toNat < es.length) : touJ es j = tchL (es[j.toNat]'h.2.2) (slotE (es.take j.toNat) (es[j.toNat]'h.2.2)) := by
  unfold touJ
  rw [dif_pos h]
theorem legLen_le (es : List Ev) : legLen es ≤ es.length := by
  unfold legLen
  split
  · omega
  · have := leg_len es scn0
    omega
theorem leg_at {es : List Ev} {k : Nat} (hk : k < es.length) (h : (k : Int) < legLen es) : (legS scn0 (es.take k)).2.2 = 0 ∧ codeIn (legS scn0 (es.take k)).1 es[k] = 0 ∧ es.length ≤ 300 := by
  unfold legLen at h
  split at h
  · omega
  · have h1 := leg_part es scn0 k (by omega)
    exact ⟨h1.2.1, h1.2.2 hk (by omega), by omega⟩
theorem code_kind {m : Scn} {e : Ev} (hc : codeIn m e = 0) : 1 ≤ e.k ∧ e.k ≤ 22 := by
  have h1 := (code_parts hc).1
  simp only [evOk, Bool.and_eq_true] at h1
  simpa [inB] using h1.1.1.1.1.1.1.1

end Go.Proofs.YtcofhmikdkkigaaGreatDoor
namespace Go.Proofs.YtcofhmikdkkigaaGreatDoor
open Go.RowKit

inductive Bef (E : Nat → Nat → Bool) : Nat → Nat → Prop
  | edge {i j : Nat} (h : i < j) (e : E i j = true) : Bef E i j
  | more {q i j : Nat} (b : Bef E q i) (h : i < j) (e : E i j = true) : Bef E q j
theorem Bef.lt {E : Nat → Nat → Bool} {i j : Nat} (h : Bef E i j) : i < j := by
  induction h with
  | edge h _ => exact h
  | more _ h _ ih => omega
theorem Bef.trans {E : Nat → Nat → Bool} {q i j : Nat} (h : Bef E q i) (k : Bef E i j) : Bef E q j := by
  induction k with
  | edge l e => exact .more h l e
  | more _ l e ih => exact .more ih l e
theorem Bef.last {E : Nat → Nat → Bool} {i j : Nat} (h : Bef E i j) : ∃ l, l < j ∧ E l j = true ∧ (l = i ∨ Bef E i l) := by
  cases h with
  | edge h e => exact ⟨i, h, e, .inl rfl⟩
  | more b h e => exact ⟨_, h, e, .inr b⟩
theorem bef_iff {E : Nat → Nat → Bool} {i j : Nat} : Bef E i j ↔ ∃ l, l < j ∧ E l j = true ∧ (l = i ∨ Bef E i l) := by
  refine ⟨Bef.last, ?_⟩
  rintro ⟨l, h, e, rfl | b⟩
  · exact .edge h e
  · exact .more b h e

def evA (es : List Ev) (i : Nat) : Ev := es.getD i ⟨0, 0, 0, 0, 0, 0, 0, 0⟩
theorem evA_at {es : List Ev} {i : Nat} (h : i < es.length) : evA es i = es[i] := by
  unfold evA
  rw [List.getD_eq_getElem?_getD, List.getElem?_eq_getElem h]
  rfl
def ofG (es : List Ev) (i : Nat) (g : Int) : Bool := memB (gorsL (evA es i)) g
def lastG (es : List Ev) : Nat → Int → Int
  | 0, _ => -1
  | j + 1, g => if ofG es j g = true then (j : Int) else lastG es j g
theorem lastG_lt (es : List Ev) (g : Int) : ∀ j, -1 ≤ lastG es j g ∧ lastG es j g < j
  | 0 => ⟨by simp [lastG], by simp [lastG]⟩
  | j + 1 => by
    have ih := lastG_lt es g j
    unfold lastG
    split
    · exact ⟨by omega, by omega⟩
    · exact ⟨ih.1, by omega⟩
theorem lastG_of (es : List Ev) (g : Int) : ∀ j i, i < j → ofG es i g = true → ∃ l : Nat, lastG es j g = l ∧ i ≤ l ∧ l < j ∧ ofG es l g = true
  | 0, i, h, _ => by omega
  | j + 1, i, h, hi => by
    unfold lastG
    by_cases q : ofG es j g = true
    · rw [if_pos q]
      exact ⟨j, rfl, by omega, by omega, q⟩
    · rw [if_neg q]
      have hij : i < j := by
        rcases Nat.lt_or_ge i j with p | p
        · exact p
        · have : i = j := by omega
          subst this
          exact absurd hi q
      obtain ⟨l, a, b, c, d⟩ := lastG_of es g j i hij hi
      exact ⟨l, a, b, by omega, d⟩
def meetsB (a b : List Tch) : Bool := a.any fun x => b.any fun y => x.gv && y.tk && x.sp == y.sp && x.ob == y.ob && x.sl == y.sl
def edgeB (es : List Ev) (i j : Nat) : Bool := memB ((gorsL (evA es j)).map (lastG es j)) i || ((evA es i).k == 1 && memB (gorsL (evA es j)) (evA es i).o) || meetsB (touJ es i) (touJ es j)
def edgesL (es : List Ev) (j : Nat) : List Int := ((List.range j).filter fun i => edgeB es i j).map fun i : Nat => (i : Int)
theorem same_gor (es : List Ev) (g : Int) : ∀ j i, i < j → ofG es i g = true → ofG es j g = true → Bef (edgeB es) i j := by
  intro j
  induction j using Nat.strongRecOn with
  | _ j ih =>
    intro i hij hi hj
    obtain ⟨l, e, h1, h2, h3⟩ := lastG_of es g j i hij hi
    have hE : edgeB es l j = true := by
      have hm : memB ((gorsL (evA es j)).map (lastG es j)) l = true := by
        rw [memB, List.any_eq_true]
        have hg : g ∈ gorsL (evA es j) := by
          have := hj
          unfold ofG at this
          rw [memB, List.any_eq_true] at this
          obtain ⟨x, hx, hb⟩ := this
          simp only [beq_iff_eq] at hb
          exact hb ▸ hx
        exact ⟨lastG es j g, List.mem_map_of_mem hg, by rw [e]; simp⟩
      unfold edgeB
      rw [hm]
      rfl
    by_cases q : l = i
    · subst q
      exact .edge h2 hE
    · exact .more (ih l h2 i (by omega) hi h3) h2 hE
theorem edges_mem (es : List Ev) (j : Nat) (x : Int) : x ∈ edgesL es j ↔ ∃ i : Nat, x = i ∧ i < j ∧ edgeB es i j = true := by
  unfold edgesL
  rw [List.mem_map]
  constructor
  · rintro ⟨i, hi, rfl⟩
    obtain ⟨h1, h2⟩ := List.mem_filter.1 hi
    exact ⟨i, rfl, List.mem_range.1 h1, h2⟩
  · rintro ⟨i, rfl, h1, h2⟩
    exact ⟨i, List.mem_filter.2 ⟨List.mem_range.2 h1, h2⟩, rfl⟩
end Go.Proofs.YtcofhmikdkkigaaGreatDoor
