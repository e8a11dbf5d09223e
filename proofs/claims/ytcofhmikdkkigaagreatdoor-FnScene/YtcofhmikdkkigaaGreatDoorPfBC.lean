/-
  Pack BC: ScTry, ScLeg, ScIter.
-/
import Derived.Test.YtcofhmikdkkigaaGreatDoorPfAU
import Derived.Test.YtcofhmikdkkigaaGreatDoorPfAM
import Derived.Test.YtcofhmikdkkigaaGreatDoorPfAX
import Derived.Test.YtcofhmikdkkigaaGreatDoorPfBB
import Derived.Deep.RegionHeld3
import Derived.Deep.RegionWith
import Derived.BigRegion
import Derived.Test.YtcofhmikdkkigaaGreatDoorPfAC
import Derived.Shelf.Abstract
import Derived.Shelf.RegionOpen
import Derived.WalkKit
import Derived.OwnWalkIn
import Derived.TacticsInMore
import Derived.LoopNIn
import Derived.LoopIn
namespace Go.Proofs.YtcofhmikdkkigaaGreatDoor
open Go.RowKit

theorem codeM_all {B : Nat → Prop} {b b1 b2 b3 b4 n : Nat} {m : Scn} (e : Ev) (w : World) (h : BoardM B w b b1 b2 b3 b4 n m) (hm : scB m = true) (hs : Shapes w) :
    Calls Tryz.prog 59 #[.pointer (some ⟨b, 0, none⟩), .agg #[.int .i64 e.k, .int .i64 e.g, .int .i64 e.o, .int .i64 e.w, .int .i64 e.l, .int .i64 e.s, .int .i64 e.f, .int .i64 e.t]] w fun x w' => x = .returned (.int .i64 (codeIn m e)) ∧ Fr w w' := by
  cases hE : evOk e
  · have c := fun u (f : Fr w u) => implOk_any e u (hs.fr f)
    simp only [hE] at c
    have e1 : codeIn m e = codeC false false false false false false false false false false := by simp [codeIn, hE, codeC]
    rw [e1]
    exact codeFor_any b e w false false false false false false false false false false c (fun q => by cases q) (fun q => by cases q) (fun q => by cases q) (fun q => by cases q) (fun q => by cases q) (fun q => by cases q) (fun q => by cases q) (fun q => by cases q) (fun q => by cases q)
  · exact codeM_any e w h hm hs (i64_small (by have := evOk_o hE; omega))

set_option maxRecDepth 20000 in
set_option maxHeartbeats 1000000 in
theorem codeIn_all {B : Nat → Prop} (s : Sv) (m : Scn) (e : Ev) (w : World) (h : ScR B w s m) :
    Calls Tryz.prog 14 #[.agg #[.int .i64 s.g, .slice s.lo s.ll s.lc, .slice s.co s.cl s.cc, .slice s.no s.nl s.nc, .slice s.oo s.ol s.oc], .agg #[.int .i64 e.k, .int .i64 e.g, .int .i64 e.o, .int .i64 e.w, .int .i64 e.l, .int .i64 e.s, .int .i64 e.f, .int .i64 e.t]] w fun x w' => x = .returned (.int .i64 (codeIn m e)) ∧ Fr w w' := by
  cases hE : evOk e
  · have e1 : codeIn m e = 1 := by simp [codeIn, hE]
    rw [e1]
    obtain ⟨k1, k2, fW, hz⟩ := box2 w s e
    have cE := fun u => specOk_any e u
    simp only [hE] at cE
    clear hE e1 h
    obtain ⟨k, gr, o, wi, l, sz, f, t⟩ := e
    obtain ⟨sg, lo, ll, lc, co, cl, cc, no, nl, nc, oo, ol, oc⟩ := s
    simp only at k1 k2 fW hz cE ⊢
    go_enter Tryz.func14, Tryz.ntmps14
    go_wp2_with fail
    refine (cE _).mono ?_
    rintro x u1 ⟨rfl, f1⟩
    go_wp2_with fail
    go_ret
    exact ⟨rfl, fW.trans f1⟩
  · exact codeIn_any s m e w (i64_small (by have := evOk_o hE; omega)) h

def stepS (m : Scn) (e : Ev) : Scn := if codeIn m e = 0 then doS m e else m
theorem step_ok {m : Scn} (hm : scB m = true) (e : Ev) : scB (stepS m e) = true := by
  unfold stepS
  split
  · rename_i h
    exact do_ok h
  · exact hm

set_option maxRecDepth 20000 in
set_option maxHeartbeats 1000000 in
theorem try_any {lo : Nat × Nat} {b b1 b2 b3 b4 n : Nat} {m : Scn} (e : Ev) (w : World) (h : BoardW lo w b b1 b2 b3 b4 n m) (hm : scB m = true) (hs : Shapes w) (hn : n < 4000000) :
    Calls Tryz.prog 52 #[.pointer (some ⟨b, 0, none⟩), .agg #[.int .i64 e.k, .int .i64 e.g, .int .i64 e.o, .int .i64 e.w, .int .i64 e.l, .int .i64 e.s, .int .i64 e.f, .int .i64 e.t]] w fun y w' => y = .returned (.int .i64 (codeIn m e)) ∧ BoardW lo w' b b1 b2 b3 b4 (n + 1) (stepS m e) ∧ ∃ x, On b b1 b2 b3 b4 x ∧ w.grownBy w' (some x) := by
  have fW := Fr.alloc w (.cells #[.int .i64 e.k, .int .i64 e.g, .int .i64 e.o, .int .i64 e.w, .int .i64 e.l, .int .i64 e.s, .int .i64 e.f, .int .i64 e.t] 31)
  have kE := EvAt.new w e 31
  have cC := fun u (f : Fr w u) => codeM_all e u (h.fr f).toM hm (hs.fr f)
  have cD := fun (hc : codeIn m e = 0) u (f : Fr w u) => do_any e u (h.fr f) hc hn
  have HB : Hid (BoardW lo w b b1 b2 b3 b4 n m) := h
  clear h hm hs hn
  have HS : Hid (codeIn m e = 0 → stepS m e = doS m e) := fun q => if_pos q
  have HT : Hid (¬ codeIn m e = 0 → stepS m e = m) := fun q => if_neg q
  obtain ⟨C, hC⟩ : ∃ C, C = codeIn m e := ⟨_, rfl⟩
  simp only [← hC] at cC cD HS HT
  obtain ⟨D, hD⟩ : ∃ D, D = doS m e := ⟨_, rfl⟩
  simp only [← hD] at cD HS
  obtain ⟨S, hS⟩ : ∃ D, D = stepS m e := ⟨_, rfl⟩
  simp only [← hS] at HS HT
  rw [← hC, ← hS]
  clear hC hD hS
  obtain ⟨k, gr, o, wi, l, sz, f, t⟩ := e
  simp only at fW kE cC cD ⊢
  go_enter Tryz.func52, Tryz.ntmps52
  go_wp2_with fail
  obtain ⟨W, hW⟩ : ∃ W, W = w.alloc (.cells #[.int .i64 k, .int .i64 gr, .int .i64 o, .int .i64 wi, .int .i64 l, .int .i64 sz, .int .i64 f, .int .i64 t] 31) := ⟨_, rfl⟩
  rw [← hW] at fW kE ⊢
  clear hW
  refine (cC _ fW).mono ?_
  rintro x u1 ⟨rfl, f1⟩
  clear cC
  have kE := kE.fr f1
  have F1 := fW.trans f1
  obtain ⟨c0, c1, c2, c3, c4, c5, c6, c7⟩ := kE
  simp only at c0 c1 c2 c3 c4 c5 c6 c7
  clear f1 fW
  by_cases hc : C = 0
  · have hcb : (C == 0) = true := by simpa using hc
    have cD := cD hc _ F1
    have HS := HS.out hc
    subst HS
    have HC : Hid (C = 0) := hc
    clear hc HT
    go_wp2_with fail
    refine cD.mono ?_
    rintro x u2 ⟨rfl, B2, y, o2, g2⟩
    clear cD
    go_wp2_with fail
    go_ret
    exact ⟨rfl, B2, y, o2, grown_trans F1.wide g2⟩
  · have hcb : (C == 0) = false := by simpa using hc
    have HT := HT.out hc
    subst HT
    clear hc HS cD
    go_wp2_with fail
    go_ret
    exact ⟨rfl, (HB.out.fr F1).mono (Nat.le_succ n), b, .inl rfl, F1.wide⟩
end Go.Proofs.YtcofhmikdkkigaaGreatDoor
namespace Go.Proofs.YtcofhmikdkkigaaGreatDoor
open Go.RowKit

def legS : Scn → List Ev → Scn × Nat × Int
  | m, [] => (m, 0, 0)
  | m, e :: es => if codeIn m e = 0 then ((legS (doS m e) es).1, (legS (doS m e) es).2.1 + 1, (legS (doS m e) es).2.2) else (m, 0, codeIn m e)
theorem leg_go {m : Scn} {e : Ev} {es : List Ev} (h : codeIn m e = 0) : legS m (e :: es) = ((legS (doS m e) es).1, (legS (doS m e) es).2.1 + 1, (legS (doS m e) es).2.2) := by rw [legS, if_pos h]
theorem leg_no {m : Scn} {e : Ev} {es : List Ev} (h : ¬ codeIn m e = 0) : legS m (e :: es) = (m, 0, codeIn m e) := by rw [legS, if_neg h]
def LegAt (es : List Ev) (k : Nat) (m : Scn) : Prop := legS scn0 es = ((legS m (es.drop k)).1, k + (legS m (es.drop k)).2.1, (legS m (es.drop k)).2.2)
theorem LegAt.start (es : List Ev) : LegAt es 0 scn0 := by simp [LegAt]
theorem LegAt.next {es : List Ev} {k : Nat} {m : Scn} (h : LegAt es k m) (hk : k < es.length) (hc : codeIn m es[k] = 0) : LegAt es (k + 1) (doS m es[k]) := by
  unfold LegAt at h ⊢
  rw [h, List.drop_eq_getElem_cons hk, leg_go hc]
  simp only [Prod.mk.injEq, true_and, and_true]
  omega
theorem LegAt.stop {es : List Ev} {k : Nat} {m : Scn} (h : LegAt es k m) (hk : k < es.length) (hc : ¬ codeIn m es[k] = 0) : legS scn0 es = (m, k, codeIn m es[k]) := by
  unfold LegAt at h
  rw [h, List.drop_eq_getElem_cons hk, leg_no hc]
  rfl
theorem LegAt.done {es : List Ev} {m : Scn} (h : LegAt es es.length m) : legS scn0 es = (m, es.length, 0) := by
  unfold LegAt at h
  rw [h, List.drop_length]
  rfl

structure SX (B : Nat → Prop) (w0 : World) (rb sb : Nat) (s : Sv) (m : Scn) (wr : World) : Prop where
  fr : Fr w0 wr
  sc : ScK wr sb s
  rk : ScK wr rb ⟨0, none, 0, 0, none, 0, 0, none, 0, 0, none, 0, 0⟩
  scr : ScR B wr s m
  sl : w0.heap.size ≤ rb ∧ rb < sb
  bB : ∀ b, B b → b < wr.heap.size ∧ b ≠ sb ∧ b ≠ rb
theorem SX.grow {B : Nat → Prop} {w0 wr w' : World} {rb sb : Nat} {s : Sv} {m : Scn} (h : SX B w0 rb sb s m wr) (k : Fr wr w') : SX B w0 rb sb s m w' := by
  have hs := k.size
  exact { h with fr := h.fr.trans k, sc := h.sc.fr k, rk := h.rk.fr k, scr := h.scr.fr k, bB := fun b hb => ⟨by have := (h.bB b hb).1; omega, (h.bB b hb).2⟩ }
theorem SX.scene {B : Nat → Prop} {w0 w1 wr : World} {rb sb : Nat} {s s' : Sv} {m m' : Scn} (h1 : SX B w0 rb sb s m w1) (f : Fr w1 wr) (hS : ScR (Grew B w1 wr) wr s' m') :
    SX (Grew B w1 wr) w0 rb sb s' m' (((((wr.setCell ⟨sb, 0, none⟩ (.int .i64 s'.g)).setCell ⟨sb, 1, none⟩ (.slice s'.lo s'.ll s'.lc)).setCell ⟨sb, 2, none⟩ (.slice s'.co s'.cl s'.cc)).setCell ⟨sb, 3, none⟩ (.slice s'.no s'.nl s'.nc)).setCell ⟨sb, 4, none⟩ (.slice s'.oo s'.ol s'.oc)) := by
  have h := h1.grow f
  have k := put5 wr sb (.int .i64 s'.g) (.slice s'.lo s'.ll s'.lc) (.slice s'.co s'.cl s'.cc) (.slice s'.no s'.nl s'.nc) (.slice s'.oo s'.ol s'.oc)
  have hs := k.size
  have hsl := h1.sl
  have h5 := h1.sc.lt
  have hb : ∀ b, Grew B w1 wr b → b < wr.heap.size ∧ b ≠ sb ∧ b ≠ rb := by
    rintro b (hb | ⟨h3, h4⟩)
    · exact h.bB b hb
    · exact ⟨h4, by omega, by omega⟩
  refine { h with fr := h.fr.then k (fun j hj => by simp only [Option.some.injEq] at hj; omega), sc := ?_, rk := h.rk.keep k (by simp; omega), scr := hS.keep k (fun j hj => by cases hj; exact fun q => (hb _ q).2.1 rfl), bB := fun b q => ⟨by have := (hb b q).1; omega, (hb b q).2⟩ }
  have e0 := heap_setCell_same wr sb 0 _ _ (.int .i64 s'.g) h.sc
  have e1 := heap_setCell_same _ sb 1 _ _ (.slice s'.lo s'.ll s'.lc) e0
  have e2 := heap_setCell_same _ sb 2 _ _ (.slice s'.co s'.cl s'.cc) e1
  have e3 := heap_setCell_same _ sb 3 _ _ (.slice s'.no s'.nl s'.nc) e2
  exact heap_setCell_same _ sb 4 _ _ (.slice s'.oo s'.ol s'.oc) e3

set_option maxRecDepth 20000 in
set_option maxHeartbeats 4000000 in
theorem l5Scene_any (ao : Option Addr) (n c : Nat) (es : List Ev) (w : World) (hn : es.length = n) (h : ReadsE w ao es) :
    Calls Tryz.prog 127 #[.slice ao n c] w fun x w' => ∃ (s : Sv) (B : Nat → Prop), x = .returned (.tuple #[.agg #[.int .i64 s.g, .slice s.lo s.ll s.lc, .slice s.co s.cl s.cc, .slice s.no s.nl s.nc, .slice s.oo s.ol s.oc], .int .i64 (legS scn0 es).2.1, .int .i64 (legS scn0 es).2.2]) ∧ ScR B w' s (legS scn0 es).1 ∧ (∀ b, B b → w.heap.size ≤ b ∧ b < w'.heap.size) ∧ Fr w w' := by
  subst hn
  have hl := h.len
  have f0 := Fr.alloc w (.cells #[.int .i64 0, .slice none 0 0, .slice none 0 0, .slice none 0 0, .slice none 0 0] 29)
  have k0 := ScK.new w ⟨0, none, 0, 0, none, 0, 0, none, 0, 0, none, 0, 0⟩
  simp only at k0
  go_enter Tryz.func127, Tryz.ntmps127
  go_wp2_with fail
  obtain ⟨W, hW⟩ : ∃ W, W = w.alloc (.cells #[.int .i64 0, .slice none 0 0, .slice none 0 0, .slice none 0 0, .slice none 0 0] 29) := ⟨_, rfl⟩
  rw [← hW] at f0 k0 ⊢
  obtain ⟨rb, hrb⟩ : ∃ rb, rb = w.heap.size := ⟨_, rfl⟩
  rw [← hrb] at k0 ⊢
  refine (newScene_any (fun _ => False) W).mono ?_
  rintro x w1 ⟨⟨sg, lo, ll, lc, co, cl, cc, no, nl, nc, oo, ol, oc⟩, rfl, hS, f1⟩
  have fA := Fr.alloc w1 (.cells #[.int .i64 sg, .slice lo ll lc, .slice co cl cc, .slice no nl nc, .slice oo ol oc] 29)
  have kS := ScK.new w1 ⟨sg, lo, ll, lc, co, cl, cc, no, nl, nc, oo, ol, oc⟩
  have hX : SX (fun _ => False) w rb w1.heap.size ⟨sg, lo, ll, lc, co, cl, cc, no, nl, nc, oo, ol, oc⟩ scn0 (w1.alloc (.cells #[.int .i64 sg, .slice lo ll lc, .slice co cl cc, .slice no nl nc, .slice oo ol oc] 29)) :=
    ⟨f0.trans (f1.trans fA), kS, k0.fr (f1.trans fA), hS.fr fA, ⟨by omega, by have := k0.lt; have := f1.size; omega⟩, fun b hb => hb.elim⟩
  clear hW hrb f0 k0 fA kS hS
  go_wp2_with fail
  obtain ⟨V, hV⟩ : ∃ V, V = w1.alloc (.cells #[.int .i64 sg, .slice lo ll lc, .slice co cl cc, .slice no nl nc, .slice oo ol oc] 29) := ⟨_, rfl⟩
  rw [← hV] at hX ⊢
  obtain ⟨sb, hsb⟩ : ∃ sb, sb = w1.heap.size := ⟨_, rfl⟩
  rw [← hsb] at hX ⊢
  clear hV hsb f1
  go_loopw [6] (fun i wr => ∃ (k : Nat) (s : Sv) (m : Scn) (B : Nat → Prop), k ≤ es.length ∧ i = .int .i64 k ∧ Hid (LegAt es k m) ∧ SX B w rb sb s m wr ∧ Hid (∀ b, B b → w.heap.size ≤ b)) (fun i _ => es.length - (intOf i).toNat)
  case atStart => exact ⟨0, _, _, _, Nat.zero_le _, rfl, LegAt.start es, hX, fun b hb => hb.elim⟩
  case round =>
    clear hX
    obtain ⟨k, ⟨sg, lo, ll, lc, co, cl, cc, no, nl, nc, oo, ol, oc⟩, m, B, hk, rfl, HL, hX, HB⟩ := hrel
    obtain ⟨s0, s1, s2, s3, s4⟩ := hX.sc.at
    simp only at s0 s1 s2 s3 s4
    by_cases hlt : k < es.length
    · obtain ⟨eb, off, rfl, hev⟩ := h.at_ k hlt
      have ev := (hev k hlt)
      clear hev
      have HN : Hid (codeIn m es[k] = 0 → LegAt es (k + 1) (doS m es[k])) := fun q => HL.out.next hlt q
      have HT : Hid (¬ codeIn m es[k] = 0 → legS scn0 es = (m, k, codeIn m es[k])) := fun q => HL.out.stop hlt q
      have cI := fun u (f : Fr wr u) => codeIn_all ⟨sg, lo, ll, lc, co, cl, cc, no, nl, nc, oo, ol, oc⟩ m es[k] u (hX.scr.fr f)
      have cD := fun (q : codeIn m es[k] = 0) u (hu : Fr wr u) (hlt2 : ∀ b, B b → b < u.heap.size) => l4Do_any ⟨sg, lo, ll, lc, co, cl, cc, no, nl, nc, oo, ol, oc⟩ m es[k] u (code_parts q).2.1 (code_parts q).1 hlt2 (hX.scr.fr hu)
      have hi : (k : Int) < es.length := by omega
      obtain ⟨e, he⟩ : ∃ e, e = es[k] := ⟨_, rfl⟩
      rw [← he] at ev HN HT
      simp only [← he] at cI cD
      clear he
      obtain ⟨C, hC⟩ : ∃ C, C = codeIn m e := ⟨_, rfl⟩
      rw [← hC] at HN HT
      simp only [← hC] at cI cD
      clear hC
      obtain ⟨D, hD⟩ : ∃ D, D = doS m e := ⟨_, rfl⟩
      rw [← hD] at HN
      simp only [← hD] at cD
      clear hD
      obtain ⟨ek, eg, ej, ew, el, ez, ef, et⟩ := e
      simp only at cI cD
      have hblt : eb < w.heap.size := World.block_lt_of_cell? w _ ev.c0
      have HQ : Hid (∀ u, Fr wr u → ScB u sb ⟨sg, lo, ll, lc, co, cl, cc, no, nl, nc, oo, ol, oc⟩ ∧ EvC u eb (off + k * 8) ⟨ek, eg, ej, ew, el, ez, ef, et⟩) := fun u f => ⟨(hX.sc.fr f).at, ev.keep (hX.fr.trans f) (by simp)⟩
      clear s0 s1 s2 s3 s4 ev
      obtain ⟨⟨s0, s1, s2, s3, s4⟩, c0, c1, c2, c3, c4, c5, c6, c7⟩ := HQ.out wr (Fr.refl wr)
      simp only at s0 s1 s2 s3 s4 c0 c1 c2 c3 c4 c5 c6 c7
      have hX1 := hX
      go_wp2_with fail
      go_region_held3 (fun u => u.cell? ⟨sb, 0, none⟩ = some (.int .i64 sg) ∧ u.cell? ⟨sb, 1, none⟩ = some (.slice lo ll lc) ∧ u.cell? ⟨sb, 2, none⟩ = some (.slice co cl cc) ∧ u.cell? ⟨sb, 3, none⟩ = some (.slice no nl nc) ∧ u.cell? ⟨sb, 4, none⟩ = some (.slice oo ol oc) ∧ u.cell? ⟨eb, off + k * 8, none⟩ = some (.int .i64 ek) ∧ u.cell? ⟨eb, off + k * 8 + 1, none⟩ = some (.int .i64 eg) ∧ u.cell? ⟨eb, off + k * 8 + 2, none⟩ = some (.int .i64 ej) ∧ u.cell? ⟨eb, off + k * 8 + 3, none⟩ = some (.int .i64 ew) ∧ u.cell? ⟨eb, off + k * 8 + 4, none⟩ = some (.int .i64 el) ∧ u.cell? ⟨eb, off + k * 8 + 5, none⟩ = some (.int .i64 ez) ∧ u.cell? ⟨eb, off + k * 8 + 6, none⟩ = some (.int .i64 ef) ∧ u.cell? ⟨eb, off + k * 8 + 7, none⟩ = some (.int .i64 et)) (go_keep)
        (first | (go_at_call 14; refine (cI _ (Fr.drew wr)).mono ?_; rintro x u2 ⟨rfl, f2⟩; have g2 := (Fr.drew wr).trans f2; obtain ⟨⟨p0, p1, p2, p3, p4⟩, q0, q1, q2, q3, q4, q5, q6, q7⟩ := HQ.out _ g2; simp only at p0 p1 p2 p3 p4 q0 q1 q2 q3 q4 q5 q6 q7))
      clear s0 s1 s2 s3 s4 c0 c1 c2 c3 c4 c5 c6 c7 cI
      have hX2 := hX.grow g2
      by_cases hc : C = 0
      · have hcb : (C != 0) = false := by simp [hc]
        have HN := HN.out hc
        have cD := cD hc
        have HN : Hid (LegAt es (k + 1) D) := HN
        clear hc HT
        have hbl := fun b (q : B b) => (hX2.bB b q).1
        have cD := cD u2.drew (g2.trans (Fr.drew u2)) hbl
        go_wp2_with fail
        go_region_with (go_at_call 129; refine cD.mono ?_; rintro x u3 ⟨⟨g', lo1, ll1, lc1, co1, cl1, cc1, no1, nl1, nc1, oo1, ol1, oc1⟩, rfl, hS, f3⟩; obtain ⟨j0, j1, j2, j3, j4⟩ := (hX2.sc.fr ((Fr.drew u2).trans f3)).at; simp only at j0 j1 j2 j3 j4; have jf0 := (hX2.sc.fr ((Fr.drew u2).trans f3)).free 0; have jf1 := (hX2.sc.fr ((Fr.drew u2).trans f3)).free 1; have jf2 := (hX2.sc.fr ((Fr.drew u2).trans f3)).free 2; have jf3 := (hX2.sc.fr ((Fr.drew u2).trans f3)).free 3; have jf4 := (hX2.sc.fr ((Fr.drew u2).trans f3)).free 4)
        all_goals
          have hX3 := hX2.scene ((Fr.drew u2).trans f3) hS
          have HB3 : Hid (∀ b, Grew B u2 u3 b → w.heap.size ≤ b) := fun b q => by
            have := hX2.fr.size
            rcases q with q | q
            · exact HB.out b q
            · omega
          simp only at hX3
          clear j0 j1 j2 j3 j4 jf0 jf1 jf2 jf3 jf4
          obtain ⟨V3, hV3⟩ : ∃ V, V = (((((u3.setCell ⟨sb, 0, none⟩ (.int .i64 g')).setCell ⟨sb, 1, none⟩ (.slice lo1 ll1 lc1)).setCell ⟨sb, 2, none⟩ (.slice co1 cl1 cc1)).setCell ⟨sb, 3, none⟩ (.slice no1 nl1 nc1)).setCell ⟨sb, 4, none⟩ (.slice oo1 ol1 oc1)) := ⟨_, rfl⟩
          rw [← hV3] at hX3 ⊢
          clear hV3 hS f3 p0 p1 p2 p3 p4 q0 q1 q2 q3 q4 q5 q6 q7
          go_wp2_with fail
          go_roundw
          case rel => exact ⟨k + 1, _, _, _, by omega, by go_num, HN, hX3, HB3⟩
          case measure => simp [intOf]; omega
      · have hcb : (C != 0) = true := by simpa using hc
        have HT := HT.out hc
        have HT : Hid (legS scn0 es = (m, k, C)) := HT
        clear hc HN cD q0 q1 q2 q3 q4 q5 q6 q7
        obtain ⟨j0, j1, j2, j3, j4⟩ := hX2.rk.at
        have jf := fun i => hX2.rk.free i
        simp only at j0 j1 j2 j3 j4
        have HF := do_fin (B := B) (Bx := B) (w := w) hX2.scr (fun q => (hX2.bB _ q).2.2 rfl) (fun b q => .inl q) hX2.sl.1 hX2.fr (.int .i64 sg) (.slice lo ll lc) (.slice co cl cc) (.slice no nl nc) (.slice oo ol oc)
        have HF : Hid _ := HF
        have HS : Hid (∀ b, B b → b < u2.heap.size) := fun b q => (hX2.bB b q).1
        go_wp2_with fail
        refine bodyPost_ret (v := .tuple #[.agg #[.int .i64 sg, .slice lo ll lc, .slice co cl cc, .slice no nl nc, .slice oo ol oc], .int .i64 k, .int .i64 C]) (by simp [results, Tryz.results127, go_sem, j0, j1, j2, j3, j4]) rfl ⟨⟨sg, lo, ll, lc, co, cl, cc, no, nl, nc, oo, ol, oc⟩, B, ?_, ?_, ?_, HF.out.2⟩
        · rw [HT.out]
        · rw [HT.out]
          exact hX2.scr.keep (put5 _ _ _ _ _ _ _) (fun j hj => by cases hj; exact fun q => (hX2.bB _ q).2.2 rfl)
        · intro b q
          have h1 := HB.out b q
          have h2 := HS.out b q
          have h3 := (put5 u2 rb (.int .i64 sg) (.slice lo ll lc) (.slice co cl cc) (.slice no nl nc) (.slice oo ol oc)).size
          exact ⟨h1, by omega⟩
    · have hke : k = es.length := by omega
      have HT : Hid (legS scn0 es = (m, es.length, 0)) := LegAt.done (by rw [← hke]; exact HL.out)
      have hX2 := hX
      clear HL
      obtain ⟨j0, j1, j2, j3, j4⟩ := hX2.rk.at
      have jf := fun i => hX2.rk.free i
      simp only at j0 j1 j2 j3 j4
      have HF := do_fin (B := B) (Bx := B) (w := w) hX2.scr (fun q => (hX2.bB _ q).2.2 rfl) (fun b q => .inl q) hX2.sl.1 hX2.fr (.int .i64 sg) (.slice lo ll lc) (.slice co cl cc) (.slice no nl nc) (.slice oo ol oc)
      have HF : Hid _ := HF
      have HS : Hid (∀ b, B b → b < wr.heap.size) := fun b q => (hX2.bB b q).1
      go_wp2_with fail
      refine bodyPost_ret (v := .tuple #[.agg #[.int .i64 sg, .slice lo ll lc, .slice co cl cc, .slice no nl nc, .slice oo ol oc], .int .i64 es.length, .int .i64 0]) (by simp [results, Tryz.results127, go_sem, j0, j1, j2, j3, j4]) rfl ⟨⟨sg, lo, ll, lc, co, cl, cc, no, nl, nc, oo, ol, oc⟩, B, ?_, ?_, ?_, HF.out.2⟩
      · rw [HT.out]
      · rw [HT.out]
        exact hX2.scr.keep (put5 _ _ _ _ _ _ _) (fun j hj => by cases hj; exact fun q => (hX2.bB _ q).2.2 rfl)
      · intro b q
        have h1 := HB.out b q
        have h2 := HS.out b q
        have h3 := (put5 wr rb (.int .i64 sg) (.slice lo ll lc) (.slice co cl cc) (.slice no nl nc) (.slice oo ol oc)).size
        exact ⟨h1, by omega⟩
end Go.Proofs.YtcofhmikdkkigaaGreatDoor
namespace Go.Proofs.YtcofhmikdkkigaaGreatDoor
open Go.RowKit Go.Shelf
attribute [local go_sem] Oper.semAt_some

theorem EvC.keepS {S : Nat → Prop} {w w' : World} {b o : Nat} {e : Ev} (h : EvC w b o e) (k : FrS S w w') (hs : ¬ S b) : EvC w' b o e :=
  ⟨k.cell h.c0 hs, k.cell h.c1 hs, k.cell h.c2 hs, k.cell h.c3 hs, k.cell h.c4 hs, k.cell h.c5 hs, k.cell h.c6 hs, k.cell h.c7 hs⟩
theorem Shapes.keepS {S : Nat → Prop} {w w' : World} (h : Shapes w) (k : FrS S w w') (hs : ¬ S 0) : Shapes w' := fun n hn => by
  obtain ⟨h1, h2, h3⟩ := h n hn
  exact ⟨k.cell h1 hs, k.cell h2 hs, k.cell h3 hs⟩

def Kept (b b1 b2 b3 b4 pb l k : Nat) : Prop := On b b1 b2 b3 b4 k ∨ k = pb ∨ k = l

end Go.Proofs.YtcofhmikdkkigaaGreatDoor
