/-
  Pack BK: ScLegO.
-/
import Derived.Test.YtcofhmikdkkigaaGreatDoorPfBC
import Derived.Test.YtcofhmikdkkigaaGreatDoorPfBJ
import Derived.Deep.RegionHeld3
import Derived.Deep.RegionWith
import Derived.BigRegion
namespace Go.Proofs.YtcofhmikdkkigaaGreatDoor
open Go.RowKit

theorem newScene_own (B : Nat → Prop) (w : World) :
    Calls Tryz.prog 163 #[] w fun e w' => ∃ s : Sv, e = .returned (.agg #[.int .i64 s.g, .slice s.lo s.ll s.lc, .slice s.co s.cl s.cc, .slice s.no s.nl s.nc, .slice s.oo s.ol s.oc]) ∧ ScR B w' s scn0 ∧ Fr w w' ∧ OwR w' s := by
  go_enter Tryz.func163, Tryz.ntmps163
  go_wp2
  refine bodyPost_ret (v := .agg #[.int .i64 1, .slice none 0 0, .slice none 0 0, .slice none 0 0, .slice none 0 0]) (by simp [results, Tryz.results163, go_sem]) rfl ⟨⟨1, none, 0, 0, none, 0, 0, none, 0, 0, none, 0, 0⟩, rfl, scR_new _ _, Fr.alloc _ _, OwR.nil _ _⟩

set_option maxRecDepth 20000 in
set_option maxHeartbeats 4000000 in
theorem l5Scene_own (ao : Option Addr) (n c : Nat) (es : List Ev) (w : World) (hn : es.length = n) (h : ReadsE w ao es) :
    Calls Tryz.prog 127 #[.slice ao n c] w fun x w' => ∃ (s : Sv) (B : Nat → Prop), x = .returned (.tuple #[.agg #[.int .i64 s.g, .slice s.lo s.ll s.lc, .slice s.co s.cl s.cc, .slice s.no s.nl s.nc, .slice s.oo s.ol s.oc], .int .i64 (legS scn0 es).2.1, .int .i64 (legS scn0 es).2.2]) ∧ ScR B w' s (legS scn0 es).1 ∧ (∀ b, B b → w.heap.size ≤ b ∧ b < w'.heap.size) ∧ Fr w w' ∧ OwR w' s := by
  subst hn
  have hl := h.len
  have f0 := Fr.alloc w (.cells #[.int .i64 0, .slice none 0 0, .slice none 0 0, .slice none 0 0, .slice none 0 0] 29)
  have k0 := ScK.new w ⟨0, none, 0, 0, none, 0, 0, none, 0, 0, none, 0, 0⟩
  simp only at k0
  go_enter Tryz.func127, Tryz.ntmps127
  go_wp2_with fail
  obtain ⟨W, hW⟩ : ∃ W, W = w.alloc (.cells #[.int .i64 0, .slice none 0 0, .slice none 0 0, .slice none 0 0, .slice none 0 0] 29) := ⟨_, rfl⟩
  rw [← hW] at f0 k0 ⊢
  obtain ⟨rb, hrb⟩ : ∃ rb, rb = w.heap.size := ⟨_, rfl⟩
  rw [← hrb] at k0 ⊢
  refine (newScene_own (fun _ => False) W).mono ?_
  rintro x w1 ⟨⟨sg, lo, ll, lc, co, cl, cc, no, nl, nc, oo, ol, oc⟩, rfl, hS, f1, hO1⟩
  have hOA := hO1.fr (Fr.alloc w1 (.cells #[.int .i64 sg, .slice lo ll lc, .slice co cl cc, .slice no nl nc, .slice oo ol oc] 29))
  clear hO1
  have fA := Fr.alloc w1 (.cells #[.int .i64 sg, .slice lo ll lc, .slice co cl cc, .slice no nl nc, .slice oo ol oc] 29)
  have kS := ScK.new w1 ⟨sg, lo, ll, lc, co, cl, cc, no, nl, nc, oo, ol, oc⟩
  have hX : SX (fun _ => False) w rb w1.heap.size ⟨sg, lo, ll, lc, co, cl, cc, no, nl, nc, oo, ol, oc⟩ scn0 (w1.alloc (.cells #[.int .i64 sg, .slice lo ll lc, .slice co cl cc, .slice no nl nc, .slice oo ol oc] 29)) :=
    ⟨f0.trans (f1.trans fA), kS, k0.fr (f1.trans fA), hS.fr fA, ⟨by omega, by have := k0.lt; have := f1.size; omega⟩, fun b hb => hb.elim⟩
  clear hW hrb f0 k0 fA kS hS
  go_wp2_with fail
  obtain ⟨V, hV⟩ : ∃ V, V = w1.alloc (.cells #[.int .i64 sg, .slice lo ll lc, .slice co cl cc, .slice no nl nc, .slice oo ol oc] 29) := ⟨_, rfl⟩
  rw [← hV] at hX hOA ⊢
  have hOA : Hid _ := hOA
  obtain ⟨sb, hsb⟩ : ∃ sb, sb = w1.heap.size := ⟨_, rfl⟩
  rw [← hsb] at hX ⊢
  clear hV hsb f1
  go_loopw [6] (fun i wr => ∃ (k : Nat) (s : Sv) (m : Scn) (B : Nat → Prop), k ≤ es.length ∧ i = .int .i64 k ∧ Hid (LegAt es k m) ∧ SX B w rb sb s m wr ∧ Hid (∀ b, B b → w.heap.size ≤ b) ∧ Hid (OwR wr s)) (fun i _ => es.length - (intOf i).toNat)
  case atStart => exact ⟨0, _, _, _, Nat.zero_le _, rfl, LegAt.start es, hX, (fun b hb => hb.elim), hOA⟩
  case round =>
    clear hX
    obtain ⟨k, ⟨sg, lo, ll, lc, co, cl, cc, no, nl, nc, oo, ol, oc⟩, m, B, hk, rfl, HL, hX, HB, HO⟩ := hrel
    obtain ⟨s0, s1, s2, s3, s4⟩ := hX.sc.at
    simp only at s0 s1 s2 s3 s4
    by_cases hlt : k < es.length
    · obtain ⟨eb, off, rfl, hev⟩ := h.at_ k hlt
      have ev := (hev k hlt)
      clear hev
      have HN : Hid (codeIn m es[k] = 0 → LegAt es (k + 1) (doS m es[k])) := fun q => HL.out.next hlt q
      have HT : Hid (¬ codeIn m es[k] = 0 → legS scn0 es = (m, k, codeIn m es[k])) := fun q => HL.out.stop hlt q
      have cI := fun u (f : Fr wr u) => codeIn_all ⟨sg, lo, ll, lc, co, cl, cc, no, nl, nc, oo, ol, oc⟩ m es[k] u (hX.scr.fr f)
      have cD := fun (q : codeIn m es[k] = 0) u (hu : Fr wr u) (hlt2 : ∀ b, B b → b < u.heap.size) => l4Do_own ⟨sg, lo, ll, lc, co, cl, cc, no, nl, nc, oo, ol, oc⟩ m es[k] u (code_parts q).2.1 (code_parts q).1 hlt2 (hX.scr.fr hu)
      have hi : (k : Int) < es.length := by omega
      obtain ⟨e, he⟩ : ∃ e, e = es[k] := ⟨_, rfl⟩
      rw [← he] at ev HN HT
      simp only [← he] at cI cD
      clear he
      obtain ⟨C, hC⟩ : ∃ C, C = codeIn m e := ⟨_, rfl⟩
      rw [← hC] at HN HT
      simp only [← hC] at cI cD
      clear hC
      obtain ⟨D, hD⟩ : ∃ D, D = doS m e := ⟨_, rfl⟩
      rw [← hD] at HN
      simp only [← hD] at cD
      clear hD
      obtain ⟨ek, eg, ej, ew, el, ez, ef, et⟩ := e
      simp only at cI cD
      have hblt : eb < w.heap.size := World.block_lt_of_cell? w _ ev.c0
      have HQ : Hid (∀ u, Fr wr u → ScB u sb ⟨sg, lo, ll, lc, co, cl, cc, no, nl, nc, oo, ol, oc⟩ ∧ EvC u eb (off + k * 8) ⟨ek, eg, ej, ew, el, ez, ef, et⟩) := fun u f => ⟨(hX.sc.fr f).at, ev.keep (hX.fr.trans f) (by simp)⟩
      clear s0 s1 s2 s3 s4 ev
      obtain ⟨⟨s0, s1, s2, s3, s4⟩, c0, c1, c2, c3, c4, c5, c6, c7⟩ := HQ.out wr (Fr.refl wr)
      simp only at s0 s1 s2 s3 s4 c0 c1 c2 c3 c4 c5 c6 c7
      have hX1 := hX
      go_wp2_with fail
      go_region_held3 (fun u => u.cell? ⟨sb, 0, none⟩ = some (.int .i64 sg) ∧ u.cell? ⟨sb, 1, none⟩ = some (.slice lo ll lc) ∧ u.cell? ⟨sb, 2, none⟩ = some (.slice co cl cc) ∧ u.cell? ⟨sb, 3, none⟩ = some (.slice no nl nc) ∧ u.cell? ⟨sb, 4, none⟩ = some (.slice oo ol oc) ∧ u.cell? ⟨eb, off + k * 8, none⟩ = some (.int .i64 ek) ∧ u.cell? ⟨eb, off + k * 8 + 1, none⟩ = some (.int .i64 eg) ∧ u.cell? ⟨eb, off + k * 8 + 2, none⟩ = some (.int .i64 ej) ∧ u.cell? ⟨eb, off + k * 8 + 3, none⟩ = some (.int .i64 ew) ∧ u.cell? ⟨eb, off + k * 8 + 4, none⟩ = some (.int .i64 el) ∧ u.cell? ⟨eb, off + k * 8 + 5, none⟩ = some (.int .i64 ez) ∧ u.cell? ⟨eb, off + k * 8 + 6, none⟩ = some (.int .i64 ef) ∧ u.cell? ⟨eb, off + k * 8 + 7, none⟩ = some (.int .i64 et)) (go_keep)
        (first | (go_at_call 14; refine (cI _ (Fr.drew wr)).mono ?_; rintro x u2 ⟨rfl, f2⟩; have g2 := (Fr.drew wr).trans f2; obtain ⟨⟨p0, p1, p2, p3, p4⟩, q0, q1, q2, q3, q4, q5, q6, q7⟩ := HQ.out _ g2; simp only at p0 p1 p2 p3 p4 q0 q1 q2 q3 q4 q5 q6 q7))
      clear s0 s1 s2 s3 s4 c0 c1 c2 c3 c4 c5 c6 c7 cI
      have hX2 := hX.grow g2
      by_cases hc : C = 0
      · have hcb : (C != 0) = false := by simp [hc]
        have HN := HN.out hc
        have cD := cD hc
        have HN : Hid (LegAt es (k + 1) D) := HN
        clear hc HT
        have hbl := fun b (q : B b) => (hX2.bB b q).1
        have cD := cD u2.drew (g2.trans (Fr.drew u2)) hbl
        go_wp2_with fail
        go_region_with (go_at_call 129; refine cD.mono ?_; rintro x u3 ⟨⟨g', lo1, ll1, lc1, co1, cl1, cc1, no1, nl1, nc1, oo1, ol1, oc1⟩, rfl, hS, f3, hOS⟩; obtain ⟨j0, j1, j2, j3, j4⟩ := (hX2.sc.fr ((Fr.drew u2).trans f3)).at; simp only at j0 j1 j2 j3 j4; have jf0 := (hX2.sc.fr ((Fr.drew u2).trans f3)).free 0; have jf1 := (hX2.sc.fr ((Fr.drew u2).trans f3)).free 1; have jf2 := (hX2.sc.fr ((Fr.drew u2).trans f3)).free 2; have jf3 := (hX2.sc.fr ((Fr.drew u2).trans f3)).free 3; have jf4 := (hX2.sc.fr ((Fr.drew u2).trans f3)).free 4)
        all_goals
          have hX3 := hX2.scene ((Fr.drew u2).trans f3) hS
          have HO3 := own_fin (rb := sb) hS (fun q => by rcases q with q | ⟨q, _⟩; · { exact (hX2.bB _ q).2.1 rfl }; · { have := hX2.sc.lt; have := (Fr.drew u2).size; omega }) (hOS (HO.out.fr (g2.trans (Fr.drew u2)))) (.int .i64 g') (.slice lo1 ll1 lc1) (.slice co1 cl1 cc1) (.slice no1 nl1 nc1) (.slice oo1 ol1 oc1)
          have HB3 : Hid (∀ b, Grew B u2 u3 b → w.heap.size ≤ b) := fun b q => by
            have := hX2.fr.size
            rcases q with q | q
            · exact HB.out b q
            · omega
          simp only at hX3
          clear j0 j1 j2 j3 j4 jf0 jf1 jf2 jf3 jf4
          obtain ⟨V3, hV3⟩ : ∃ V, V = (((((u3.setCell ⟨sb, 0, none⟩ (.int .i64 g')).setCell ⟨sb, 1, none⟩ (.slice lo1 ll1 lc1)).setCell ⟨sb, 2, none⟩ (.slice co1 cl1 cc1)).setCell ⟨sb, 3, none⟩ (.slice no1 nl1 nc1)).setCell ⟨sb, 4, none⟩ (.slice oo1 ol1 oc1)) := ⟨_, rfl⟩
          rw [← hV3] at hX3 HO3 ⊢
          have HO3 : Hid _ := HO3
          clear hOS
          clear hV3 hS f3 p0 p1 p2 p3 p4 q0 q1 q2 q3 q4 q5 q6 q7
          go_wp2_with fail
          go_roundw
          case rel => exact ⟨k + 1, _, _, _, by omega, by go_num, HN, hX3, HB3, HO3⟩
          case measure => simp [intOf]; omega
      · have hcb : (C != 0) = true := by simpa using hc
        have HT := HT.out hc
        have HT : Hid (legS scn0 es = (m, k, C)) := HT
        clear hc HN cD q0 q1 q2 q3 q4 q5 q6 q7
        obtain ⟨j0, j1, j2, j3, j4⟩ := hX2.rk.at
        have jf := fun i => hX2.rk.free i
        simp only at j0 j1 j2 j3 j4
        have HF := do_fin (B := B) (Bx := B) (w := w) hX2.scr (fun q => (hX2.bB _ q).2.2 rfl) (fun b q => .inl q) hX2.sl.1 hX2.fr (.int .i64 sg) (.slice lo ll lc) (.slice co cl cc) (.slice no nl nc) (.slice oo ol oc)
        have HF : Hid _ := HF
        have HS : Hid (∀ b, B b → b < u2.heap.size) := fun b q => (hX2.bB b q).1
        go_wp2_with fail
        refine bodyPost_ret (v := .tuple #[.agg #[.int .i64 sg, .slice lo ll lc, .slice co cl cc, .slice no nl nc, .slice oo ol oc], .int .i64 k, .int .i64 C]) (by simp [results, Tryz.results127, go_sem, j0, j1, j2, j3, j4]) rfl ⟨⟨sg, lo, ll, lc, co, cl, cc, no, nl, nc, oo, ol, oc⟩, B, ?_, ?_, ?_, HF.out.2, ?_⟩
        · rw [HT.out]
        · rw [HT.out]
          exact hX2.scr.keep (put5 _ _ _ _ _ _ _) (fun j hj => by cases hj; exact fun q => (hX2.bB _ q).2.2 rfl)
        · intro b q
          have h1 := HB.out b q
          have h2 := HS.out b q
          have h3 := (put5 u2 rb (.int .i64 sg) (.slice lo ll lc) (.slice co cl cc) (.slice no nl nc) (.slice oo ol oc)).size
          exact ⟨h1, by omega⟩
        · exact own_fin hX2.scr (fun q => (hX2.bB _ q).2.2 rfl) (HO.out.fr g2) _ _ _ _ _
    · have hke : k = es.length := by omega
      have HT : Hid (legS scn0 es = (m, es.length, 0)) := LegAt.done (by rw [← hke]; exact HL.out)
      have hX2 := hX
      clear HL
      obtain ⟨j0, j1, j2, j3, j4⟩ := hX2.rk.at
      have jf := fun i => hX2.rk.free i
      simp only at j0 j1 j2 j3 j4
      have HF := do_fin (B := B) (Bx := B) (w := w) hX2.scr (fun q => (hX2.bB _ q).2.2 rfl) (fun b q => .inl q) hX2.sl.1 hX2.fr (.int .i64 sg) (.slice lo ll lc) (.slice co cl cc) (.slice no nl nc) (.slice oo ol oc)
      have HF : Hid _ := HF
      have HS : Hid (∀ b, B b → b < wr.heap.size) := fun b q => (hX2.bB b q).1
      go_wp2_with fail
      refine bodyPost_ret (v := .tuple #[.agg #[.int .i64 sg, .slice lo ll lc, .slice co cl cc, .slice no nl nc, .slice oo ol oc], .int .i64 es.length, .int .i64 0]) (by simp [results, Tryz.results127, go_sem, j0, j1, j2, j3, j4]) rfl ⟨⟨sg, lo, ll, lc, co, cl, cc, no, nl, nc, oo, ol, oc⟩, B, ?_, ?_, ?_, HF.out.2, ?_⟩
      · rw [HT.out]
      · rw [HT.out]
        exact hX2.scr.keep (put5 _ _ _ _ _ _ _) (fun j hj => by cases hj; exact fun q => (hX2.bB _ q).2.2 rfl)
      · intro b q
        have h1 := HB.out b q
        have h2 := HS.out b q
        have h3 := (put5 wr rb (.int .i64 sg) (.slice lo ll lc) (.slice co cl cc) (.slice no nl nc) (.slice oo ol oc)).size
        exact ⟨h1, by omega⟩
      · exact own_fin hX2.scr (fun q => (hX2.bB _ q).2.2 rfl) HO.out _ _ _ _ _
end Go.Proofs.YtcofhmikdkkigaaGreatDoor
