/-
  The drawing of scenes and events: DrawDone; what is done and what is not.
-/
import Derived.Test.YtcofhmikdkkigaaGreatDoorScDrwB
import Derived.Test.YtcofhmikdkkigaaGreatDoorPfBL
import Derived.Test.YtcofhmikdkkigaaGreatDoorPfBH
namespace Go.Proofs.YtcofhmikdkkigaaGreatDoor
open Go.RowKit

set_option maxRecDepth 20000 in
set_option maxHeartbeats 4000000 in
theorem drawDone_any (ao : Option Addr) (n cap : Nat) (w : World) (h : ByteRow w ao n) (hn : n ≤ 4294967296) :
    Calls Tryz.prog 12 #[.slice ao n cap] w fun x w' => ∃ (s : Sv) (m : Scn) (e : Ev) (B : Nat → Prop), x = .returned (.tuple #[.agg #[.int .i64 s.g, .slice s.lo s.ll s.lc, .slice s.co s.cl s.cc, .slice s.no s.nl s.nc, .slice s.oo s.ol s.oc], .agg #[.int .i64 e.k, .int .i64 e.g, .int .i64 e.o, .int .i64 e.w, .int .i64 e.l, .int .i64 e.s, .int .i64 e.f, .int .i64 e.t]]) ∧ EvI e ∧ ScR B w' s m ∧ (∀ b, B b → b < w'.heap.size) ∧ Fr w w' := by
  have fa := (Fr.alloc w (.cells #[.int .i64 0, .slice none 0 0, .slice none 0 0, .slice none 0 0, .slice none 0 0] 29)).trans (Fr.alloc _ (.cells #[.int .i64 0, .int .i64 0, .int .i64 0, .int .i64 0, .int .i64 0, .int .i64 0, .int .i64 0, .int .i64 0] 31))
  have Z2 := (ScK.new w ⟨0, none, 0, 0, none, 0, 0, none, 0, 0, none, 0, 0⟩).fr (Fr.alloc _ (.cells #[.int .i64 0, .int .i64 0, .int .i64 0, .int .i64 0, .int .i64 0, .int .i64 0, .int .i64 0, .int .i64 0] 31))
  have Z3 := EvB.new (w.alloc (.cells #[.int .i64 0, .slice none 0 0, .slice none 0 0, .slice none 0 0, .slice none 0 0] 29)) ⟨0, 0, 0, 0, 0, 0, 0, 0⟩
  simp only [World.size_alloc] at Z2 Z3
  have hz : ((w.alloc (.cells #[.int .i64 0, .slice none 0 0, .slice none 0 0, .slice none 0 0, .slice none 0 0] 29)).alloc (.cells #[.int .i64 0, .int .i64 0, .int .i64 0, .int .i64 0, .int .i64 0, .int .i64 0, .int .i64 0, .int .i64 0] 31)).heap.size = w.heap.size + 2 := by simp
  go_enter Tryz.func12, Tryz.ntmps12
  go_wp2_with fail
  obtain ⟨W, hW⟩ : ∃ W, W = (w.alloc (.cells #[.int .i64 0, .slice none 0 0, .slice none 0 0, .slice none 0 0, .slice none 0 0] 29)).alloc (.cells #[.int .i64 0, .int .i64 0, .int .i64 0, .int .i64 0, .int .i64 0, .int .i64 0, .int .i64 0, .int .i64 0] 31) := ⟨_, rfl⟩
  rw [← hW] at fa Z2 Z3 hz ⊢
  have HZZ : Hid (W.heap.size = w.heap.size + 2) := hz
  clear hW hz
  refine (l1New_any ao n cap W (h.fr fa) hn).mono ?_
  rintro x u1 ⟨rfl, c1, f1⟩
  have hz1 := f1.size
  have K2 := Z2.fr f1
  have K3 := Z3.keep f1 (by simp)
  clear Z2 Z3 hz1
  go_wp2_with fail
  refine (l4DrawBoth_any W.heap.size u1 c1).mono ?_
  rintro x u2 ⟨⟨sg, lo, ll, lc, co, cl, cc, no, nl, nc, oo, ol, oc⟩, m, ⟨k, gr, o, wi, l, sz, f, t⟩, B, rfl, ie, S2, B2, c2, g2⟩
  have hz2 := g2.size
  have hz := HZZ.out
  have hz1 := f1.size
  have K2 := K2.keep g2 (by simp only [ne_eq, Option.some.injEq]; omega)
  have K3 := K3.keep g2 (by simp only [ne_eq, Option.some.injEq]; omega)
  have F2 : Fr w u2 := (fa.trans f1).then g2 (fun j hj => by simp only [Option.some.injEq] at hj; omega)
  have HS : Hid (ScR B u2 ⟨sg, lo, ll, lc, co, cl, cc, no, nl, nc, oo, ol, oc⟩ m) := S2
  have HB : Hid (∀ b, B b → w.heap.size + 2 ≤ b ∧ b < u2.heap.size) := fun b q => by have := B2 b q; exact ⟨by omega, this.2⟩
  have HE : Hid (EvI ⟨k, gr, o, wi, l, sz, f, t⟩) := ie
  clear hz hz1 hz2 S2 B2 ie c1 c2 g2 f1 fa h
  obtain ⟨r2, hr2⟩ : ∃ r, r = w.heap.size := ⟨_, rfl⟩
  obtain ⟨r3, hr3⟩ : ∃ r, r = r2 + 1 := ⟨_, rfl⟩
  rw [← hr2] at K2 K3 ⊢
  rw [← hr3] at K3 ⊢
  obtain ⟨j0, j1, j2, j3, j4⟩ := K2.at
  obtain ⟨i0, i1, i2, i3, i4, i5, i6, i7⟩ := K3.at
  simp only at j0 j1 j2 j3 j4 i0 i1 i2 i3 i4 i5 i6 i7
  have jf := fun i => K2.free i
  have kf := fun i => K3.free i
  have hfin : ∀ v0 v1 v2 v3 v4 x0 x1 x2 x3 x4 x5 x6 x7, ∃ P : World, u2.grownBy P (some r2) ∧ P.grownBy ((((((((((((((u2.setCell ⟨r2, 0, none⟩ v0).setCell ⟨r2, 1, none⟩ v1).setCell ⟨r2, 2, none⟩ v2).setCell ⟨r2, 3, none⟩ v3).setCell ⟨r2, 4, none⟩ v4).setCell ⟨r3, 0, none⟩ x0).setCell ⟨r3, 1, none⟩ x1).setCell ⟨r3, 2, none⟩ x2).setCell ⟨r3, 3, none⟩ x3).setCell ⟨r3, 4, none⟩ x4).setCell ⟨r3, 5, none⟩ x5).setCell ⟨r3, 6, none⟩ x6).setCell ⟨r3, 7, none⟩ x7)) (some r3) := fun v0 v1 v2 v3 v4 x0 x1 x2 x3 x4 x5 x6 x7 => ⟨_, put5 u2 r2 v0 v1 v2 v3 v4, put8 _ r3 x0 x1 x2 x3 x4 x5 x6 x7⟩
  have HR : Hid (r2 = w.heap.size ∧ r3 = r2 + 1) := ⟨hr2, hr3⟩
  have hne : r2 ≠ r3 := by omega
  have hne' : r3 ≠ r2 := by omega
  clear K2 K3 hr2 hr3
  go_wp2_with fail
  obtain ⟨P, p1, p2⟩ := hfin (.int .i64 sg) (.slice lo ll lc) (.slice co cl cc) (.slice no nl nc) (.slice oo ol oc) (.int .i64 k) (.int .i64 gr) (.int .i64 o) (.int .i64 wi) (.int .i64 l) (.int .i64 sz) (.int .i64 f) (.int .i64 t)
  have z1 := p1.size
  have z2 := p2.size
  obtain ⟨e2, e3⟩ := HR.out
  refine bodyPost_ret (v := .tuple #[.agg #[.int .i64 sg, .slice lo ll lc, .slice co cl cc, .slice no nl nc, .slice oo ol oc], .agg #[.int .i64 k, .int .i64 gr, .int .i64 o, .int .i64 wi, .int .i64 l, .int .i64 sz, .int .i64 f, .int .i64 t]]) (by simp [results, Tryz.results12, go_sem, j0, j1, j2, j3, j4, i0, i1, i2, i3, i4, i5, i6, i7]) rfl ⟨⟨sg, lo, ll, lc, co, cl, cc, no, nl, nc, oo, ol, oc⟩, m, ⟨k, gr, o, wi, l, sz, f, t⟩, B, rfl, HE.out, (HS.out.keep p1 (fun j hj => by cases hj; exact fun q => by have := (HB.out _ q).1; omega)).keep p2 (fun j hj => by cases hj; exact fun q => by have := (HB.out _ q).1; omega), fun b q => by have := (HB.out b q).2; omega, (F2.then p1 (fun j hj => by simp only [Option.some.injEq] at hj; omega)).then p2 (fun j hj => by simp only [Option.some.injEq] at hj; omega)⟩

theorem step_not {m : Scn} {e : Ev} (h : codeIn m e ≠ 0) : stepS m e = m := if_neg h
theorem step_do {m : Scn} {e : Ev} (h : codeIn m e = 0) : stepS m e = doS m e := if_pos h
theorem doS_gors (m : Scn) (e : Ev) : m.g ≤ (doS m e).g := by
  unfold doS
  by_cases h1 : e.k = 1
  · rw [if_pos h1]
    show m.g ≤ m.g + 1
    omega
  · rw [if_neg h1]
    by_cases h2 : 2 ≤ e.k ∧ e.k ≤ 5
    · rw [if_pos h2]
      exact Int.le_refl _
    rw [if_neg h2]
    by_cases h3 : 6 ≤ e.k ∧ e.k ≤ 8 ∨ e.k = 10
    · rw [if_pos h3]
      exact Int.le_refl _
    rw [if_neg h3]
    by_cases h4 : e.k = 12
    · rw [if_pos h4]
      exact Int.le_refl _
    rw [if_neg h4]
    by_cases h5 : e.k = 13
    · rw [if_pos h5]
      exact Int.le_refl _
    rw [if_neg h5]
    by_cases h6 : e.k = 15
    · rw [if_pos h6]
      exact Int.le_refl _
    rw [if_neg h6]
    exact Int.le_refl _
theorem done_bad {m : Scn} {e : Ev} (h : scB m = false) : doneS m e = ⟨0, [], [], [], []⟩ ∧ codeIn m e = 1 := by
  constructor
  · unfold doneS
    rw [if_neg (by rw [h]; decide)]
  · unfold codeIn
    rw [if_pos (.inr h)]
theorem done_not {m : Scn} {e : Ev} (h : scB m = true) (hc : codeIn m e ≠ 0) : doneS m e = m := by
  unfold doneS
  rw [if_pos h, step_not hc]
theorem done_yes {m : Scn} {e : Ev} (h : scB m = true) (hc : codeIn m e = 0) : scB (doneS m e) = true ∧ m.g ≤ (doneS m e).g := by
  unfold doneS
  rw [if_pos h]
  exact ⟨step_ok h e, by rw [step_do hc]; exact doS_gors m e⟩
end Go.Proofs.YtcofhmikdkkigaaGreatDoor
