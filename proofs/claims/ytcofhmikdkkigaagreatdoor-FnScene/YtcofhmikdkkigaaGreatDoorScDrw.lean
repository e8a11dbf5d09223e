/-
  The drawing of scenes: l4Draw.
-/
import Derived.Test.YtcofhmikdkkigaaGreatDoorScAftO
import Derived.Test.YtcofhmikdkkigaaGreatDoorPfBP
import Derived.Test.YtcofhmikdkkigaaGreatDoorPfBH
namespace Go.Proofs.YtcofhmikdkkigaaGreatDoor
open Go.RowKit

/-- Of at most 16 of each. -/
def Few (m : Scn) : Prop := m.ls.length ≤ 16 ∧ m.cs.length ≤ 16 ∧ m.gs.length ≤ 16 ∧ m.os.length ≤ 16
theorem aft_few (es : List Ev) : Few (aftS es) := by
  unfold aftS
  split
  · exact ⟨by simp, by simp, by simp, by simp⟩
  · exact scB_lens (leg_ok es scn0 (by decide))

set_option maxRecDepth 20000 in
set_option maxHeartbeats 2000000 in
theorem l4Draw_own (g : Nat) (w : World) (hc : Cur w g) :
    Calls Tryz.prog 142 #[.pointer (some ⟨g, 0, none⟩)] w fun x w' => ∃ (s : Sv) (m : Scn) (B : Nat → Prop), x = .returned (.agg #[.int .i64 s.g, .slice s.lo s.ll s.lc, .slice s.co s.cl s.cc, .slice s.no s.nl s.nc, .slice s.oo s.ol s.oc]) ∧ ScR B w' s m ∧ OwR w' s ∧ Few m ∧ (∀ b, B b → w.heap.size ≤ b ∧ b < w'.heap.size) ∧ Cur w' g ∧ w.grownBy w' (some g) := by
  have f0 := Fr.alloc w (.cells #[.int .i64 0, .slice none 0 0, .slice none 0 0, .slice none 0 0, .slice none 0 0] 29)
  have k0 := ScK.new w ⟨0, none, 0, 0, none, 0, 0, none, 0, 0, none, 0, 0⟩
  simp only at k0
  have hgl := hc.lt
  have cD := l5Draw_any g _ (hc.fr f0)
  have hz0 := f0.size
  go_enter Tryz.func142, Tryz.ntmps142
  go_wp2_with fail
  refine cD.mono ?_
  rintro x u1 ⟨v, rfl, es, o1, l1, c1, g1⟩
  have k1 := k0.keep g1 (by simp only [ne_eq, Option.some.injEq]; omega)
  have hrl := k0.lt
  have G1 := grown_trans f0.wide g1
  have hz1 := g1.size
  clear cD hc k0
  obtain ⟨ge, ce, rfl, oe, oel⟩ := o1
  have hev := own_readsE oe (by omega)
  have cA := specAfter_own (some ⟨ge, 0, none⟩) es.length ce es u1 rfl hev
  have HF : Hid (Few (aftS es)) := aft_few es
  clear oe oel hev
  go_wp2_with fail
  refine cA.mono ?_
  rintro x u2 ⟨⟨sg, lo, ll, lc, co, cl, cc, no, nl, nc, oo, ol, oc⟩, B, rfl, S2, f2, B2, O2⟩
  have fA := Fr.alloc u2 (.cells #[.int .i64 sg, .slice lo ll lc, .slice co cl cc, .slice no nl nc, .slice oo ol oc] 29)
  have kr := k1.fr (f2.trans fA)
  have HS : Hid _ := S2.fr fA
  have HO : Hid _ := O2.fr fA
  have G2 := grown_trans G1 (f2.trans fA).wide
  have C2 := c1.fr (f2.trans fA)
  have hz2 := f2.size
  have hz3 := fA.size
  have HB : Hid (∀ b, B b → w.heap.size < b ∧ b < u2.heap.size) := fun b q => ⟨by have := (B2 b q).1; omega, (B2 b q).2⟩
  obtain ⟨j0, j1, j2, j3, j4⟩ := kr.at
  simp only at j0 j1 j2 j3 j4
  have jf := fun i => kr.free i
  clear cA S2 O2 f2 B2 k1 fA c1 G1 g1
  go_wp2_with fail
  have k5 := put5 (u2.alloc (.cells #[.int .i64 sg, .slice lo ll lc, .slice co cl cc, .slice no nl nc, .slice oo ol oc] 29)) w.heap.size (.int .i64 sg) (.slice lo ll lc) (.slice co cl cc) (.slice no nl nc) (.slice oo ol oc)
  have z5 := k5.size
  refine bodyPost_ret (v := .agg #[.int .i64 sg, .slice lo ll lc, .slice co cl cc, .slice no nl nc, .slice oo ol oc]) (by simp [results, Tryz.results142, go_sem, j0, j1, j2, j3, j4]) rfl ⟨⟨sg, lo, ll, lc, co, cl, cc, no, nl, nc, oo, ol, oc⟩, aftS es, B, rfl, ?_, ?_, HF.out, ?_, ?_, ?_⟩
  · exact HS.out.keep k5 (fun x hx => by cases hx; exact fun q => by have := (HB.out _ q).1; omega)
  · exact own_fin HS.out (fun q => by have := (HB.out _ q).1; omega) HO.out _ _ _ _ _
  · exact fun b q => ⟨Nat.le_of_lt (HB.out b q).1, by have := (HB.out b q).2; omega⟩
  · exact C2.other k5 (fun j hj => by simp only [Option.some.injEq] at hj; omega)
  · exact grown_then G2 k5 (fun j hj => by simp only [Option.some.injEq] at hj; omega)
end Go.Proofs.YtcofhmikdkkigaaGreatDoor
