/-
  The program's SceneOk answers as the specification's.
-/
import Derived.Test.YtikjodbboljhjaaGreatDoorScImpl2
import Derived.Test.YtikjodbboljhjaaGreatDoorScK
namespace Go.Proofs.YtikjodbboljhjaaGreatDoor
open Go.RowKit

set_option maxHeartbeats 2000000 in
theorem implScene_any {B : Nat → Prop} (s : Sv) (m : Scn) (w : World) (h : ScR B w s m) :
    Calls Tryz.prog 15 #[.agg #[.int .i64 s.g, .slice s.lo s.ll s.lc, .slice s.co s.cl s.cc, .slice s.no s.nl s.nc, .slice s.oo s.ol s.oc]] w fun e w' => e = .returned (.bool (scB m)) ∧ Fr w w' := by
  rw [← scB_same m]
  unfold scB2
  have fW := Fr.alloc w (.cells #[.int .i64 s.g, .slice s.lo s.ll s.lc, .slice s.co s.cl s.cc, .slice s.no s.nl s.nc, .slice s.oo s.ol s.oc] 29)
  have k1 := ScK.new w s
  obtain ⟨lvs, r1, n1, L1⟩ := h.lks
  have HG : Hid (s.g = m.g) := h.g
  have hg := h.g
  have cL := fun u (f : Fr w u) (g0 : 1 ≤ m.g) (g1 : m.g ≤ 16) => locksOk_any s.lo s.ll s.lc m.g lvs m.ls u n1.symm (by rw [L1.len]; exact h.sl) g0 g1 (r1.fr f) (L1.fr f)
  have cC := fun u (f : Fr w u) => chansOk_any s.co s.cl s.cc m.cs u h.cl.symm h.sc (h.chs.fr f)
  have cN := fun u (f : Fr w u) => groupsOk_any s.no s.nl s.nc m.gs u h.nl.symm h.sn (h.cts.fr f)
  have cO := fun u (f : Fr w u) => risesI_any s.oo s.ol s.oc m.os 15 u h.ol.symm h.so (h.ons.fr f)
  rw [← hg]
  simp only [← hg] at cL
  clear h hg r1 n1 L1
  obtain ⟨XL, hXL⟩ : ∃ X, X = (m.ls.all (lk2 s.g) && upFrom 15 (-1) (m.ls.map Lk.o)) := ⟨_, rfl⟩
  obtain ⟨XC, hXC⟩ : ∃ X, X = (m.cs.all ch2 && upFrom 15 (-1) (m.cs.map Ch.o)) := ⟨_, rfl⟩
  obtain ⟨XN, hXN⟩ : ∃ X, X = (m.gs.all (fun c => inB 1 1000000 c.n) && upFrom 15 (-1) (m.gs.map Ct.o)) := ⟨_, rfl⟩
  obtain ⟨XO, hXO⟩ : ∃ X, X = upFrom 15 (-1) m.os := ⟨_, rfl⟩
  simp only [← hXL] at cL ⊢
  simp only [← hXC] at cC ⊢
  simp only [← hXN] at cN ⊢
  simp only [← hXO] at cO ⊢
  clear hXL hXC hXN hXO
  obtain ⟨sg, lo, ll, lc, co, cl, cc, no, nl, nc, oo, ol, oc⟩ := s
  simp only at fW k1 cL cC cN cO HG ⊢
  cases hin : inB 1 16 sg
  · go_enter Tryz.func15, Tryz.ntmps15
    go_wp2_with fail
    refine (within_any _ _ _ _).mono ?_
    rintro e y ⟨rfl, rfl⟩
    go_wp2_with fail
    go_ret
    exact ⟨rfl, fW⟩
  have hb := inB_true hin
  obtain ⟨W, hW⟩ : ∃ W, W = w.alloc (.cells #[.int .i64 sg, .slice lo ll lc, .slice co cl cc, .slice no nl nc, .slice oo ol oc] 29) := ⟨_, rfl⟩
  have HQ : Hid (∀ u, Fr W u → ScB u w.heap.size ⟨sg, lo, ll, lc, co, cl, cc, no, nl, nc, oo, ol, oc⟩) := fun u f => by rw [hW] at f; exact (k1.fr f).at
  clear k1
  go_enter Tryz.func15, Tryz.ntmps15
  go_wp2_with fail
  refine (within_any _ _ _ _).mono ?_
  rintro e y ⟨rfl, rfl⟩
  rw [← hW] at fW ⊢
  clear hW
  obtain ⟨s0, s1, s2, s3, s4⟩ := HQ.out _ (Fr.refl _)
  simp only at s0 s1 s2 s3 s4
  simp only [hin]
  go_wp2_with fail
  refine (cL _ fW hb.1 hb.2).mono ?_
  rintro e u1 ⟨rfl, f1⟩
  clear s0 s1 s2 s3 s4 cL
  obtain ⟨s0, s1, s2, s3, s4⟩ := HQ.out _ f1
  simp only at s0 s1 s2 s3 s4
  cases XL
  · go_wp2_with fail
    go_ret
    exact ⟨rfl, fW.trans f1⟩
  go_wp2_with fail
  refine (cC _ (fW.trans f1)).mono ?_
  rintro e u2 ⟨rfl, f2⟩
  have f2 := f1.trans f2
  clear s0 s1 s2 s3 s4 cC
  obtain ⟨s0, s1, s2, s3, s4⟩ := HQ.out _ f2
  simp only at s0 s1 s2 s3 s4
  cases XC
  · go_wp2_with fail
    go_ret
    exact ⟨rfl, fW.trans f2⟩
  go_wp2_with fail
  refine (cN _ (fW.trans f2)).mono ?_
  rintro e u3 ⟨rfl, f3⟩
  have f3 := f2.trans f3
  clear s0 s1 s2 s3 s4 cN
  obtain ⟨s0, s1, s2, s3, s4⟩ := HQ.out _ f3
  simp only at s0 s1 s2 s3 s4
  cases XN
  · go_wp2_with fail
    go_ret
    exact ⟨rfl, fW.trans f3⟩
  go_wp2_with fail
  refine (cO _ (fW.trans f3)).mono ?_
  rintro e u4 ⟨rfl, rfl⟩
  go_wp2_with fail
  go_ret
  exact ⟨by simp, fW.trans f3⟩
end Go.Proofs.YtikjodbboljhjaaGreatDoor
