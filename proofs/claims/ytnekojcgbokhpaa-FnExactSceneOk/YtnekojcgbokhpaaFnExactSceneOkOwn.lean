/-
  The law FnExactSceneOk answers true, whatever the scene that comes in (no condition).
-/
import Derived.Test.YtnekojcgbokhpaaRows
import Derived.Test.YtnekojcgbokhpaaArgSc
import Derived.Test.YtnekojcgbokhpaaScTo3
import Derived.Test.YtnekojcgbokhpaaScImpl3
import Derived.Test.YtnekojcgbokhpaaScIs
import Derived.Test.YtnekojcgbokhpaaScEq
import Derived.Test.YtnekojcgbokhpaaScSz
import Derived.WalkKit
import Derived.ProofKit
import Derived.OpenShut
import Derived.LaidMore
import Derived.Stop.Joined
import Derived.OpenVars
namespace Go.Proofs.Ytnekojcgbokhpaa.fnExactSceneOk
open Go.ChangeShapes Go.WideShapes Go.ChangeAt Go.RowKit
set_option linter.unusedVariables false

set_option maxHeartbeats 2000000 in
theorem walk (s0 : Sv) (w : World) (i0 : InSc w s0)  :
    Calls Try.prog 3 #[.agg #[.int .i64 s0.g, .slice s0.lo s0.ll s0.lc, .slice s0.co s0.cl s0.cc, .slice s0.no s0.nl s0.nc, .slice s0.oo s0.ol s0.oc]] w fun e w' => e = .returned (.bool true) ∧ Below w.heap.size w w' := by
  have fW := Fr.alloc w (.cells #[.int .i64 s0.g, .slice s0.lo s0.ll s0.lc, .slice s0.co s0.cl s0.cc, .slice s0.no s0.nl s0.nc, .slice s0.oo s0.ol s0.oc] 27)
  have ka := argB w s0
  have cz := szScene_any s0 _ (i0.fr fW)
  clear i0
  obtain ⟨sg, lo, ll, lc, co, cl, cc, no, nl, nc, oo, ol, oc⟩ := s0
  simp only at fW ka cz ⊢
  go_enter Try.func3, Try.ntmps3
  go_wp2_with fail
  obtain ⟨W, hW⟩ : ∃ W, W = w.alloc (.cells #[.int .i64 sg, .slice lo ll lc, .slice co cl cc, .slice no nl nc, .slice oo ol oc] 27) := ⟨_, rfl⟩
  rw [← hW] at fW ka cz ⊢
  clear hW
  refine cz.mono ?_
  rintro x u1 ⟨r, rfl, hr, f1⟩
  clear cz
  rcases hr with rfl | ⟨r0, m, R⟩
  · go_wp2_with fail
    go_ret
    exact ⟨rfl, (fW.trans f1).below⟩
  have cT := fun u (f : Fr W u) => toScene_any ⟨sg, lo, ll, lc, co, cl, cc, no, nl, nc, oo, ol, oc⟩ m u (R.fr f)
  simp only at cT
  clear R
  have ka := fun u (f : Fr W u) => ka.keep f (by simp)
  have F1 := f1
  obtain ⟨a0, a1, a2, a3, a4⟩ := ka u1 f1
  simp only at a0 a1 a2 a3 a4
  go_wp2_with fail
  refine (cT u1 f1).mono ?_
  rintro e u2 ⟨t1, rfl, T1, f2⟩
  clear a0 a1 a2 a3 a4
  go_wp2_with fail
  refine (sceneOk_any t1 m u2 T1).mono ?_
  rintro e u3 ⟨rfl, f3⟩
  have F3 := f1.trans (f2.trans f3)
  clear f1 f2 f3 T1 F1
  obtain ⟨a0, a1, a2, a3, a4⟩ := ka u3 F3
  simp only at a0 a1 a2 a3 a4
  go_wp2_with fail
  refine (cT u3 F3).mono ?_
  rintro e u4 ⟨t2, rfl, T2, f4⟩
  clear a0 a1 a2 a3 a4
  have f5 := Fr.alloc u4 (.cells #[.int .i64 t2.g, .slice t2.lo t2.ll t2.lc, .slice t2.co t2.cl t2.cc, .slice t2.no t2.nl t2.nc, .slice t2.oo t2.ol t2.oc] 34)
  have k2 := ScK.new u4 t2
  have cI := implScene_any t2 m _ (T2.fr f5)
  go_wp2_with fail
  refine cI.mono ?_
  rintro x u5 ⟨rfl, f6⟩
  clear cI
  have F5 := F3.trans (f4.trans (f5.trans f6))
  have k2 := k2.fr f6
  have T2 := T2.fr (f5.trans f6)
  obtain ⟨A2, hA⟩ : ∃ A2, A2 = u4.heap.size := ⟨_, rfl⟩
  rw [← hA] at k2 ⊢
  obtain ⟨bb, hbb⟩ : ∃ bb, bb = scB m := ⟨_, rfl⟩
  rw [← hbb]
  clear hbb hA f4 f5 f6 F3
  have hne : (bb != bb) = false := by simp
  obtain ⟨g2, lo2, ll2, lc2, co2, cl2, cc2, no2, nl2, nc2, oo2, ol2, oc2⟩ := t2
  have k2 := fun u (f : Fr u5 u) => (k2.fr f).at
  have cE := fun u (f : Fr u5 u) t (h : ScR _ u t m) => eqScene_same (B' := fun b => u5.drew.heap.size ≤ b ∧ b < u.heap.size) ⟨g2, lo2, ll2, lc2, co2, cl2, cc2, no2, nl2, nc2, oo2, ol2, oc2⟩ t m u (T2.fr f) h
  simp only at k2 cE ⊢
  obtain ⟨a0, a1, a2, a3, a4⟩ := ka u5 F5
  simp only at a0 a1 a2 a3 a4
  obtain ⟨x0, x1, x2, x3, x4⟩ := k2 u5 (Fr.refl u5)
  simp only at x0 x1 x2 x3 x4
  clear T2
  go_wp2_with fail
  go_region_held3 (fun u => u.cell? ⟨w.heap.size, 0, none⟩ = some (.int .i64 sg) ∧ u.cell? ⟨w.heap.size, 1, none⟩ = some (.slice lo ll lc) ∧ u.cell? ⟨w.heap.size, 2, none⟩ = some (.slice co cl cc) ∧ u.cell? ⟨w.heap.size, 3, none⟩ = some (.slice no nl nc) ∧ u.cell? ⟨w.heap.size, 4, none⟩ = some (.slice oo ol oc) ∧ u.cell? ⟨A2, 0, none⟩ = some (.int .i64 g2) ∧ u.cell? ⟨A2, 1, none⟩ = some (.slice lo2 ll2 lc2) ∧ u.cell? ⟨A2, 2, none⟩ = some (.slice co2 cl2 cc2) ∧ u.cell? ⟨A2, 3, none⟩ = some (.slice no2 nl2 nc2) ∧ u.cell? ⟨A2, 4, none⟩ = some (.slice oo2 ol2 oc2)) (go_keep)
    (first | (go_at_call 7; refine (cT _ (F5.trans (Fr.drew u5))).mono ?_; rintro x u6 ⟨t3, rfl, T3, f7⟩; have g7 := (Fr.drew u5).trans f7; obtain ⟨b0, b1, b2, b3, b4⟩ := ka u6 (F5.trans g7); obtain ⟨y0, y1, y2, y3, y4⟩ := k2 u6 g7; simp only at b0 b1 b2 b3 b4 y0 y1 y2 y3 y4) | (go_at_call 9; refine (cE _ g7 t3 T3).mono ?_; rintro x u7 ⟨rfl, f8⟩; have g8 := g7.trans f8; obtain ⟨d0, d1, d2, d3, d4⟩ := ka u7 (F5.trans g8); obtain ⟨z0, z1, z2, z3, z4⟩ := k2 u7 g8; simp only at d0 d1 d2 d3 d4 z0 z1 z2 z3 z4))
  go_wp2_with fail
  go_ret
  exact ⟨rfl, (fW.trans (F5.trans g8)).below⟩

theorem own : ownKnob Try.prog.godebug = none := by kernel_rfl
theorem laidOut : laidOutB Try.prog = true := by kernel_rfl

set_option maxRecDepth 100000 in
theorem lifted (os : Os) (started : os.Started) (H : Type) (enc : TypeId × Value → H) :
    ReturnsInHanded {} Try.checked os 3 .any (Rows.fnExactSceneOkSpec.pre6 enc Try.prog Try.f3 Rows.fnExactSceneOkRow.domain false) (Rows.fnExactSceneOkSpec.post enc Try.prog Try.f3 false true false false) := by
  refine returnsInHanded_of_change (C := Try.checked) own started (by kernel_rfl) Try.func3
    (ChangeSpec.witness6 (enc := enc) (C := Try.checked) false ⟨#[], #[.agg #[.int .i64 0, .slice none 0 0, .slice none 0 0, .slice none 0 0, .slice none 0 0]], []⟩ 8 (by kernel_rfl) (by kernel_rfl) (by kernel_rfl) (by kernel_rfl)) ?_
  intro W base args ds gs before hval0 hW hcnd _
  have hval : ∀ (j : Nat) t v, Try.f3.params[j]? = some t → args[j]? = some v → Value.okWide Try.prog W .any base t v := hval0
  have hW' := hW
  obtain ⟨p, q, hA0, hV, rfl, hfz, hnd⟩ := hW
  have hA : DataW.TrodAll enc Try.prog W 0 (fun _ => true) true Try.f3.params.toList args.toList ds p := hA0
  rw [Try.params3] at hA hval
  obtain ⟨v0, vs0, d0, ds0, p0, q0, hargs, rfl, rfl, h0, r0⟩ := trodAll_cons hA
  obtain ⟨rfl, rfl, rfl⟩ := trodAll_nil r0
  obtain rfl : args = #[v0] := by cases args; simp_all
  have k0 := h0
  have lt0 : ∀ x ∈ p0, x.block < W.heap.size := by obtain ⟨m, hm⟩ := k0; exact DataW.trod_lt m _ _ _ hm
  obtain ⟨rfl, rfl⟩ := trodVars_none hV
  obtain ⟨s0, rfl, i0⟩ := sc_of_arg (hval 0 27 v0 rfl rfl) h0
  clear hA0 hval0
  refine (walk s0 W i0).mono fun e W' ⟨he, bel⟩ => ?_
  subst he
  exact ⟨_, rfl, _, _, _, [], _, [], hW', trodAll_mk1 (shut_bool Try.underlying4 _), (trodAll_cons_mk (Below.trod laidOut (by kernel_rfl) (of_decide_eq_true (by kernel_rfl)) k0 bel lt0) trodAll_mk0), rfl, bel.frame _, fun h => by cases h⟩

theorem over : Rows.fnExactSceneOkRow.holds Try.pinned (OpenSpec.ofChange Rows.fnExactSceneOkSpec) :=
  OpenClaim.holds_of_wide 3 Try.f3 rfl rfl rfl rfl rfl rfl rfl ⟨rfl, rfl, rfl, rfl, rfl⟩ rfl rfl rfl rfl rfl (by kernel_rfl) Try.func3 (by kernel_rfl)
    (of_decide_eq_true (by kernel_rfl)) (by unfold Func.isWrapper; first | (rw [if_pos (by decide +kernel)]; kernel_rfl) | (rw [if_neg (by decide +kernel)]; exact ⟨rfl, rfl⟩))
    (fun os started H enc _ => lifted os started H enc)
end Go.Proofs.Ytnekojcgbokhpaa.fnExactSceneOk
namespace Go.Proofs.Ytnekojcgbokhpaa
theorem fnExactSceneOk_holds : Rows.FnExactSceneOkSaid := fnExactSceneOk.over
end Go.Proofs.Ytnekojcgbokhpaa
