/-
  The law FnExactSamplerOk answers true at every config and sampler (no condition), and leaves what it was given as it was.
-/
import Derived.Test.YtkfcchapfklpgaaRows
import Derived.Test.YtkfcchapfklpgaaArgCf
import Derived.Test.YtkfcchapfklpgaaArgSm
import Derived.Test.YtkfcchapfklpgaaSmOk
import Derived.Test.YtkfcchapfklpgaaSmSp
import Derived.Test.YtkfcchapfklpgaaOwsEq
import Derived.BigQuiet
import Derived.Deep.Cut
import Derived.WalkKit
import Derived.ProofKit
import Derived.OpenShut
import Derived.LaidMore
import Derived.Stop.Joined
import Derived.OpenVars
namespace Go.Proofs.Ytkfcchapfklpgaa.fnExactSamplerOk
open Go.ChangeShapes Go.WideShapes Go.ChangeAt Go.RowKit
set_option linter.unusedVariables false

theorem ownG_readsO {w : World} {base g cap : Nat} {xs : List Ow} (h : OwnG LO w base (.slice (some ⟨g, 0, none⟩) xs.length cap) xs) : ReadsG LO w (some ⟨g, 0, none⟩) xs := by
  obtain ⟨g', cap', e, ho, hl⟩ := h
  cases e
  exact own_readsG ho hl

set_option maxHeartbeats 4000000 in
set_option maxRecDepth 20000 in
theorem walk (c0 : Cf) (s1 : Sm) (w : World) (i0 : CfI c0) (i1 : InSm w s1)  :
    Calls Try.prog 3 #[.agg #[.int .i64 c0.r, .int .i64 c0.s, .int .i64 c0.b, .int .i64 c0.m, .int .i64 c0.q, .int .i64 c0.c, .int .i64 c0.w], .agg #[.slice s1.ao s1.n s1.c, .int .i64 s1.p, .int .i64 s1.u]] w fun e w' => e = .returned (.bool true) ∧ Below w.heap.size w w' := by
  obtain ⟨so, sn, sc, sp, su⟩ := s1
  have i1x := i1.mx
  have i1o := i1.os
  simp only at i1x i1o ⊢
  have ka := CfAt.new w c0 23
  have fA := Fr.alloc w (.cells #[.int .i64 c0.r, .int .i64 c0.s, .int .i64 c0.b, .int .i64 c0.m, .int .i64 c0.q, .int .i64 c0.c, .int .i64 c0.w] 23)
  have fB := Fr.alloc (w.alloc (.cells #[.int .i64 c0.r, .int .i64 c0.s, .int .i64 c0.b, .int .i64 c0.m, .int .i64 c0.q, .int .i64 c0.c, .int .i64 c0.w] 23)) (.cells #[.slice so sn sc, .int .i64 sp, .int .i64 su] 26)
  have kb : KyZ ((w.alloc (.cells #[.int .i64 c0.r, .int .i64 c0.s, .int .i64 c0.b, .int .i64 c0.m, .int .i64 c0.q, .int .i64 c0.c, .int .i64 c0.w] 23)).alloc (.cells #[.slice so sn sc, .int .i64 sp, .int .i64 su] 26)) (w.heap.size + 1) 26 #[.slice so sn sc, .int .i64 sp, .int .i64 su] := by
    have := heap_alloc_new (w.alloc (.cells #[.int .i64 c0.r, .int .i64 c0.s, .int .i64 c0.b, .int .i64 c0.m, .int .i64 c0.q, .int .i64 c0.c, .int .i64 c0.w] 23)) (.cells #[.slice so sn sc, .int .i64 sp, .int .i64 su] 26)
    have hs : (w.alloc (.cells #[.int .i64 c0.r, .int .i64 c0.s, .int .i64 c0.b, .int .i64 c0.m, .int .i64 c0.q, .int .i64 c0.c, .int .i64 c0.w] 23)).heap.size = w.heap.size + 1 := by simp
    rwa [hs] at this
  replace ka := ka.fr fB
  have F := fA.trans fB
  have i1o := fun h => (i1o h).imp fun os h => And.imp_right (And.imp_left (fun h => h.fr F)) h
  clear fA fB i1 i0
  have cT := fun u => toConfig_any c0 u
  have cS := fun os ao n cap u hn hR => smOk_spec c0 ao n cap os sp su u hn hR
  have cI := fun os ao n cap u hn hR => smOk_impl c0 ao n cap os sp su u hn hR
  have cz := fun w => szSm_any so sn sc sp su w i1x
  obtain ⟨UU, hUU⟩ : ∃ UU, UU = (w.alloc (.cells #[.int .i64 c0.r, .int .i64 c0.s, .int .i64 c0.b, .int .i64 c0.m, .int .i64 c0.q, .int .i64 c0.c, .int .i64 c0.w] 23)).alloc (.cells #[.slice so sn sc, .int .i64 sp, .int .i64 su] 26) := ⟨_, rfl⟩
  rw [← hUU] at ka kb F i1o
  obtain ⟨bf, hbf⟩ : ∃ bf : List Ow → Bool, bf = fun os => smB c0 ⟨os, sp, su⟩ := ⟨_, rfl⟩
  have hb' : ∀ os, smB c0 ⟨os, sp, su⟩ = bf os := fun os => by rw [hbf]
  simp only [hb'] at cS cI
  clear hb' hbf
  obtain ⟨r, s, b, m, q, c, k⟩ := c0
  simp only at cT cS cI ka hUU ⊢
  go_enter Try.func3, Try.ntmps3
  have ca : ∀ u, Fr UU u → CfAt u w.heap.size 0 ⟨r, s, b, m, q, c, k⟩ := fun u f => ka.fr f
  simp only [CfAt, Nat.zero_add] at ca
  have sa : ∀ u, Fr UU u → _ := fun u f => (kb.fr f).c3
  clear ka kb
  go_upto_region 1 with fail
  rw [← hUU]
  clear hUU
  obtain ⟨d0, d1, d2⟩ := sa UU (Fr.refl UU)
  by_cases hbig : sn ≤ 1048576
  case neg =>
    simp only [if_neg hbig] at cz
    go_wp2_with fail
    refine (cz _).mono ?_
    rintro e u1 ⟨rfl, f1⟩
    go_wp2_with fail
    go_ret
    exact ⟨rfl, (F.trans f1).below⟩
  simp only [if_pos hbig] at cz
  obtain ⟨os, hn, hR, -⟩ := i1o hbig
  subst hn
  clear i1o
  go_wp2_with fail
  refine (cz _).mono ?_
  rintro e u1 ⟨rfl, f1⟩
  clear cz d0 d1 d2
  have hnb : ¬ (1048576 - (os.length : Int) < 0) := by omega
  have cA := fun u (f : Fr UU u) => toSm_any so os.length sc os sp su u rfl (hR.fr f)
  replace cS := fun ao cap u hR => cS os ao os.length cap u rfl hR
  replace cI := fun ao cap u hR => cI os ao os.length cap u rfl hR
  obtain ⟨bb, hbb⟩ : ∃ bb, bb = bf os := ⟨_, rfl⟩
  simp only [← hbb] at cS cI
  clear hbb bf hR
  have cE := fun u ao bo c d h1 h2 => eqSm_same ao bo os.length c d sp su os u rfl h1 h2
  obtain ⟨dc0, dc1, dc2, dc3, dc4, dc5, dc6⟩ := ca u1 f1; obtain ⟨ds0, ds1, ds2⟩ := sa u1 f1
  go_upto_region 5 with fail
  go_region_held3 (fun u => u.cell? ⟨w.heap.size, 0, none⟩ = some (Value.int .i64 r) ∧ u.cell? ⟨w.heap.size, 1, none⟩ = some (Value.int .i64 s) ∧ u.cell? ⟨w.heap.size, 2, none⟩ = some (Value.int .i64 b) ∧ u.cell? ⟨w.heap.size, 3, none⟩ = some (Value.int .i64 m) ∧ u.cell? ⟨w.heap.size, 4, none⟩ = some (Value.int .i64 q) ∧ u.cell? ⟨w.heap.size, 5, none⟩ = some (Value.int .i64 c) ∧ u.cell? ⟨w.heap.size, 6, none⟩ = some (Value.int .i64 k) ∧ u.cell? ⟨w.heap.size + 1, 0, none⟩ = some (Value.slice so os.length sc) ∧ u.cell? ⟨w.heap.size + 1, 1, none⟩ = some (Value.int .i64 sp) ∧ u.cell? ⟨w.heap.size + 1, 2, none⟩ = some (Value.int .i64 su)) (go_keep)
    (first | (go_at_call 8; refine (cT _).mono ?_; rintro x u2 ⟨rfl, f2⟩; have g2 := f1.trans ((Fr.drew u1).trans f2); obtain ⟨ec0, ec1, ec2, ec3, ec4, ec5, ec6⟩ := ca u2 g2; obtain ⟨es0, es1, es2⟩ := sa u2 g2) | (go_at_call 9; refine (cA _ g2).mono ?_; rintro x u3 ⟨g, cc, rfl, O3, f3⟩; have g3 := g2.trans f3; obtain ⟨hc0, hc1, hc2, hc3, hc4, hc5, hc6⟩ := ca u3 g3; obtain ⟨hs0, hs1, hs2⟩ := sa u3 g3) | (go_at_call 7; refine (cS _ _ _ (ownG_readsO O3)).mono ?_; rintro x u4 ⟨rfl, f4⟩; have g4 := g3.trans f4; obtain ⟨ic0, ic1, ic2, ic3, ic4, ic5, ic6⟩ := ca u4 g4; obtain ⟨is0, is1, is2⟩ := sa u4 g4))
  clear O3 f2 g2 f3 g3 f4
  go_wp2_with fail
  refine (cA _ g4).mono ?_
  rintro e u5 ⟨g, cc, rfl, O5, f5⟩
  have g5 := g4.trans f5
  have kX : KyZ (u5.alloc (.cells #[.slice (some ⟨g, 0, none⟩) os.length cc, .int .i64 sp, .int .i64 su] 33)) u5.heap.size 33 #[.slice (some ⟨g, 0, none⟩) os.length cc, .int .i64 sp, .int .i64 su] := heap_alloc_new _ _
  have fX := Fr.alloc u5 (.cells #[.slice (some ⟨g, 0, none⟩) os.length cc, .int .i64 sp, .int .i64 su] 33)
  have hX5 := ownG_readsO (O5.fr fX)
  have g6 := g5.trans fX
  obtain ⟨A1, hA1⟩ : ∃ A1, A1 = u5.heap.size := ⟨_, rfl⟩
  obtain ⟨V, hV⟩ : ∃ V, V = u5.alloc (.cells #[.slice (some ⟨g, 0, none⟩) os.length cc, .int .i64 sp, .int .i64 su] 33) := ⟨_, rfl⟩
  rw [← hV, ← hA1] at kX
  rw [← hV] at g6 hX5
  have xa : ∀ u, Fr V u → _ := fun u f => (kX.fr f).c3
  clear kX fX O5 g5 f5 g4
  go_upto_region 7 with fail
  rw [← hV, ← hA1]
  clear hV hA1
  obtain ⟨jc0, jc1, jc2, jc3, jc4, jc5, jc6⟩ := ca V (g6); obtain ⟨jx0, jx1, jx2⟩ := xa V (Fr.refl V)
  go_region_held3 (fun u => u.cell? ⟨w.heap.size, 0, none⟩ = some (Value.int .i64 r) ∧ u.cell? ⟨w.heap.size, 1, none⟩ = some (Value.int .i64 s) ∧ u.cell? ⟨w.heap.size, 2, none⟩ = some (Value.int .i64 b) ∧ u.cell? ⟨w.heap.size, 3, none⟩ = some (Value.int .i64 m) ∧ u.cell? ⟨w.heap.size, 4, none⟩ = some (Value.int .i64 q) ∧ u.cell? ⟨w.heap.size, 5, none⟩ = some (Value.int .i64 c) ∧ u.cell? ⟨w.heap.size, 6, none⟩ = some (Value.int .i64 k) ∧ u.cell? ⟨A1, 0, none⟩ = some (Value.slice (some ⟨g, 0, none⟩) os.length cc) ∧ u.cell? ⟨A1, 1, none⟩ = some (Value.int .i64 sp) ∧ u.cell? ⟨A1, 2, none⟩ = some (Value.int .i64 su)) (go_keep)
    (first | (go_at_call 8; refine (cT _).mono ?_; rintro x u6 ⟨rfl, f6⟩; have k6 := (Fr.drew V).trans f6; obtain ⟨lc0, lc1, lc2, lc3, lc4, lc5, lc6⟩ := ca u6 (g6.trans k6); obtain ⟨lx0, lx1, lx2⟩ := xa u6 (k6)) | (go_at_call 10; refine (cI _ _ _ (hX5.fr k6)).mono ?_; rintro x u7 ⟨rfl, f7⟩; have k7 := k6.trans f7; obtain ⟨oc0, oc1, oc2, oc3, oc4, oc5, oc6⟩ := ca u7 (g6.trans k7); obtain ⟨ox0, ox1, ox2⟩ := xa u7 (k7)))
  clear f6 k6 f7
  have hbb : (bb != bb) = false := by simp
  obtain ⟨ps0, ps1, ps2⟩ := sa u7 (g6.trans k7); obtain ⟨px0, px1, px2⟩ := xa u7 (k7)
  go_upto_region 10 with fail
  go_region_held3 (fun u => u.cell? ⟨w.heap.size + 1, 0, none⟩ = some (Value.slice so os.length sc) ∧ u.cell? ⟨w.heap.size + 1, 1, none⟩ = some (Value.int .i64 sp) ∧ u.cell? ⟨w.heap.size + 1, 2, none⟩ = some (Value.int .i64 su) ∧ u.cell? ⟨A1, 0, none⟩ = some (Value.slice (some ⟨g, 0, none⟩) os.length cc) ∧ u.cell? ⟨A1, 1, none⟩ = some (Value.int .i64 sp) ∧ u.cell? ⟨A1, 2, none⟩ = some (Value.int .i64 su)) (go_keep)
    (first | (go_at_call 9; refine (cA _ (g6.trans (k7.trans (Fr.drew u7)))).mono ?_; rintro x u8 ⟨g', cc', rfl, O8, f8⟩; have k8 := k7.trans ((Fr.drew u7).trans f8); obtain ⟨ys0, ys1, ys2⟩ := sa u8 (g6.trans k8); obtain ⟨yx0, yx1, yx2⟩ := xa u8 (k8)) | (go_at_call 11; refine (cE _ _ _ _ _ (hX5.fr k8) (ownG_readsO O8)).mono ?_; rintro x u9 ⟨rfl, f9⟩; have k9 := k8.trans f9; obtain ⟨zs0, zs1, zs2⟩ := sa u9 (g6.trans k9); obtain ⟨zx0, zx1, zx2⟩ := xa u9 (k9)))
  go_wp2_with fail
  go_ret
  exact ⟨rfl, (F.trans (g6.trans k9)).below⟩

theorem own : ownKnob Try.prog.godebug = none := by kernel_rfl
theorem laidOut : laidOutB Try.prog = true := by kernel_rfl

set_option maxRecDepth 100000 in
theorem lifted (os : Os) (started : os.Started) (H : Type) (enc : TypeId × Value → H) :
    ReturnsInHanded {} Try.checked os 3 .any (Rows.fnExactSamplerOkSpec.pre6 enc Try.prog Try.f3 Rows.fnExactSamplerOkRow.domain false) (Rows.fnExactSamplerOkSpec.post enc Try.prog Try.f3 false true false false) := by
  refine returnsInHanded_of_change (C := Try.checked) own started (by kernel_rfl) Try.func3
    (ChangeSpec.witness6 (enc := enc) (C := Try.checked) false ⟨#[], #[.agg #[.int .i64 0, .int .i64 0, .int .i64 0, .int .i64 0, .int .i64 0, .int .i64 0, .int .i64 0], .agg #[.slice none 0 0, .int .i64 0, .int .i64 0]], []⟩ 8 (by kernel_rfl) (by kernel_rfl) (by kernel_rfl) (by kernel_rfl)) ?_
  intro W base args ds gs before hval0 hW hcnd _
  have hval : ∀ (j : Nat) t v, Try.f3.params[j]? = some t → args[j]? = some v → Value.okWide Try.prog W .any base t v := hval0
  have hW' := hW
  obtain ⟨p, q, hA0, hV, rfl, hfz, hnd⟩ := hW
  have hA : DataW.TrodAll enc Try.prog W 0 (fun _ => true) true Try.f3.params.toList args.toList ds p := hA0
  rw [Try.params3] at hA hval
  obtain ⟨v0, vs0, d0, ds0, p0, q0, hargs, rfl, rfl, h0, r0⟩ := trodAll_cons hA
  obtain ⟨v1, vs1, d1, ds1, p1, q1, rfl, rfl, rfl, h1, r1⟩ := trodAll_cons r0
  obtain ⟨rfl, rfl, rfl⟩ := trodAll_nil r1
  obtain rfl : args = #[v0, v1] := by cases args; simp_all
  have k0 := h0
  have lt0 : ∀ x ∈ p0, x.block < W.heap.size := by obtain ⟨m, hm⟩ := k0; exact DataW.trod_lt m _ _ _ hm
  have k1 := h1
  have lt1 : ∀ x ∈ p1, x.block < W.heap.size := by obtain ⟨m, hm⟩ := k1; exact DataW.trod_lt m _ _ _ hm
  obtain ⟨rfl, rfl⟩ := trodVars_none hV
  obtain ⟨c0, rfl, i0⟩ := cf_of_arg (hval 0 23 v0 rfl rfl) h0
  obtain ⟨s1, rfl, i1⟩ := sm_of_arg (hval 1 26 v1 rfl rfl) h1
  clear hA0 hval0
  refine (walk c0 s1 W i0 i1).mono fun e W' ⟨he, bel⟩ => ?_
  subst he
  exact ⟨_, rfl, _, _, _, [], _, [], hW', trodAll_mk1 (shut_bool Try.underlying4 _), (trodAll_cons_mk (Below.trod laidOut (by kernel_rfl) (of_decide_eq_true (by kernel_rfl)) k0 bel lt0) (trodAll_cons_mk (Below.trod laidOut (by kernel_rfl) (of_decide_eq_true (by kernel_rfl)) k1 bel lt1) trodAll_mk0)), rfl, bel.frame _, fun h => by cases h⟩

theorem over : Rows.fnExactSamplerOkRow.holds Try.pinned (OpenSpec.ofChange Rows.fnExactSamplerOkSpec) :=
  OpenClaim.holds_of_wide 3 Try.f3 rfl rfl rfl rfl rfl rfl rfl ⟨rfl, rfl, rfl, rfl, rfl⟩ rfl rfl rfl rfl rfl (by kernel_rfl) Try.func3 (by kernel_rfl)
    (of_decide_eq_true (by kernel_rfl)) (by unfold Func.isWrapper; first | (rw [if_pos (by decide +kernel)]; kernel_rfl) | (rw [if_neg (by decide +kernel)]; exact ⟨rfl, rfl⟩))
    (fun os started H enc _ => lifted os started H enc)
end Go.Proofs.Ytkfcchapfklpgaa.fnExactSamplerOk
namespace Go.Proofs.Ytkfcchapfklpgaa
theorem fnExactSamplerOk_holds : Rows.FnExactSamplerOkSaid := fnExactSamplerOk.over
end Go.Proofs.Ytkfcchapfklpgaa
