/-
  The law FnExactNewBurst answers true at every config (no condition), and leaves what it was given as it was.
-/
import Derived.Test.YtcdjblgjcdkdnaaRows
import Derived.Test.YtcdjblgjcdkdnaaArgCf
import Derived.Test.YtcdjblgjcdkdnaaBrs2
import Derived.Test.YtcdjblgjcdkdnaaArgBu
import Derived.Deep.Cut
import Derived.WalkKit
import Derived.ProofKit
import Derived.OpenShut
import Derived.LaidMore
import Derived.Stop.Joined
import Derived.OpenVars
namespace Go.Proofs.Ytcdjblgjcdkdnaa.fnExactNewBurst
open Go.ChangeShapes Go.WideShapes Go.ChangeAt Go.RowKit
set_option linter.unusedVariables false

set_option maxHeartbeats 4000000 in
set_option maxRecDepth 20000 in
theorem walk (c0 : Cf) (w : World) (i0 : CfI c0)  :
    Calls Try.prog 5 #[.agg #[.int .i64 c0.r, .int .i64 c0.s, .int .i64 c0.b, .int .i64 c0.m, .int .i64 c0.q, .int .i64 c0.c, .int .i64 c0.w]] w fun e w' => e = .returned (.bool true) ∧ Below w.heap.size w w' := by
  have ka := CfAt.new w c0 38
  have fW := Fr.alloc w (.cells #[.int .i64 c0.r, .int .i64 c0.s, .int .i64 c0.b, .int .i64 c0.m, .int .i64 c0.q, .int .i64 c0.c, .int .i64 c0.w] 38)
  have cT := fun u => toConfig_any c0 u
  have cS := fun u => nwB_spec c0 u
  have cI := fun u => nwB_impl c0 u
  generalize nwB c0 = B at cS cI
  obtain ⟨r, s, b, m, q, c, k⟩ := c0
  obtain ⟨yl, ys, yg⟩ := B
  have cE := fun u => eqBurst_same ⟨yl, ys, yg⟩ u
  simp only at cT cS cI cE ka fW ⊢
  have HQ : Hid (∀ u, Fr (w.alloc (.cells #[.int .i64 r, .int .i64 s, .int .i64 b, .int .i64 m, .int .i64 q, .int .i64 c, .int .i64 k] 38)) u → CfAt u w.heap.size 0 ⟨r, s, b, m, q, c, k⟩) := fun u f => ka.fr f
  clear ka
  go_enter Try.func5, Try.ntmps5
  go_wp2_with fail
  refine (cT _).mono ?_
  rintro e u1 ⟨rfl, f1⟩
  go_wp2_with fail
  refine (cS _).mono ?_
  rintro e u2 ⟨rfl, f2⟩
  have F2 := f1.trans f2
  go_upto_region 2 with fail
  have kS : BuZ (u2.alloc (.cells #[.int .i64 yl, .int .i64 ys, .int .i64 yg] 33)) u2.heap.size #[.int .i64 yl, .int .i64 ys, .int .i64 yg] := heap_alloc_new u2 _
  have fS := Fr.alloc u2 (.cells #[.int .i64 yl, .int .i64 ys, .int .i64 yg] 33)
  obtain ⟨U, hU⟩ : ∃ U, U = u2.alloc (.cells #[.int .i64 yl, .int .i64 ys, .int .i64 yg] 33) := ⟨_, rfl⟩
  rw [← hU] at kS fS ⊢
  clear hU
  obtain ⟨A, hA⟩ : ∃ A, A = u2.heap.size := ⟨_, rfl⟩
  rw [← hA] at kS ⊢
  clear hA
  obtain ⟨k0, k1, k2, k3, k4, k5, k6⟩ := HQ.out _ (F2.trans fS)
  simp only [Nat.zero_add] at k0 k1 k2 k3 k4 k5 k6
  go_wp2_with fail
  clear k0 k1 k2 k3 k4 k5 k6
  refine (cT _).mono ?_
  rintro e u3 ⟨rfl, f3⟩
  go_wp2_with fail
  refine (cI _).mono ?_
  rintro e u4 ⟨rfl, f4⟩
  have F4 := f3.trans f4
  go_upto_region 3 with fail
  have kI : BuZ (u4.alloc (.cells #[.int .i64 yl, .int .i64 ys, .int .i64 yg] 33)) u4.heap.size #[.int .i64 yl, .int .i64 ys, .int .i64 yg] := heap_alloc_new u4 _
  have fI := Fr.alloc u4 (.cells #[.int .i64 yl, .int .i64 ys, .int .i64 yg] 33)
  obtain ⟨V, hV⟩ : ∃ V, V = u4.alloc (.cells #[.int .i64 yl, .int .i64 ys, .int .i64 yg] 33) := ⟨_, rfl⟩
  rw [← hV] at kI fI ⊢
  clear hV
  obtain ⟨A2, hA2⟩ : ∃ A, A = u4.heap.size := ⟨_, rfl⟩
  rw [← hA2] at kI ⊢
  clear hA2
  have z := kS.fr (F4.trans fI)
  have z0 := z.c0
  have z1 := z.c1
  have z2 := z.c2
  have y0 := kI.c0
  have y1 := kI.c1
  have y2 := kI.c2
  go_wp2_with fail
  refine (cE _).mono ?_
  rintro e u5 ⟨rfl, f5⟩
  go_wp2_with fail
  go_ret
  exact ⟨rfl, ((fW.trans (F2.trans (fS.trans (F4.trans fI)))).trans f5).below⟩

theorem own : ownKnob Try.prog.godebug = none := by kernel_rfl
theorem laidOut : laidOutB Try.prog = true := by kernel_rfl

set_option maxRecDepth 100000 in
theorem lifted (os : Os) (started : os.Started) (H : Type) (enc : TypeId × Value → H) :
    ReturnsInHanded {} Try.checked os 5 .any (Rows.fnExactNewBurstSpec.pre6 enc Try.prog Try.f5 Rows.fnExactNewBurstRow.domain false) (Rows.fnExactNewBurstSpec.post enc Try.prog Try.f5 false true false false) := by
  refine returnsInHanded_of_change (C := Try.checked) own started (by kernel_rfl) Try.func5
    (ChangeSpec.witness6 (enc := enc) (C := Try.checked) false ⟨#[], #[.agg #[.int .i64 0, .int .i64 0, .int .i64 0, .int .i64 0, .int .i64 0, .int .i64 0, .int .i64 0]], []⟩ 8 (by kernel_rfl) (by kernel_rfl) (by kernel_rfl) (by kernel_rfl)) ?_
  intro W base args ds gs before hval0 hW hcnd _
  have hval : ∀ (j : Nat) t v, Try.f5.params[j]? = some t → args[j]? = some v → Value.okWide Try.prog W .any base t v := hval0
  have hW' := hW
  obtain ⟨p, q, hA0, hV, rfl, hfz, hnd⟩ := hW
  have hA : DataW.TrodAll enc Try.prog W 0 (fun _ => true) true Try.f5.params.toList args.toList ds p := hA0
  rw [Try.params5] at hA hval
  obtain ⟨v0, vs0, d0, ds0, p0, q0, hargs, rfl, rfl, h0, r0⟩ := trodAll_cons hA
  obtain ⟨rfl, rfl, rfl⟩ := trodAll_nil r0
  obtain rfl : args = #[v0] := by cases args; simp_all
  have k0 := h0
  have lt0 : ∀ x ∈ p0, x.block < W.heap.size := by obtain ⟨m, hm⟩ := k0; exact DataW.trod_lt m _ _ _ hm
  obtain ⟨rfl, rfl⟩ := trodVars_none hV
  obtain ⟨c0, rfl, i0⟩ := cf_of_arg (hval 0 38 v0 rfl rfl) h0
  clear hA0 hval0
  refine (walk c0 W i0).mono fun e W' ⟨he, bel⟩ => ?_
  subst he
  exact ⟨_, rfl, _, _, _, [], _, [], hW', trodAll_mk1 (shut_bool Try.underlying4 _), (trodAll_cons_mk (Below.trod laidOut (by kernel_rfl) (of_decide_eq_true (by kernel_rfl)) k0 bel lt0) trodAll_mk0), rfl, bel.frame _, fun h => by cases h⟩

theorem over : Rows.fnExactNewBurstRow.holds Try.pinned (OpenSpec.ofChange Rows.fnExactNewBurstSpec) :=
  OpenClaim.holds_of_wide 5 Try.f5 rfl rfl rfl rfl rfl rfl rfl ⟨rfl, rfl, rfl, rfl, rfl⟩ rfl rfl rfl rfl rfl (by kernel_rfl) Try.func5 (by kernel_rfl)
    (of_decide_eq_true (by kernel_rfl)) (by unfold Func.isWrapper; first | (rw [if_pos (by decide +kernel)]; kernel_rfl) | (rw [if_neg (by decide +kernel)]; exact ⟨rfl, rfl⟩))
    (fun os started H enc _ => lifted os started H enc)
end Go.Proofs.Ytcdjblgjcdkdnaa.fnExactNewBurst
namespace Go.Proofs.Ytcdjblgjcdkdnaa
theorem fnExactNewBurst_holds : Rows.FnExactNewBurstSaid := fnExactNewBurst.over
end Go.Proofs.Ytcdjblgjcdkdnaa
