/-
  The law FnExactPutNumber answers true at every number (no condition).
-/
import Derived.Test.YtlpmcfooaakdgaaRows
import Derived.Test.YtlpmcfooaakdgaaPut
import Derived.Test.YtlpmcfooaakdgaaBytesEq
import Derived.Test.YtlpmcfooaakdgaaBytesMark
import Derived.WalkKit
import Derived.ProofKit
import Derived.OpenShut
import Derived.ShutString
namespace Go.Proofs.Ytlpmcfooaakdgaa.fnExactPutNumber
open Go.ChangeShapes Go.WideShapes Go.ChangeAt Go.RowKit
open Go.ChangeMaps (open_string shut_string)
set_option linter.unusedVariables false

theorem own : ownKnob Try.prog.godebug = none := by kernel_rfl

set_option maxHeartbeats 1000000 in
theorem walk (a0 : Int) (w0 : (Lit.int .i64 a0).wf = true) (w : World) :
    Calls Try.prog 3 #[.int .i64 a0] w fun e w' => e = .returned (.bool true) ∧ Below w.heap.size w w' := by
  obtain ⟨J, B, HS, HI⟩ := put_both a0
  go_enter Try.func3, Try.ntmps3
  go_wp2_with fail
  refine (HS _).mono ?_
  rintro e u1 ⟨vw, rfl, ow, f1⟩
  obtain ⟨gw, cw, rfl, ow⟩ := ow
  go_wp2_with fail
  refine (HI _).mono ?_
  rintro e u2 ⟨vg, rfl, og, f2⟩
  obtain ⟨gg, cg, rfl, og⟩ := og
  have t0 := ownB_lt ow
  have t1 := ownB_lt og
  have ow := ow.fr f2
  have f3 := f1.trans f2
  have s1 := f1.size
  have s2 := f2.size
  go_wp2_with fail
  refine (eqB_any _ _ _ _ _ _ J J _ rfl rfl og.reads ow.reads).mono ?_
  rintro e u7 ⟨rfl, n7, rfl⟩
  have f37 := f3.trans (Fr.drewN _ n7)
  have og := og.fr (Fr.drewN _ n7)
  have ow := ow.fr (Fr.drewN _ n7)
  have hjl := og.2.1
  go_wp2_with fail
  refine (markB_any _ _ _ _ 1 J _ rfl (by omega) (by omega) og).mono ?_
  rintro e u15 ⟨rfl, o15, h15⟩
  have f15 := f37.then h15 (one_blkB (by omega))
  have ow := ow.keep h15 (own_neB (by omega))
  go_wp2_with fail
  refine (heldB_any _ _ _ 1 _ (by omega) (by omega) o15.reads).mono ?_
  rintro e u16 ⟨rfl, rfl⟩
  clear h15 og f37 f3
  go_wp2_with fail
  refine (HI _).mono ?_
  rintro e u19 ⟨vh, rfl, oh, f19⟩
  have f319 := f15.trans f19
  obtain ⟨gh, ch, rfl, oh⟩ := oh
  go_wp2_with fail
  refine (eqB_any _ _ _ _ _ _ J J _ rfl rfl oh.reads (ow.fr f19).reads).mono ?_
  rintro e u20 ⟨rfl, n20, rfl⟩
  have f320 := f319.trans (Fr.drewN _ n20)
  go_wp2_with fail
  refine (heldB_any _ _ _ 1 _ (by omega) (by omega) (o15.fr (f19.trans (Fr.drewN _ n20))).reads).mono ?_
  rintro e u21 ⟨rfl, rfl⟩
  go_wp2_with fail
  go_ret
  exact ⟨rfl, f320.below⟩





set_option maxRecDepth 100000 in
theorem lifted (os : Os) (started : os.Started) (H : Type) (enc : TypeId × Value → H) :
    ReturnsInHanded {} Try.checked os 3 .any (Rows.fnExactPutNumberSpec.pre6 enc Try.prog Try.f3 Rows.fnExactPutNumberRow.domain false) (Rows.fnExactPutNumberSpec.post enc Try.prog Try.f3 false true false false) := by
  refine returnsInHanded_of_change (C := Try.checked) own started (by kernel_rfl) Try.func3
    (ChangeSpec.witness6 (enc := enc) (C := Try.checked) false ⟨#[], #[.int .i64 0], []⟩ 8 (by kernel_rfl) (by kernel_rfl) (by kernel_rfl) (by kernel_rfl)) ?_
  intro W base args ds gs before hval0 hW hcnd _
  have hval : ∀ (j : Nat) t v, Try.f3.params[j]? = some t → args[j]? = some v → Value.okWide Try.prog W .any base t v := hval0
  have hW' := hW
  obtain ⟨p, q, hA0, hV, rfl, hfz, hnd⟩ := hW
  have hA : DataW.TrodAll enc Try.prog W 0 (fun _ => true) true Try.f3.params.toList args.toList ds p := hA0
  rw [Try.params3] at hA hval
  obtain ⟨v0, vs0, d0, ds0, p0, q0, hargs, rfl, rfl, h0, r0⟩ := trodAll_cons hA
  obtain ⟨rfl, rfl, rfl⟩ := trodAll_nil r0
  obtain rfl : args = #[v0] := by cases args; simp_all
  obtain ⟨rfl, rfl⟩ := trodVars_none hV
  obtain ⟨a0, rfl, rfl, rfl, w0⟩ := open_int Try.underlying2 (hval 0 2 v0 rfl rfl) h0
  clear hA0 hval0
  refine (walk a0 w0 W).mono fun e W' ⟨he, bel⟩ => ?_
  subst he
  exact ⟨_, rfl, _, _, _, [], _, [], hW', trodAll_mk1 (shut_bool Try.underlying4 _), (trodAll_cons_mk (shut_int Try.underlying2 w0) trodAll_mk0), rfl, bel.frame _, fun h => by cases h⟩

theorem over : Rows.fnExactPutNumberRow.holds Try.pinned (OpenSpec.ofChange Rows.fnExactPutNumberSpec) :=
  OpenClaim.holds_of_wide 3 Try.f3 rfl rfl rfl rfl rfl rfl rfl ⟨rfl, rfl, rfl, rfl, rfl⟩ rfl rfl rfl rfl rfl (by kernel_rfl) Try.func3 (by kernel_rfl)
    (of_decide_eq_true (by kernel_rfl)) (by unfold Func.isWrapper; first | (rw [if_pos (by decide +kernel)]; kernel_rfl) | (rw [if_neg (by decide +kernel)]; exact ⟨rfl, rfl⟩))
    (fun os started H enc _ => lifted os started H enc)

end Go.Proofs.Ytlpmcfooaakdgaa.fnExactPutNumber
namespace Go.Proofs.Ytlpmcfooaakdgaa
theorem fnExactPutNumber_holds : Rows.FnExactPutNumberSaid := fnExactPutNumber.over
end Go.Proofs.Ytlpmcfooaakdgaa
