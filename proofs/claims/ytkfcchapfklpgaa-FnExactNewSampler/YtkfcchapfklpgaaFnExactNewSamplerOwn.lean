/-
  The law FnExactNewSampler answers true (it has no argument; no condition).
-/
import Derived.Test.YtkfcchapfklpgaaRows
import Derived.Test.YtkfcchapfklpgaaOwsEq
import Derived.WalkKit
import Derived.ProofKit
import Derived.OpenShut
import Derived.ShutString
namespace Go.Proofs.Ytkfcchapfklpgaa.fnExactNewSampler
open Go.ChangeShapes Go.WideShapes Go.ChangeAt Go.RowKit
open Go.ChangeMaps (open_string shut_string)
set_option linter.unusedVariables false

theorem own : ownKnob Try.prog.godebug = none := by kernel_rfl

set_option maxHeartbeats 1000000 in
theorem walk  (w : World) :
    Calls Try.prog 4 #[] w fun e w' => e = .returned (.bool true) ∧ Below w.heap.size w w' := by
  have cS : ∀ w, Calls Try.prog 12 #[] w fun e w' => e = .returned (.agg #[.slice none 0 0, .int .i64 (-1), .int .i64 0]) ∧ Fr w w' := by
    intro w
    go_enter Try.func12, Try.ntmps12
    go_wp2_with fail
    refine bodyPost_ret (v := .agg #[.slice none 0 0, .int .i64 (-1), .int .i64 0]) (by simp [results, Try.results12, go_sem]) rfl ⟨rfl, ?_⟩
    first | exact Fr.refl _ | exact Fr.alloc _ _ | exact (Fr.alloc _ _).trans (Fr.alloc _ _)
  have cI : ∀ w, Calls Try.prog 13 #[] w fun e w' => e = .returned (.agg #[.slice none 0 0, .int .i64 (-1), .int .i64 0]) ∧ Fr w w' := by
    intro w
    go_enter Try.func13, Try.ntmps13
    go_wp2_with fail
    refine bodyPost_ret (v := .agg #[.slice none 0 0, .int .i64 (-1), .int .i64 0]) (by simp [results, Try.results13, go_sem]) rfl ⟨rfl, ?_⟩
    first | exact Fr.refl _ | exact Fr.alloc _ _ | exact (Fr.alloc _ _).trans (Fr.alloc _ _)
  have cE := fun w => eqSm_same none none 0 0 0 (-1) 0 [] w rfl (ReadsG.nil _ _ _) (ReadsG.nil _ _ _)
  have cM := fun w => markSm_nil 1 (-1) 0 w
  have cH := fun w => heldSm_nil 1 (-1) 0 w (by omega)
  have kn : ∀ w : World, KyZ (w.alloc (.cells #[.slice none 0 0, .int .i64 (-1), .int .i64 0] 33)) w.heap.size 33 #[.slice none 0 0, .int .i64 (-1), .int .i64 0] := fun w => heap_alloc_new w _
  go_enter Try.func4, Try.ntmps4
  go_wp2_with fail
  refine (cS _).mono ?_
  rintro e u1 ⟨rfl, f1⟩
  go_wp2_with fail
  refine (cI _).mono ?_
  rintro e u2 ⟨rfl, f2⟩
  have c1 := (kn u1).fr f2
  have F2 : Fr w u2 := (f1.trans (Fr.alloc _ _)).trans f2
  obtain ⟨A0, hA⟩ : ∃ A0, A0 = u1.heap.size := ⟨_, rfl⟩
  simp only [← hA] at c1 ⊢
  clear hA f1 f2
  have c1 := c1.fr (Fr.alloc u2 (.cells #[.slice none 0 0, .int .i64 (-1), .int .i64 0] 33))
  obtain ⟨x0, x1, x2⟩ := c1.c3
  go_wp2_with fail
  refine (cE _).mono ?_
  rintro e u3 ⟨rfl, f3⟩
  have c1 := c1.fr f3
  have c2 := (kn u2).fr f3
  have F3 := (F2.trans (Fr.alloc u2 (.cells #[.slice none 0 0, .int .i64 (-1), .int .i64 0] 33))).trans f3
  obtain ⟨B0, hB⟩ : ∃ B0, B0 = u2.heap.size := ⟨_, rfl⟩
  simp only [← hB] at c2 ⊢
  clear hB f3 F2 x0 x1 x2
  obtain ⟨y0, y1, y2⟩ := c2.c3
  go_wp2_with fail
  refine (cM _).mono ?_
  rintro e u4 ⟨rfl, f4⟩
  have c1 := c1.fr f4
  have c2 := c2.fr f4
  have F4 := F3.trans f4
  clear y0 y1 y2 f4 F3
  obtain ⟨y0, y1, y2⟩ := c2.c3
  go_wp2_with fail
  refine (cH _).mono ?_
  rintro e u5 ⟨rfl, f5⟩
  have c1 := c1.fr f5
  have c2 := c2.fr f5
  have F5 := F4.trans f5
  clear y0 y1 y2 f5 F4
  go_wp2_with fail
  refine (cI _).mono ?_
  rintro e u6 ⟨rfl, f6⟩
  have c1 := (c1.fr f6).fr (Fr.alloc u6 (.cells #[.slice none 0 0, .int .i64 (-1), .int .i64 0] 33))
  have c2 := (c2.fr f6).fr (Fr.alloc u6 (.cells #[.slice none 0 0, .int .i64 (-1), .int .i64 0] 33))
  have F6 := (F5.trans f6).trans (Fr.alloc u6 (.cells #[.slice none 0 0, .int .i64 (-1), .int .i64 0] 33))
  clear f6 F5
  obtain ⟨x0, x1, x2⟩ := c1.c3
  go_wp2_with fail
  refine (cE _).mono ?_
  rintro e u7 ⟨rfl, f7⟩
  have c2 := c2.fr f7
  have F7 := F6.trans f7
  clear x0 x1 x2 f7 F6 c1
  obtain ⟨y0, y1, y2⟩ := c2.c3
  go_wp2_with fail
  refine (cH _).mono ?_
  rintro e u8 ⟨rfl, f8⟩
  go_wp2_with fail
  go_ret
  exact ⟨rfl, (F7.trans f8).below⟩





set_option maxRecDepth 100000 in
theorem lifted (os : Os) (started : os.Started) (H : Type) (enc : TypeId × Value → H) :
    ReturnsInHanded {} Try.checked os 4 .any (Rows.fnExactNewSamplerSpec.pre6 enc Try.prog Try.f4 Rows.fnExactNewSamplerRow.domain false) (Rows.fnExactNewSamplerSpec.post enc Try.prog Try.f4 false true false false) := by
  refine returnsInHanded_of_change (C := Try.checked) own started (by kernel_rfl) Try.func4
    (ChangeSpec.witness6 (enc := enc) (C := Try.checked) false ⟨#[], #[], []⟩ 8 (by kernel_rfl) (by kernel_rfl) (by kernel_rfl) (by kernel_rfl)) ?_
  intro W base args ds gs before hval0 hW hcnd _
  have hval : ∀ (j : Nat) t v, Try.f4.params[j]? = some t → args[j]? = some v → Value.okWide Try.prog W .any base t v := hval0
  have hW' := hW
  obtain ⟨p, q, hA0, hV, rfl, hfz, hnd⟩ := hW
  have hA : DataW.TrodAll enc Try.prog W 0 (fun _ => true) true Try.f4.params.toList args.toList ds p := hA0
  rw [Try.params4] at hA hval
  obtain ⟨rfl, rfl, rfl⟩ := trodAll_none hA
  obtain ⟨rfl, rfl⟩ := trodVars_none hV
  clear hA0 hval0
  refine (walk  W).mono fun e W' ⟨he, bel⟩ => ?_
  subst he
  exact ⟨_, rfl, _, _, _, [], _, [], hW', trodAll_mk1 (shut_bool Try.underlying4 _), rfl, rfl, bel.frame _, fun h => by cases h⟩

theorem over : Rows.fnExactNewSamplerRow.holds Try.pinned (OpenSpec.ofChange Rows.fnExactNewSamplerSpec) :=
  OpenClaim.holds_of_wide 4 Try.f4 rfl rfl rfl rfl rfl rfl rfl ⟨rfl, rfl, rfl, rfl, rfl⟩ rfl rfl rfl rfl rfl (by kernel_rfl) Try.func4 (by kernel_rfl)
    (of_decide_eq_true (by kernel_rfl)) (by unfold Func.isWrapper; first | (rw [if_pos (by decide +kernel)]; kernel_rfl) | (rw [if_neg (by decide +kernel)]; exact ⟨rfl, rfl⟩))
    (fun os started H enc _ => lifted os started H enc)

end Go.Proofs.Ytkfcchapfklpgaa.fnExactNewSampler
namespace Go.Proofs.Ytkfcchapfklpgaa
theorem fnExactNewSampler_holds : Rows.FnExactNewSamplerSaid := fnExactNewSampler.over
end Go.Proofs.Ytkfcchapfklpgaa
