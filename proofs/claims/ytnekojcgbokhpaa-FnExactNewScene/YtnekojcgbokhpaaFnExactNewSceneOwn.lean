/-
  The law FnExactNewScene answers true (it has no argument; no condition).
-/
import Derived.Test.YtnekojcgbokhpaaRows
import Derived.Test.YtnekojcgbokhpaaScNil
import Derived.Test.YtnekojcgbokhpaaScEq
import Derived.WalkKit
import Derived.ProofKit
import Derived.OpenShut
import Derived.ShutString
namespace Go.Proofs.Ytnekojcgbokhpaa.fnExactNewScene
open Go.ChangeShapes Go.WideShapes Go.ChangeAt Go.RowKit
open Go.ChangeMaps (open_string shut_string)
set_option linter.unusedVariables false

theorem own : ownKnob Try.prog.godebug = none := by kernel_rfl

set_option maxHeartbeats 1000000 in
theorem walk  (w : World) :
    Calls Try.prog 4 #[] w fun e w' => e = .returned (.bool true) ∧ Below w.heap.size w w' := by
  have s0 := fun (u : World) => scR_new (fun _ => False) u
  have cE := fun u => eqScene_same ⟨1, none, 0, 0, none, 0, 0, none, 0, 0, none, 0, 0⟩ ⟨1, none, 0, 0, none, 0, 0, none, 0, 0, none, 0, 0⟩ scn0 u (s0 u) (s0 u)
  simp only at cE
  clear s0
  go_enter Try.func4, Try.ntmps4
  go_wp2_with fail
  refine (specNew_is _).mono ?_
  rintro e u1 ⟨rfl, f1⟩
  go_wp2_with fail
  refine (implNew_is _).mono ?_
  rintro e u2 ⟨rfl, f2⟩
  have c1 : ScK u2 u1.heap.size ⟨1, none, 0, 0, none, 0, 0, none, 0, 0, none, 0, 0⟩ := (ScK.new u1 ⟨1, none, 0, 0, none, 0, 0, none, 0, 0, none, 0, 0⟩).fr f2
  have F2 : Fr w u2 := (f1.trans (Fr.alloc _ _)).trans f2
  obtain ⟨A0, hA⟩ : ∃ A0, A0 = u1.heap.size := ⟨_, rfl⟩
  simp only [← hA] at c1 ⊢
  clear hA f1 f2
  have c1 := c1.fr (Fr.alloc u2 (.cells #[.int .i64 1, .slice none 0 0, .slice none 0 0, .slice none 0 0, .slice none 0 0] 34))
  obtain ⟨x0, x1, x2, x3, x4⟩ := c1.at
  simp only at x0 x1 x2 x3 x4
  go_wp2_with fail
  refine (cE _).mono ?_
  rintro e u3 ⟨rfl, f3⟩
  have c1 := c1.fr f3
  have c2 := (ScK.new u2 ⟨1, none, 0, 0, none, 0, 0, none, 0, 0, none, 0, 0⟩).fr f3
  have F3 := (F2.trans (Fr.alloc u2 (.cells #[.int .i64 1, .slice none 0 0, .slice none 0 0, .slice none 0 0, .slice none 0 0] 34))).trans f3
  obtain ⟨B0, hB⟩ : ∃ B0, B0 = u2.heap.size := ⟨_, rfl⟩
  simp only [← hB] at c2 ⊢
  clear hB f3 F2 x0 x1 x2 x3 x4
  obtain ⟨y0, y1, y2, y3, y4⟩ := c2.at
  simp only at y0 y1 y2 y3 y4
  go_wp2_with fail
  refine (markScene_nil _).mono ?_
  rintro e u4 ⟨rfl, f4⟩
  have c1 := c1.fr f4
  have c2 := c2.fr f4
  have F4 := F3.trans f4
  clear y0 y1 y2 y3 y4 f4 F3
  obtain ⟨y0, y1, y2, y3, y4⟩ := c2.at
  simp only at y0 y1 y2 y3 y4
  go_wp2_with fail
  refine (heldScene_nil _).mono ?_
  rintro e u5 ⟨rfl, f5⟩
  have c1 := c1.fr f5
  have c2 := c2.fr f5
  have F5 := F4.trans f5
  clear y0 y1 y2 y3 y4 f5 F4
  go_wp2_with fail
  refine (implNew_is _).mono ?_
  rintro e u6 ⟨rfl, f6⟩
  have c1 := (c1.fr f6).fr (Fr.alloc u6 (.cells #[.int .i64 1, .slice none 0 0, .slice none 0 0, .slice none 0 0, .slice none 0 0] 34))
  have c2 := (c2.fr f6).fr (Fr.alloc u6 (.cells #[.int .i64 1, .slice none 0 0, .slice none 0 0, .slice none 0 0, .slice none 0 0] 34))
  have F6 := (F5.trans f6).trans (Fr.alloc u6 (.cells #[.int .i64 1, .slice none 0 0, .slice none 0 0, .slice none 0 0, .slice none 0 0] 34))
  clear f6 F5
  obtain ⟨x0, x1, x2, x3, x4⟩ := c1.at
  simp only at x0 x1 x2 x3 x4
  go_wp2_with fail
  refine (cE _).mono ?_
  rintro e u7 ⟨rfl, f7⟩
  have c2 := c2.fr f7
  have F7 := F6.trans f7
  clear x0 x1 x2 x3 x4 f7 F6 c1
  obtain ⟨y0, y1, y2, y3, y4⟩ := c2.at
  simp only at y0 y1 y2 y3 y4
  go_wp2_with fail
  refine (heldScene_nil _).mono ?_
  rintro e u8 ⟨rfl, f8⟩
  go_wp2_with fail
  go_ret
  exact ⟨rfl, (F7.trans f8).below⟩





set_option maxRecDepth 100000 in
theorem lifted (os : Os) (started : os.Started) (H : Type) (enc : TypeId × Value → H) :
    ReturnsInHanded {} Try.checked os 4 .any (Rows.fnExactNewSceneSpec.pre6 enc Try.prog Try.f4 Rows.fnExactNewSceneRow.domain false) (Rows.fnExactNewSceneSpec.post enc Try.prog Try.f4 false true false false) := by
  refine returnsInHanded_of_change (C := Try.checked) own started (by kernel_rfl) Try.func4
    (ChangeSpec.witness6 (enc := enc) (C := Try.checked) false ⟨#[], #[], []⟩ 8 (by kernel_rfl) (by kernel_rfl) (by kernel_rfl) (by kernel_rfl)) ?_
  intro W base args ds gs before hval0 hW hcnd _
  have hval : ∀ (j : Nat) t v, Try.f4.params[j]? = some t → args[j]? = some v → Value.okWide Try.prog W .any base t v := hval0
  have hW' := hW
  obtain ⟨p, q, hA0, hV, rfl, hfz, hnd⟩ := hW
  have hA : DataW.TrodAll enc Try.prog W 0 (fun _ => true) true Try.f4.params.toList args.toList ds p := hA0
  rw [Try.params4] at hA hval
  obtain ⟨rfl, rfl, rfl⟩ := trodAll_none hA
  obtain ⟨rfl, rfl⟩ := trodVars_none hV
  clear hA0 hval0
  refine (walk  W).mono fun e W' ⟨he, bel⟩ => ?_
  subst he
  exact ⟨_, rfl, _, _, _, [], _, [], hW', trodAll_mk1 (shut_bool Try.underlying4 _), rfl, rfl, bel.frame _, fun h => by cases h⟩

theorem over : Rows.fnExactNewSceneRow.holds Try.pinned (OpenSpec.ofChange Rows.fnExactNewSceneSpec) :=
  OpenClaim.holds_of_wide 4 Try.f4 rfl rfl rfl rfl rfl rfl rfl ⟨rfl, rfl, rfl, rfl, rfl⟩ rfl rfl rfl rfl rfl (by kernel_rfl) Try.func4 (by kernel_rfl)
    (of_decide_eq_true (by kernel_rfl)) (by unfold Func.isWrapper; first | (rw [if_pos (by decide +kernel)]; kernel_rfl) | (rw [if_neg (by decide +kernel)]; exact ⟨rfl, rfl⟩))
    (fun os started H enc _ => lifted os started H enc)

end Go.Proofs.Ytnekojcgbokhpaa.fnExactNewScene
namespace Go.Proofs.Ytnekojcgbokhpaa
theorem fnExactNewScene_holds : Rows.FnExactNewSceneSaid := fnExactNewScene.over
end Go.Proofs.Ytnekojcgbokhpaa
