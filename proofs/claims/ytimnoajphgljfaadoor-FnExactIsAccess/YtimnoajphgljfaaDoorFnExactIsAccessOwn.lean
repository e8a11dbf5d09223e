/-
  The law FnExactIsAccess answers true at every event (the program's table lying as its text lays it), and leaves its argument as it was.
-/
import Derived.Test.YtimnoajphgljfaaDoorRows
import Derived.Test.YtimnoajphgljfaaDoorCards
import Derived.Test.YtimnoajphgljfaaDoorTie
import Derived.Test.YtimnoajphgljfaaDoorDoor
import Derived.Test.YtimnoajphgljfaaDoorEvTo
import Derived.Test.YtimnoajphgljfaaDoorEvAcc
import Derived.WalkKit
import Derived.ProofKit
import Derived.OpenShut
import Derived.LaidMore
import Derived.Stop.Joined
import Derived.OpenVars
import Derived.SevenTiedAt
namespace Go.Proofs.YtimnoajphgljfaaDoor.fnExactIsAccess
open Go.ChangeShapes Go.WideShapes Go.ChangeAt Go.RowKit
set_option linter.unusedVariables false

set_option maxHeartbeats 400000 in
theorem walk (e0 : Ev) (w : World) (i0 : EvI e0) (hs : Shapes w) :
    Calls Tryd.prog 6 #[.agg #[.int .i64 e0.k, .int .i64 e0.g, .int .i64 e0.o, .int .i64 e0.w, .int .i64 e0.l, .int .i64 e0.s, .int .i64 e0.f, .int .i64 e0.t]] w fun e w' => e = .returned (.bool true) ∧ Below w.heap.size w w' := by
  have n0 := EvAt.new w e0 31
  go_enter Tryd.func6, Tryd.ntmps6
  go_wp2_with fail
  refine (toEvent_any e0 _).mono ?_
  rintro e w1 ⟨rfl, f1⟩
  go_wp2_with fail
  refine (specAcc_any e0 _).mono ?_
  rintro e w2 ⟨rfl, f2⟩
  have fa := ((Fr.alloc _ _).trans f1).trans f2
  obtain ⟨c0, c1, c2, c3, c4, c5, c6, c7⟩ := n0.fr (f1.trans f2)
  clear n0 f1 f2
  go_wp2_with fail
  refine (toEvent_any e0 _).mono ?_
  rintro e w3 ⟨rfl, f3⟩
  go_wp2_with fail
  refine (implAcc_any e0 _ (hs.fr (fa.trans f3))).mono ?_
  rintro e w4 ⟨rfl, f4⟩
  go_wp2_with fail
  go_ret
  exact ⟨rfl, ((fa.trans f3).trans f4).below⟩

theorem own : ownKnob Tryd.prog.godebug = none := by kernel_rfl
theorem laidOut : laidOutB Tryd.prog = true := by kernel_rfl
theorem met (os : Os) (args : Array Value) : laidMetH Tryd.prog Rows.fnExactIsAccessRow.laid ((World.doorLaid Tryd.prog 400 os).forCall (fun _ _ => 0) ⟨#[], args, []⟩).memory :=
  laidMetH_of_parts3 (fuel := 8) (laidMet_of_run' 8 (by kernel_rfl) (by kernel_rfl)) (by kernel_rfl) (by kernel_rfl)
theorem tables {W : World} (h : laidMetH Tryd.prog Rows.fnExactIsAccessRow.laid W) : Shapes W := by
  rw [MakeChecks.laidMetH_plain _ _ _ (by kernel_rfl)] at h
  obtain ⟨ps, hl, -⟩ := h
  exact shapes_of hl

set_option maxRecDepth 100000 in
theorem lifted (os : Os) (started : os.Started) (H : Type) (enc : TypeId × Value → H) :
    ReturnsInHanded {} Tryd.checked os 6 .any (fun w args => (Rows.fnExactIsAccessSpec.pre enc Tryd.prog Tryd.f6 [] false w args ∧ laidMetH Tryd.prog Rows.fnExactIsAccessRow.laid w) ∧ sizedMet enc Tryd.prog Tryd.f6 (OpenSpec.ofChange Rows.fnExactIsAccessSpec) false w args)
      (Rows.fnExactIsAccessSpec.post enc Tryd.prog Tryd.f6 false true false false) := by
  refine returnsInHanded_of_change_and (C := Tryd.checked) (X := fun w _ => laidMetH Tryd.prog Rows.fnExactIsAccessRow.laid w) (fun _ _ _ hh h => h.of_heap hh) own started (by kernel_rfl) Tryd.func6
    (ChangeSpec.witness_shaped (enc := enc) (C := Tryd.checked) (os := os) (X := fun w _ => laidMetH Tryd.prog Rows.fnExactIsAccessRow.laid w) false (World.doorLaid Tryd.prog 400 os) #[.agg #[.int .i64 0, .int .i64 0, .int .i64 0, .int .i64 0, .int .i64 0, .int .i64 0, .int .i64 0, .int .i64 0]] 8 rfl (World.shaped_of_RefB (by kernel_rfl) (by kernel_rfl)) (by kernel_rfl) (by kernel_rfl) (by kernel_rfl) (met os _)) ?_
  intro W base args ds gs before hval0 hW _ _ hL _
  have hval : ∀ (j : Nat) t v, Tryd.f6.params[j]? = some t → args[j]? = some v → Value.okWide Tryd.prog W .any base t v := hval0
  have hW' := hW
  obtain ⟨p, q, hA0, hV, rfl, hfz, hnd⟩ := hW
  have hA : DataW.TrodAll enc Tryd.prog W 0 (fun _ => true) true Tryd.f6.params.toList args.toList ds p := hA0
  rw [Tryd.params6] at hA hval
  obtain ⟨v0, vs0, d0, ds0, p0, q0, hargs, rfl, rfl, h0, r0⟩ := trodAll_cons hA
  obtain ⟨rfl, rfl, rfl⟩ := trodAll_nil r0
  obtain rfl : args = #[v0] := by cases args; simp_all
  have k0 := h0
  have lt0 : ∀ x ∈ p0, x.block < W.heap.size := by obtain ⟨m, hm⟩ := k0; exact DataW.trod_lt m _ _ _ hm
  obtain ⟨e0, rfl, i0⟩ := ev_of_arg (hval 0 31 v0 rfl rfl) h0
  clear hA0 hval0
  refine (walk e0 W i0 (tables hL)).mono fun e W' ⟨he, bel⟩ => ?_
  subst he
  match gs, hV with
  | [g1], hV =>
    exact ⟨_, rfl, _, _, _, [], _, _, hW', trodAll_mk1 (shut_bool Tryd.underlying4 _), (trodAll_cons_mk (Below.trod laidOut (by kernel_rfl) (of_decide_eq_true (by kernel_rfl)) k0 bel lt0) trodAll_mk0), Below.trodVars laidOut bel (by kernel_rfl) hV, bel.frame _, fun h => by cases h⟩

theorem over : Rows.fnExactIsAccessRow.holds Tryd.pinned (OpenSpec.ofChange Rows.fnExactIsAccessSpec) :=
  OpenClaim.holds_of_wide 6 Tryd.f6 rfl rfl rfl rfl rfl rfl rfl ⟨rfl, rfl, rfl, rfl, rfl⟩ rfl rfl rfl rfl rfl (by kernel_rfl) Tryd.func6 (by kernel_rfl)
    (of_decide_eq_true (by kernel_rfl)) (by unfold Func.isWrapper; first | (rw [if_pos (by decide +kernel)]; kernel_rfl) | (rw [if_neg (by decide +kernel)]; exact ⟨rfl, rfl⟩))
    (fun os started H enc _ => lifted os started H enc)

theorem carded : Rows.FnExactIsAccessCardSaid :=
  Claim7.holds_tied_plain_at .later [] [.data] true (true, "3d8a6a67e4866b239fd1b975a95611639c4f8ff095bc05afdacdeb57ea2a4ca8") false
    over (fun _ h => by cases h) (by kernel_rfl) (fun _ h => by cases h) fnExactIsAccess_row_tie rfl ⟨rfl, rfl⟩ (by kernel_rfl) rfl
    (fun f fn hf hfn => by
      obtain rfl : f = 6 := Option.some.inj ((show Tryd.prog.funcNamed "loop.example/g00720/laws.FnExactIsAccess" = some 6 by kernel_rfl).symm.trans hf) |>.symm
      obtain rfl : fn = Tryd.f6 := (Option.some.inj (Tryd.func6.symm.trans hfn)).symm
      exact ⟨by kernel_rfl, fun j t ht => by
        rw [Tryd.params6] at ht
        have hm : t ∈ [31] := by simpa using Array.mem_of_getElem? ht
        have hall : ([31].all fun u => !Tryd.prog.wantsStandIn u) = true := by kernel_rfl
        exact (show Tryd.prog.wantsStandIn t = false by simpa using List.all_eq_true.1 hall t hm)⟩)
    (by kernel_rfl)
end Go.Proofs.YtimnoajphgljfaaDoor.fnExactIsAccess
namespace Go.Proofs.YtimnoajphgljfaaDoor
theorem fnExactIsAccess_holds : Rows.FnExactIsAccessCardSaid := fnExactIsAccess.carded
end Go.Proofs.YtimnoajphgljfaaDoor
