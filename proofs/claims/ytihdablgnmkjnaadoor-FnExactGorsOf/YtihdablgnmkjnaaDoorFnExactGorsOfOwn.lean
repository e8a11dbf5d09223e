/-
  The law FnExactGorsOf answers true at every event (the program's table lying as its text lays it), and leaves its argument as it was.
-/
import Derived.Test.YtihdablgnmkjnaaDoorRows
import Derived.Test.YtihdablgnmkjnaaDoorCards
import Derived.Test.YtihdablgnmkjnaaDoorTie
import Derived.Test.YtihdablgnmkjnaaDoorDoor
import Derived.Test.YtihdablgnmkjnaaDoorGors
import Derived.Test.YtihdablgnmkjnaaDoorIntsEq
import Derived.Test.YtihdablgnmkjnaaDoorIntsMark
import Derived.WalkKit
import Derived.ProofKit
import Derived.OpenShut
import Derived.LaidMore
import Derived.Stop.Joined
import Derived.OpenVars
import Derived.SevenTiedAt
namespace Go.Proofs.YtihdablgnmkjnaaDoor.fnExactGorsOf
open Go.ChangeShapes Go.WideShapes Go.ChangeAt Go.RowKit
set_option linter.unusedVariables false

set_option maxHeartbeats 1000000 in
theorem walk (e0 : Ev) (w : World) (i0 : EvI e0) (hs : Shapes w) :
    Calls Tryd.prog 3 #[.agg #[.int .i64 e0.k, .int .i64 e0.g, .int .i64 e0.o, .int .i64 e0.w, .int .i64 e0.l, .int .i64 e0.s, .int .i64 e0.f, .int .i64 e0.t]] w fun e w' => e = .returned (.bool true) ∧ Below w.heap.size w w' := by
  have n0 := EvAt.new w e0 23
  have fn := Fr.alloc w (.cells #[.int .i64 e0.k, .int .i64 e0.g, .int .i64 e0.o, .int .i64 e0.w, .int .i64 e0.l, .int .i64 e0.s, .int .i64 e0.f, .int .i64 e0.t] 23)
  have hlen := gors_len e0
  have cS := fun u => specGors_any e0 u
  have cI := fun u h => implGors_any e0 u h
  obtain ⟨J, hJ⟩ : ∃ J, J = gorsL e0 := ⟨_, rfl⟩
  simp only [← hJ] at hlen cS cI
  clear hJ
  have heq : decide (J = J) = true := by simp
  go_enter Tryd.func3, Tryd.ntmps3
  go_wp2_with fail
  refine (toEvent_any e0 _).mono ?_
  rintro e w1 ⟨rfl, f1⟩
  go_wp2_with fail
  refine (cS _).mono ?_
  rintro e w2 ⟨gw, rfl, ow, f2⟩
  have tw := own_lt ow
  have fa := fn.trans (f1.trans f2)
  obtain ⟨c0, c1, c2, c3, c4, c5, c6, c7⟩ := n0.fr (f1.trans f2)
  go_wp2_with fail
  refine (toEvent_any e0 _).mono ?_
  rintro e w3 ⟨rfl, f3⟩
  have fb := fa.trans f3
  go_wp2_with fail
  refine (cI _ (hs.fr fb)).mono ?_
  rintro e w4 ⟨gg, rfl, og, f4⟩
  have tg := own_lt og
  have ow := ow.fr (f3.trans f4)
  have s3 := f3.size
  have sA := fa.size
  have s2 := f2.size
  have s1 := f1.size
  have sn := fn.size
  have fc := fb.trans f4
  have n4 := n0.fr ((f1.trans f2).trans (f3.trans f4))
  clear f1 f2 f3 f4 fa n0 c0 c1 c2 c3 c4 c5 c6 c7
  go_wp2_with fail
  refine (eqI_any _ _ _ _ _ _ J J _ rfl rfl og.reads ow.reads).mono ?_
  rintro e w5 ⟨rfl, n5, rfl⟩
  have og := og.fr (Fr.drewN _ n5)
  have ow := ow.fr (Fr.drewN _ n5)
  have n5' := n4.fr (Fr.drewN _ n5)
  have fd := fc.trans (Fr.drewN _ n5)
  clear n4 fc
  go_wp2_with fail
  refine (mark_any _ _ _ _ 1 J _ rfl (by omega) (by omega) og).mono ?_
  rintro e w6 ⟨rfl, om, h6⟩
  have fe := fd.then h6 (one_blk (by omega))
  have ow := ow.keep h6 (own_ne (by omega))
  have n6 := EvAt.keepG n5' h6 (by simp; omega)
  go_wp2_with fail
  refine (held_any _ _ _ 1 _ (by omega) (by omega) om.reads).mono ?_
  rintro e w7 ⟨rfl, rfl⟩
  obtain ⟨c0, c1, c2, c3, c4, c5, c6, c7⟩ := n6
  go_wp2_with fail
  refine (toEvent_any e0 _).mono ?_
  rintro e w8 ⟨rfl, f8⟩
  go_wp2_with fail
  refine (cI _ (hs.fr (fe.trans f8))).mono ?_
  rintro e w9 ⟨gh, rfl, oh, f9⟩
  have g9 := f8.trans f9
  go_wp2_with fail
  refine (eqI_any _ _ _ _ _ _ J J _ rfl rfl oh.reads (ow.fr g9).reads).mono ?_
  rintro e w10 ⟨rfl, n10, rfl⟩
  have om := om.fr (g9.trans (Fr.drewN _ n10))
  go_wp2_with fail
  refine (held_any _ _ _ 1 _ (by omega) (by omega) om.reads).mono ?_
  rintro e w11 ⟨rfl, rfl⟩
  go_wp2_with fail
  go_ret
  exact ⟨rfl, ((fe.trans g9).trans (Fr.drewN _ n10)).below⟩

theorem own : ownKnob Tryd.prog.godebug = none := by kernel_rfl
theorem laidOut : laidOutB Tryd.prog = true := by kernel_rfl
theorem met (os : Os) (args : Array Value) : laidMetH Tryd.prog Rows.fnExactGorsOfRow.laid ((World.doorLaid Tryd.prog 400 os).forCall (fun _ _ => 0) ⟨#[], args, []⟩).memory :=
  laidMetH_of_parts3 (fuel := 8) (laidMet_of_run' 8 (by kernel_rfl) (by kernel_rfl)) (by kernel_rfl) (by kernel_rfl)
theorem tables {W : World} (h : laidMetH Tryd.prog Rows.fnExactGorsOfRow.laid W) : Shapes W := by
  rw [MakeChecks.laidMetH_plain _ _ _ (by kernel_rfl)] at h
  obtain ⟨ps, hl, -⟩ := h
  exact shapes_of hl

set_option maxRecDepth 100000 in
theorem lifted (os : Os) (started : os.Started) (H : Type) (enc : TypeId × Value → H) :
    ReturnsInHanded {} Tryd.checked os 3 .any (fun w args => (Rows.fnExactGorsOfSpec.pre enc Tryd.prog Tryd.f3 [] false w args ∧ laidMetH Tryd.prog Rows.fnExactGorsOfRow.laid w) ∧ sizedMet enc Tryd.prog Tryd.f3 (OpenSpec.ofChange Rows.fnExactGorsOfSpec) false w args)
      (Rows.fnExactGorsOfSpec.post enc Tryd.prog Tryd.f3 false true false false) := by
  refine returnsInHanded_of_change_and (C := Tryd.checked) (X := fun w _ => laidMetH Tryd.prog Rows.fnExactGorsOfRow.laid w) (fun _ _ _ hh h => h.of_heap hh) own started (by kernel_rfl) Tryd.func3
    (ChangeSpec.witness_shaped (enc := enc) (C := Tryd.checked) (os := os) (X := fun w _ => laidMetH Tryd.prog Rows.fnExactGorsOfRow.laid w) false (World.doorLaid Tryd.prog 400 os) #[.agg #[.int .i64 0, .int .i64 0, .int .i64 0, .int .i64 0, .int .i64 0, .int .i64 0, .int .i64 0, .int .i64 0]] 8 rfl (World.shaped_of_RefB (by kernel_rfl) (by kernel_rfl)) (by kernel_rfl) (by kernel_rfl) (by kernel_rfl) (met os _)) ?_
  intro W base args ds gs before hval0 hW _ _ hL _
  have hval : ∀ (j : Nat) t v, Tryd.f3.params[j]? = some t → args[j]? = some v → Value.okWide Tryd.prog W .any base t v := hval0
  have hW' := hW
  obtain ⟨p, q, hA0, hV, rfl, hfz, hnd⟩ := hW
  have hA : DataW.TrodAll enc Tryd.prog W 0 (fun _ => true) true Tryd.f3.params.toList args.toList ds p := hA0
  rw [Tryd.params3] at hA hval
  obtain ⟨v0, vs0, d0, ds0, p0, q0, hargs, rfl, rfl, h0, r0⟩ := trodAll_cons hA
  obtain ⟨rfl, rfl, rfl⟩ := trodAll_nil r0
  obtain rfl : args = #[v0] := by cases args; simp_all
  have k0 := h0
  have lt0 : ∀ x ∈ p0, x.block < W.heap.size := by obtain ⟨m, hm⟩ := k0; exact DataW.trod_lt m _ _ _ hm
  obtain ⟨e0, rfl, i0⟩ := ev_of_arg (hval 0 23 v0 rfl rfl) h0
  clear hA0 hval0
  refine (walk e0 W i0 (tables hL)).mono fun e W' ⟨he, bel⟩ => ?_
  subst he
  match gs, hV with
  | [g1], hV =>
    exact ⟨_, rfl, _, _, _, [], _, _, hW', trodAll_mk1 (shut_bool Tryd.underlying4 _), (trodAll_cons_mk (Below.trod laidOut (by kernel_rfl) (of_decide_eq_true (by kernel_rfl)) k0 bel lt0) trodAll_mk0), Below.trodVars laidOut bel (by kernel_rfl) hV, bel.frame _, fun h => by cases h⟩

theorem over : Rows.fnExactGorsOfRow.holds Tryd.pinned (OpenSpec.ofChange Rows.fnExactGorsOfSpec) :=
  OpenClaim.holds_of_wide 3 Tryd.f3 rfl rfl rfl rfl rfl rfl rfl ⟨rfl, rfl, rfl, rfl, rfl⟩ rfl rfl rfl rfl rfl (by kernel_rfl) Tryd.func3 (by kernel_rfl)
    (of_decide_eq_true (by kernel_rfl)) (by unfold Func.isWrapper; first | (rw [if_pos (by decide +kernel)]; kernel_rfl) | (rw [if_neg (by decide +kernel)]; exact ⟨rfl, rfl⟩))
    (fun os started H enc _ => lifted os started H enc)

theorem carded : Rows.FnExactGorsOfCardSaid :=
  Claim7.holds_tied_plain_at .later [] [.data] true (true, "07aa6c1665bf20b9162957d72534081ea0b0b31ba54f9be3cd63bd2de0734b7c") false
    over (fun _ h => by cases h) (by kernel_rfl) (fun _ h => by cases h) fnExactGorsOf_row_tie rfl ⟨rfl, rfl⟩ (by kernel_rfl) rfl
    (fun f fn hf hfn => by
      obtain rfl : f = 3 := Option.some.inj ((show Tryd.prog.funcNamed "loop.example/g00720/laws.FnExactGorsOf" = some 3 by kernel_rfl).symm.trans hf) |>.symm
      obtain rfl : fn = Tryd.f3 := (Option.some.inj (Tryd.func3.symm.trans hfn)).symm
      exact ⟨by kernel_rfl, fun j t ht => by
        rw [Tryd.params3] at ht
        have hm : t ∈ [23] := by simpa using Array.mem_of_getElem? ht
        have hall : ([23].all fun u => !Tryd.prog.wantsStandIn u) = true := by kernel_rfl
        exact (show Tryd.prog.wantsStandIn t = false by simpa using List.all_eq_true.1 hall t hm)⟩)
    (by kernel_rfl)
end Go.Proofs.YtihdablgnmkjnaaDoor.fnExactGorsOf
namespace Go.Proofs.YtihdablgnmkjnaaDoor
theorem fnExactGorsOf_holds : Rows.FnExactGorsOfCardSaid := fnExactGorsOf.carded
end Go.Proofs.YtihdablgnmkjnaaDoor
