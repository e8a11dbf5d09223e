/-
  The law FnExactBurstOk answers true at every config and burst (no condition), and leaves what it was given as it was.
-/
import Derived.Test.YtcdjblgjcdkdnaaRows
import Derived.Test.YtcdjblgjcdkdnaaArgCf
import Derived.Test.YtcdjblgjcdkdnaaArgBu
import Derived.Test.YtcdjblgjcdkdnaaBrs2
import Derived.BigQuiet
import Derived.Deep.Cut
import Derived.WalkKit
import Derived.ProofKit
import Derived.OpenShut
import Derived.LaidMore
import Derived.Stop.Joined
import Derived.OpenVars
namespace Go.Proofs.Ytcdjblgjcdkdnaa.fnExactBurstOk
open Go.ChangeShapes Go.WideShapes Go.ChangeAt Go.RowKit
set_option linter.unusedVariables false

set_option maxHeartbeats 4000000 in
set_option maxRecDepth 20000 in
theorem walk (c0 : Cf) (b1 : Bu) (w : World) (i0 : CfI c0) (i1 : BuI b1)  :
    Calls Try.prog 4 #[.agg #[.int .i64 c0.r, .int .i64 c0.s, .int .i64 c0.b, .int .i64 c0.m, .int .i64 c0.q, .int .i64 c0.c, .int .i64 c0.w], .agg #[.int .i64 b1.l, .int .i64 b1.s, .int .i64 b1.g]] w fun e w' => e = .returned (.bool true) ∧ Below w.heap.size w w' := by
  have ka := CfAt.new w c0 38
  have fW := Fr.alloc w (.cells #[.int .i64 c0.r, .int .i64 c0.s, .int .i64 c0.b, .int .i64 c0.m, .int .i64 c0.q, .int .i64 c0.c, .int .i64 c0.w] 38)
  have kb := heap_alloc_new (w.alloc (.cells #[.int .i64 c0.r, .int .i64 c0.s, .int .i64 c0.b, .int .i64 c0.m, .int .i64 c0.q, .int .i64 c0.c, .int .i64 c0.w] 38)) (.cells #[.int .i64 b1.l, .int .i64 b1.s, .int .i64 b1.g] 39)
  have fB := Fr.alloc (w.alloc (.cells #[.int .i64 c0.r, .int .i64 c0.s, .int .i64 c0.b, .int .i64 c0.m, .int .i64 c0.q, .int .i64 c0.c, .int .i64 c0.w] 38)) (.cells #[.int .i64 b1.l, .int .i64 b1.s, .int .i64 b1.g] 39)
  have cT := fun u => toConfig_any c0 u
  have cU := fun u => toBurst_any b1 u
  have cS := fun u => buOk_spec c0 b1 u
  have cI := fun u => buOk_impl c0 b1 u
  generalize bkB c0 b1 = B at cS cI
  obtain ⟨r, s, b, m, q, c, k⟩ := c0
  obtain ⟨xl, xs, xg⟩ := b1
  simp only at cT cU cS cI ka kb fW fB ⊢
  have hs : (w.alloc (.cells #[.int .i64 r, .int .i64 s, .int .i64 b, .int .i64 m, .int .i64 q, .int .i64 c, .int .i64 k] 38)).heap.size = w.heap.size + 1 := by simp
  rw [hs] at kb
  replace ka := ka.fr fB
  have F := fW.trans fB
  clear fW fB hs
  go_enter Try.func4, Try.ntmps4
  go_upto_region 1 with fail
  obtain ⟨U, hU⟩ : ∃ U, U = (w.alloc (.cells #[.int .i64 r, .int .i64 s, .int .i64 b, .int .i64 m, .int .i64 q, .int .i64 c, .int .i64 k] 38)).alloc (.cells #[.int .i64 xl, .int .i64 xs, .int .i64 xg] 39) := ⟨_, rfl⟩
  rw [← hU] at ka kb F ⊢
  clear hU
  have HQ : Hid (∀ u, Fr U u → CfAt u w.heap.size 0 ⟨r, s, b, m, q, c, k⟩ ∧ u.cell? ⟨w.heap.size + 1, 0, none⟩ = some (.int .i64 xl) ∧ u.cell? ⟨w.heap.size + 1, 1, none⟩ = some (.int .i64 xs) ∧ u.cell? ⟨w.heap.size + 1, 2, none⟩ = some (.int .i64 xg)) := fun u f => ⟨ka.fr f, f.cell (by rw [cell_of_row _ _ _ _ _ _ kb]; rfl), f.cell (by rw [cell_of_row _ _ _ _ _ _ kb]; rfl), f.cell (by rw [cell_of_row _ _ _ _ _ _ kb]; rfl)⟩
  clear ka kb
  have e0 := fun σ : Later U => (HQ.out σ.u σ.fr).1.1
  have e1 := fun σ : Later U => (HQ.out σ.u σ.fr).1.2.1
  have e2 := fun σ : Later U => (HQ.out σ.u σ.fr).1.2.2.1
  have e3 := fun σ : Later U => (HQ.out σ.u σ.fr).1.2.2.2.1
  have e4 := fun σ : Later U => (HQ.out σ.u σ.fr).1.2.2.2.2.1
  have e5 := fun σ : Later U => (HQ.out σ.u σ.fr).1.2.2.2.2.2.1
  have e6 := fun σ : Later U => (HQ.out σ.u σ.fr).1.2.2.2.2.2.2
  have x0 := fun σ : Later U => (HQ.out σ.u σ.fr).2.1
  have x1 := fun σ : Later U => (HQ.out σ.u σ.fr).2.2.1
  have x2 := fun σ : Later U => (HQ.out σ.u σ.fr).2.2.2
  simp only [Nat.zero_add] at e0 e1 e2 e3 e4 e5 e6
  have hne := Later.some U
  go_wp2_with fail
  refine wp_region_grown (by kernel_rfl) (by kernel_rfl) ?_
  repeat (go_big_quiet_step (first | with_reducible exact Calls.grown_of (cT _) | with_reducible exact Calls.grown_of (cU _) | with_reducible exact Calls.grown_of (cS _)))
  refine wpQuiet_nil ?_
  rintro _ ⟨σ, rfl⟩
  clear e0 e1 e2 e3 e4 e5 e6 x0 x1 x2 hne
  have fσ := σ.fr
  obtain ⟨V, hV⟩ : ∃ V, V = σ.u := ⟨_, rfl⟩
  rw [← hV] at fσ ⊢
  clear hV σ
  have e0 := fun σ : Later V => (HQ.out σ.u (fσ.trans σ.fr)).1.1
  have e1 := fun σ : Later V => (HQ.out σ.u (fσ.trans σ.fr)).1.2.1
  have e2 := fun σ : Later V => (HQ.out σ.u (fσ.trans σ.fr)).1.2.2.1
  have e3 := fun σ : Later V => (HQ.out σ.u (fσ.trans σ.fr)).1.2.2.2.1
  have e4 := fun σ : Later V => (HQ.out σ.u (fσ.trans σ.fr)).1.2.2.2.2.1
  have e5 := fun σ : Later V => (HQ.out σ.u (fσ.trans σ.fr)).1.2.2.2.2.2.1
  have e6 := fun σ : Later V => (HQ.out σ.u (fσ.trans σ.fr)).1.2.2.2.2.2.2
  have x0 := fun σ : Later V => (HQ.out σ.u (fσ.trans σ.fr)).2.1
  have x1 := fun σ : Later V => (HQ.out σ.u (fσ.trans σ.fr)).2.2.1
  have x2 := fun σ : Later V => (HQ.out σ.u (fσ.trans σ.fr)).2.2.2
  simp only [Nat.zero_add] at e0 e1 e2 e3 e4 e5 e6
  have hne := Later.some V
  go_wp2_with fail
  refine wp_region_grown (by kernel_rfl) (by kernel_rfl) ?_
  repeat (go_big_quiet_step (first | with_reducible exact Calls.grown_of (cT _) | with_reducible exact Calls.grown_of (cU _) | with_reducible exact Calls.grown_of (cI _)))
  refine wpQuiet_nil ?_
  rintro _ ⟨σ, rfl⟩
  have F3 := (F.trans fσ).trans σ.fr
  go_wp2_with fail
  go_ret
  exact ⟨rfl, F3.below⟩

theorem own : ownKnob Try.prog.godebug = none := by kernel_rfl
theorem laidOut : laidOutB Try.prog = true := by kernel_rfl

set_option maxRecDepth 100000 in
theorem lifted (os : Os) (started : os.Started) (H : Type) (enc : TypeId × Value → H) :
    ReturnsInHanded {} Try.checked os 4 .any (Rows.fnExactBurstOkSpec.pre6 enc Try.prog Try.f4 Rows.fnExactBurstOkRow.domain false) (Rows.fnExactBurstOkSpec.post enc Try.prog Try.f4 false true false false) := by
  refine returnsInHanded_of_change (C := Try.checked) own started (by kernel_rfl) Try.func4
    (ChangeSpec.witness6 (enc := enc) (C := Try.checked) false ⟨#[], #[.agg #[.int .i64 0, .int .i64 0, .int .i64 0, .int .i64 0, .int .i64 0, .int .i64 0, .int .i64 0], .agg #[.int .i64 0, .int .i64 0, .int .i64 0]], []⟩ 8 (by kernel_rfl) (by kernel_rfl) (by kernel_rfl) (by kernel_rfl)) ?_
  intro W base args ds gs before hval0 hW hcnd _
  have hval : ∀ (j : Nat) t v, Try.f4.params[j]? = some t → args[j]? = some v → Value.okWide Try.prog W .any base t v := hval0
  have hW' := hW
  obtain ⟨p, q, hA0, hV, rfl, hfz, hnd⟩ := hW
  have hA : DataW.TrodAll enc Try.prog W 0 (fun _ => true) true Try.f4.params.toList args.toList ds p := hA0
  rw [Try.params4] at hA hval
  obtain ⟨v0, vs0, d0, ds0, p0, q0, hargs, rfl, rfl, h0, r0⟩ := trodAll_cons hA
  obtain ⟨v1, vs1, d1, ds1, p1, q1, rfl, rfl, rfl, h1, r1⟩ := trodAll_cons r0
  obtain ⟨rfl, rfl, rfl⟩ := trodAll_nil r1
  obtain rfl : args = #[v0, v1] := by cases args; simp_all
  have k0 := h0
  have lt0 : ∀ x ∈ p0, x.block < W.heap.size := by obtain ⟨m, hm⟩ := k0; exact DataW.trod_lt m _ _ _ hm
  have k1 := h1
  have lt1 : ∀ x ∈ p1, x.block < W.heap.size := by obtain ⟨m, hm⟩ := k1; exact DataW.trod_lt m _ _ _ hm
  obtain ⟨rfl, rfl⟩ := trodVars_none hV
  obtain ⟨c0, rfl, i0⟩ := cf_of_arg (hval 0 38 v0 rfl rfl) h0
  obtain ⟨b1, rfl, i1⟩ := bu_of_arg (hval 1 39 v1 rfl rfl) h1
  clear hA0 hval0
  refine (walk c0 b1 W i0 i1).mono fun e W' ⟨he, bel⟩ => ?_
  subst he
  exact ⟨_, rfl, _, _, _, [], _, [], hW', trodAll_mk1 (shut_bool Try.underlying4 _), (trodAll_cons_mk (Below.trod laidOut (by kernel_rfl) (of_decide_eq_true (by kernel_rfl)) k0 bel lt0) (trodAll_cons_mk (Below.trod laidOut (by kernel_rfl) (of_decide_eq_true (by kernel_rfl)) k1 bel lt1) trodAll_mk0)), rfl, bel.frame _, fun h => by cases h⟩

theorem over : Rows.fnExactBurstOkRow.holds Try.pinned (OpenSpec.ofChange Rows.fnExactBurstOkSpec) :=
  OpenClaim.holds_of_wide 4 Try.f4 rfl rfl rfl rfl rfl rfl rfl ⟨rfl, rfl, rfl, rfl, rfl⟩ rfl rfl rfl rfl rfl (by kernel_rfl) Try.func4 (by kernel_rfl)
    (of_decide_eq_true (by kernel_rfl)) (by unfold Func.isWrapper; first | (rw [if_pos (by decide +kernel)]; kernel_rfl) | (rw [if_neg (by decide +kernel)]; exact ⟨rfl, rfl⟩))
    (fun os started H enc _ => lifted os started H enc)
end Go.Proofs.Ytcdjblgjcdkdnaa.fnExactBurstOk
namespace Go.Proofs.Ytcdjblgjcdkdnaa
theorem fnExactBurstOk_holds : Rows.FnExactBurstOkSaid := fnExactBurstOk.over
end Go.Proofs.Ytcdjblgjcdkdnaa
