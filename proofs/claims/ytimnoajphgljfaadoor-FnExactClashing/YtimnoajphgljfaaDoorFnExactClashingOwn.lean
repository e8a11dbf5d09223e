/-
  The law FnExactClashing answers true at every two events (the program's table lying as its text lays it), and leaves its arguments as they were.
-/
import Derived.Test.YtimnoajphgljfaaDoorRows
import Derived.Test.YtimnoajphgljfaaDoorCards
import Derived.Test.YtimnoajphgljfaaDoorTie
import Derived.Test.YtimnoajphgljfaaDoorDoor
import Derived.Test.YtimnoajphgljfaaDoorEvTo
import Derived.Test.YtimnoajphgljfaaDoorEvCla
import Derived.WalkKit
import Derived.ProofKit
import Derived.OpenShut
import Derived.LaidMore
import Derived.Stop.Joined
import Derived.OpenVars
import Derived.SevenTiedAt
namespace Go.Proofs.YtimnoajphgljfaaDoor.fnExactClashing
open Go.ChangeShapes Go.WideShapes Go.ChangeAt Go.RowKit
set_option linter.unusedVariables false

set_option maxHeartbeats 1000000 in
theorem walk (e0 : Ev) (e1 : Ev) (w : World) (i0 : EvI e0) (i1 : EvI e1) (hs : Shapes w) :
    Calls Tryd.prog 8 #[.agg #[.int .i64 e0.k, .int .i64 e0.g, .int .i64 e0.o, .int .i64 e0.w, .int .i64 e0.l, .int .i64 e0.s, .int .i64 e0.f, .int .i64 e0.t], .agg #[.int .i64 e1.k, .int .i64 e1.g, .int .i64 e1.o, .int .i64 e1.w, .int .i64 e1.l, .int .i64 e1.s, .int .i64 e1.f, .int .i64 e1.t]] w fun e w' => e = .returned (.bool true) ∧ Below w.heap.size w w' := by
  have n0 := (EvAt.new w e0 31).fr (Fr.alloc _ (.cells #[.int .i64 e1.k, .int .i64 e1.g, .int .i64 e1.o, .int .i64 e1.w, .int .i64 e1.l, .int .i64 e1.s, .int .i64 e1.f, .int .i64 e1.t] 31))
  have n1 := EvAt.new (w.alloc (.cells #[.int .i64 e0.k, .int .i64 e0.g, .int .i64 e0.o, .int .i64 e0.w, .int .i64 e0.l, .int .i64 e0.s, .int .i64 e0.f, .int .i64 e0.t] 31)) e1 31
  have hsz : (w.alloc (.cells #[.int .i64 e0.k, .int .i64 e0.g, .int .i64 e0.o, .int .i64 e0.w, .int .i64 e0.l, .int .i64 e0.s, .int .i64 e0.f, .int .i64 e0.t] 31)).heap.size = w.heap.size + 1 := by simp
  rw [hsz] at n1
  clear hsz
  go_enter Tryd.func8, Tryd.ntmps8
  go_wp2_with fail
  obtain ⟨W, hW⟩ : ∃ W, W = (w.alloc (.cells #[.int .i64 e0.k, .int .i64 e0.g, .int .i64 e0.o, .int .i64 e0.w, .int .i64 e0.l, .int .i64 e0.s, .int .i64 e0.f, .int .i64 e0.t] 31)).alloc (.cells #[.int .i64 e1.k, .int .i64 e1.g, .int .i64 e1.o, .int .i64 e1.w, .int .i64 e1.l, .int .i64 e1.s, .int .i64 e1.f, .int .i64 e1.t] 31) := ⟨_, rfl⟩
  rw [← hW] at n0 n1 ⊢
  have fW : Fr w W := by rw [hW]; exact (Fr.alloc _ _).trans (Fr.alloc _ _)
  clear hW
  have hs := hs.fr fW
  have := Later.some W
  obtain ⟨b, hb⟩ : ∃ b, b = claB e0 e1 := ⟨_, rfl⟩
  have t0 := fun w => toEvent_any e0 w
  have t1 := fun w => toEvent_any e1 w
  have cs := fun w => specCla_any e0 e1 w
  have ci := fun w h => implCla_any e0 e1 w h
  simp only [← hb] at cs ci
  clear hb
  have c0 : ∀ s : Later W, s.u.cell? ⟨w.heap.size, 0, none⟩ = some (.int .i64 e0.k) := fun s => (n0.fr s.fr).1
  have c1 : ∀ s : Later W, s.u.cell? ⟨w.heap.size, 1, none⟩ = some (.int .i64 e0.g) := fun s => (n0.fr s.fr).2.1
  have c2 : ∀ s : Later W, s.u.cell? ⟨w.heap.size, 2, none⟩ = some (.int .i64 e0.o) := fun s => (n0.fr s.fr).2.2.1
  have c3 : ∀ s : Later W, s.u.cell? ⟨w.heap.size, 3, none⟩ = some (.int .i64 e0.w) := fun s => (n0.fr s.fr).2.2.2.1
  have c4 : ∀ s : Later W, s.u.cell? ⟨w.heap.size, 4, none⟩ = some (.int .i64 e0.l) := fun s => (n0.fr s.fr).2.2.2.2.1
  have c5 : ∀ s : Later W, s.u.cell? ⟨w.heap.size, 5, none⟩ = some (.int .i64 e0.s) := fun s => (n0.fr s.fr).2.2.2.2.2.1
  have c6 : ∀ s : Later W, s.u.cell? ⟨w.heap.size, 6, none⟩ = some (.int .i64 e0.f) := fun s => (n0.fr s.fr).2.2.2.2.2.2.1
  have c7 : ∀ s : Later W, s.u.cell? ⟨w.heap.size, 7, none⟩ = some (.int .i64 e0.t) := fun s => (n0.fr s.fr).2.2.2.2.2.2.2
  have d0 : ∀ s : Later W, s.u.cell? ⟨w.heap.size + 1, 0, none⟩ = some (.int .i64 e1.k) := fun s => (n1.fr s.fr).1
  have d1 : ∀ s : Later W, s.u.cell? ⟨w.heap.size + 1, 1, none⟩ = some (.int .i64 e1.g) := fun s => (n1.fr s.fr).2.1
  have d2 : ∀ s : Later W, s.u.cell? ⟨w.heap.size + 1, 2, none⟩ = some (.int .i64 e1.o) := fun s => (n1.fr s.fr).2.2.1
  have d3 : ∀ s : Later W, s.u.cell? ⟨w.heap.size + 1, 3, none⟩ = some (.int .i64 e1.w) := fun s => (n1.fr s.fr).2.2.2.1
  have d4 : ∀ s : Later W, s.u.cell? ⟨w.heap.size + 1, 4, none⟩ = some (.int .i64 e1.l) := fun s => (n1.fr s.fr).2.2.2.2.1
  have d5 : ∀ s : Later W, s.u.cell? ⟨w.heap.size + 1, 5, none⟩ = some (.int .i64 e1.s) := fun s => (n1.fr s.fr).2.2.2.2.2.1
  have d6 : ∀ s : Later W, s.u.cell? ⟨w.heap.size + 1, 6, none⟩ = some (.int .i64 e1.f) := fun s => (n1.fr s.fr).2.2.2.2.2.2.1
  have d7 : ∀ s : Later W, s.u.cell? ⟨w.heap.size + 1, 7, none⟩ = some (.int .i64 e1.t) := fun s => (n1.fr s.fr).2.2.2.2.2.2.2
  refine wp_region_grown (by kernel_rfl) (by kernel_rfl) ?_
  repeat (go_big_quiet_step (first | with_reducible exact Calls.grown_of (t0 _) | with_reducible exact Calls.grown_of (t1 _) | with_reducible exact Calls.grown_of (cs _)))
  refine wpQuiet_nil ?_
  rintro _ ⟨s1, rfl⟩
  have f1 := s1.fr
  go_wp2_with fail
  have g0 : ∀ s : Later s1.u, s.u.cell? ⟨w.heap.size, 0, none⟩ = some (.int .i64 e0.k) := fun s => c0 ⟨s.u, f1.trans s.fr⟩
  have g1 : ∀ s : Later s1.u, s.u.cell? ⟨w.heap.size, 1, none⟩ = some (.int .i64 e0.g) := fun s => c1 ⟨s.u, f1.trans s.fr⟩
  have g2 : ∀ s : Later s1.u, s.u.cell? ⟨w.heap.size, 2, none⟩ = some (.int .i64 e0.o) := fun s => c2 ⟨s.u, f1.trans s.fr⟩
  have g3 : ∀ s : Later s1.u, s.u.cell? ⟨w.heap.size, 3, none⟩ = some (.int .i64 e0.w) := fun s => c3 ⟨s.u, f1.trans s.fr⟩
  have g4 : ∀ s : Later s1.u, s.u.cell? ⟨w.heap.size, 4, none⟩ = some (.int .i64 e0.l) := fun s => c4 ⟨s.u, f1.trans s.fr⟩
  have g5 : ∀ s : Later s1.u, s.u.cell? ⟨w.heap.size, 5, none⟩ = some (.int .i64 e0.s) := fun s => c5 ⟨s.u, f1.trans s.fr⟩
  have g6 : ∀ s : Later s1.u, s.u.cell? ⟨w.heap.size, 6, none⟩ = some (.int .i64 e0.f) := fun s => c6 ⟨s.u, f1.trans s.fr⟩
  have g7 : ∀ s : Later s1.u, s.u.cell? ⟨w.heap.size, 7, none⟩ = some (.int .i64 e0.t) := fun s => c7 ⟨s.u, f1.trans s.fr⟩
  have j0 : ∀ s : Later s1.u, s.u.cell? ⟨w.heap.size + 1, 0, none⟩ = some (.int .i64 e1.k) := fun s => d0 ⟨s.u, f1.trans s.fr⟩
  have j1 : ∀ s : Later s1.u, s.u.cell? ⟨w.heap.size + 1, 1, none⟩ = some (.int .i64 e1.g) := fun s => d1 ⟨s.u, f1.trans s.fr⟩
  have j2 : ∀ s : Later s1.u, s.u.cell? ⟨w.heap.size + 1, 2, none⟩ = some (.int .i64 e1.o) := fun s => d2 ⟨s.u, f1.trans s.fr⟩
  have j3 : ∀ s : Later s1.u, s.u.cell? ⟨w.heap.size + 1, 3, none⟩ = some (.int .i64 e1.w) := fun s => d3 ⟨s.u, f1.trans s.fr⟩
  have j4 : ∀ s : Later s1.u, s.u.cell? ⟨w.heap.size + 1, 4, none⟩ = some (.int .i64 e1.l) := fun s => d4 ⟨s.u, f1.trans s.fr⟩
  have j5 : ∀ s : Later s1.u, s.u.cell? ⟨w.heap.size + 1, 5, none⟩ = some (.int .i64 e1.s) := fun s => d5 ⟨s.u, f1.trans s.fr⟩
  have j6 : ∀ s : Later s1.u, s.u.cell? ⟨w.heap.size + 1, 6, none⟩ = some (.int .i64 e1.f) := fun s => d6 ⟨s.u, f1.trans s.fr⟩
  have j7 : ∀ s : Later s1.u, s.u.cell? ⟨w.heap.size + 1, 7, none⟩ = some (.int .i64 e1.t) := fun s => d7 ⟨s.u, f1.trans s.fr⟩
  have := Later.some s1.u
  have ci2 := fun (s : Later s1.u) => ci s.u (hs.fr (f1.trans s.fr))
  clear c0 c1 c2 c3 c4 c5 c6 c7 d0 d1 d2 d3 d4 d5 d6 d7 n0 n1 cs ci
  refine wp_region_grown (by kernel_rfl) (by kernel_rfl) ?_
  repeat (go_big_quiet_step (first | with_reducible exact Calls.grown_of (t0 _) | with_reducible exact Calls.grown_of (t1 _) | with_reducible exact Calls.grown_of (ci2 _)))
  refine wpQuiet_nil ?_
  rintro _ ⟨s2, rfl⟩
  go_wp2_with fail
  go_ret
  exact ⟨rfl, ((fW.trans f1).trans s2.fr).below⟩

theorem own : ownKnob Tryd.prog.godebug = none := by kernel_rfl
theorem laidOut : laidOutB Tryd.prog = true := by kernel_rfl
theorem met (os : Os) (args : Array Value) : laidMetH Tryd.prog Rows.fnExactClashingRow.laid ((World.doorLaid Tryd.prog 400 os).forCall (fun _ _ => 0) ⟨#[], args, []⟩).memory :=
  laidMetH_of_parts3 (fuel := 8) (laidMet_of_run' 8 (by kernel_rfl) (by kernel_rfl)) (by kernel_rfl) (by kernel_rfl)
theorem tables {W : World} (h : laidMetH Tryd.prog Rows.fnExactClashingRow.laid W) : Shapes W := by
  rw [MakeChecks.laidMetH_plain _ _ _ (by kernel_rfl)] at h
  obtain ⟨ps, hl, -⟩ := h
  exact shapes_of hl

set_option maxRecDepth 100000 in
theorem lifted (os : Os) (started : os.Started) (H : Type) (enc : TypeId × Value → H) :
    ReturnsInHanded {} Tryd.checked os 8 .any (fun w args => (Rows.fnExactClashingSpec.pre enc Tryd.prog Tryd.f8 [] false w args ∧ laidMetH Tryd.prog Rows.fnExactClashingRow.laid w) ∧ sizedMet enc Tryd.prog Tryd.f8 (OpenSpec.ofChange Rows.fnExactClashingSpec) false w args)
      (Rows.fnExactClashingSpec.post enc Tryd.prog Tryd.f8 false true false false) := by
  refine returnsInHanded_of_change_and (C := Tryd.checked) (X := fun w _ => laidMetH Tryd.prog Rows.fnExactClashingRow.laid w) (fun _ _ _ hh h => h.of_heap hh) own started (by kernel_rfl) Tryd.func8
    (ChangeSpec.witness_shaped (enc := enc) (C := Tryd.checked) (os := os) (X := fun w _ => laidMetH Tryd.prog Rows.fnExactClashingRow.laid w) false (World.doorLaid Tryd.prog 400 os) #[.agg #[.int .i64 0, .int .i64 0, .int .i64 0, .int .i64 0, .int .i64 0, .int .i64 0, .int .i64 0, .int .i64 0], .agg #[.int .i64 0, .int .i64 0, .int .i64 0, .int .i64 0, .int .i64 0, .int .i64 0, .int .i64 0, .int .i64 0]] 8 rfl (World.shaped_of_RefB (by kernel_rfl) (by kernel_rfl)) (by kernel_rfl) (by kernel_rfl) (by kernel_rfl) (met os _)) ?_
  intro W base args ds gs before hval0 hW _ _ hL _
  have hval : ∀ (j : Nat) t v, Tryd.f8.params[j]? = some t → args[j]? = some v → Value.okWide Tryd.prog W .any base t v := hval0
  have hW' := hW
  obtain ⟨p, q, hA0, hV, rfl, hfz, hnd⟩ := hW
  have hA : DataW.TrodAll enc Tryd.prog W 0 (fun _ => true) true Tryd.f8.params.toList args.toList ds p := hA0
  rw [Tryd.params8] at hA hval
  obtain ⟨v0, vs0, d0, ds0, p0, q0, hargs, rfl, rfl, h0, r0⟩ := trodAll_cons hA
  obtain ⟨v1, vs1, d1, ds1, p1, q1, rfl, rfl, rfl, h1, r1⟩ := trodAll_cons r0
  obtain ⟨rfl, rfl, rfl⟩ := trodAll_nil r1
  obtain rfl : args = #[v0, v1] := by cases args; simp_all
  have k0 := h0
  have lt0 : ∀ x ∈ p0, x.block < W.heap.size := by obtain ⟨m, hm⟩ := k0; exact DataW.trod_lt m _ _ _ hm
  have k1 := h1
  have lt1 : ∀ x ∈ p1, x.block < W.heap.size := by obtain ⟨m, hm⟩ := k1; exact DataW.trod_lt m _ _ _ hm
  obtain ⟨e0, rfl, i0⟩ := ev_of_arg (hval 0 31 v0 rfl rfl) h0
  obtain ⟨e1, rfl, i1⟩ := ev_of_arg (hval 1 31 v1 rfl rfl) h1
  clear hA0 hval0
  refine (walk e0 e1 W i0 i1 (tables hL)).mono fun e W' ⟨he, bel⟩ => ?_
  subst he
  match gs, hV with
  | [g1], hV =>
    exact ⟨_, rfl, _, _, _, [], _, _, hW', trodAll_mk1 (shut_bool Tryd.underlying4 _), (trodAll_cons_mk (Below.trod laidOut (by kernel_rfl) (of_decide_eq_true (by kernel_rfl)) k0 bel lt0) (trodAll_cons_mk (Below.trod laidOut (by kernel_rfl) (of_decide_eq_true (by kernel_rfl)) k1 bel lt1) trodAll_mk0)), Below.trodVars laidOut bel (by kernel_rfl) hV, bel.frame _, fun h => by cases h⟩

theorem over : Rows.fnExactClashingRow.holds Tryd.pinned (OpenSpec.ofChange Rows.fnExactClashingSpec) :=
  OpenClaim.holds_of_wide 8 Tryd.f8 rfl rfl rfl rfl rfl rfl rfl ⟨rfl, rfl, rfl, rfl, rfl⟩ rfl rfl rfl rfl rfl (by kernel_rfl) Tryd.func8 (by kernel_rfl)
    (of_decide_eq_true (by kernel_rfl)) (by unfold Func.isWrapper; first | (rw [if_pos (by decide +kernel)]; kernel_rfl) | (rw [if_neg (by decide +kernel)]; exact ⟨rfl, rfl⟩))
    (fun os started H enc _ => lifted os started H enc)

theorem carded : Rows.FnExactClashingCardSaid :=
  Claim7.holds_tied_plain_at .later [] [.data] true (true, "3d8a6a67e4866b239fd1b975a95611639c4f8ff095bc05afdacdeb57ea2a4ca8") false
    over (fun _ h => by cases h) (by kernel_rfl) (fun _ h => by cases h) fnExactClashing_row_tie rfl ⟨rfl, rfl⟩ (by kernel_rfl) rfl
    (fun f fn hf hfn => by
      obtain rfl : f = 8 := Option.some.inj ((show Tryd.prog.funcNamed "loop.example/g00720/laws.FnExactClashing" = some 8 by kernel_rfl).symm.trans hf) |>.symm
      obtain rfl : fn = Tryd.f8 := (Option.some.inj (Tryd.func8.symm.trans hfn)).symm
      exact ⟨by kernel_rfl, fun j t ht => by
        rw [Tryd.params8] at ht
        have hm : t ∈ [31, 31] := by simpa using Array.mem_of_getElem? ht
        have hall : ([31, 31].all fun u => !Tryd.prog.wantsStandIn u) = true := by kernel_rfl
        exact (show Tryd.prog.wantsStandIn t = false by simpa using List.all_eq_true.1 hall t hm)⟩)
    (by kernel_rfl)
end Go.Proofs.YtimnoajphgljfaaDoor.fnExactClashing
namespace Go.Proofs.YtimnoajphgljfaaDoor
theorem fnExactClashing_holds : Rows.FnExactClashingCardSaid := fnExactClashing.carded
end Go.Proofs.YtimnoajphgljfaaDoor
