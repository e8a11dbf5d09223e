/-
  The law FnExactSceneAfter answers true at every list of events (the program's table lying as its text lays it), and leaves it as it was.
-/
import Derived.Test.YtikjodbboljhjaaGreatDoorRows
import Derived.Test.YtikjodbboljhjaaGreatDoorCards
import Derived.Test.YtikjodbboljhjaaGreatDoorTie
import Derived.Test.YtikjodbboljhjaaGreatDoorPackAA
import Derived.Test.YtikjodbboljhjaaGreatDoorPackAB
import Derived.Test.YtikjodbboljhjaaGreatDoorPackAQ
import Derived.WalkKit
import Derived.ProofKit
import Derived.OpenShut
import Derived.LaidMore
import Derived.Stop.Joined
import Derived.OpenVars
import Derived.SevenTiedAt
namespace Go.Proofs.YtikjodbboljhjaaGreatDoor.fnExactSceneAfter
open Go.ChangeShapes Go.WideShapes Go.ChangeAt Go.RowKit
set_option linter.unusedVariables false

set_option maxHeartbeats 8000000 in
set_option maxRecDepth 20000 in
theorem walk (a0 : Option Addr) (len0 cap0 : Nat) (w : World) (w0 : IsEvs w a0 len0) (hs : Shapes w) :
    Calls Tryz.prog 7 #[.slice a0 len0 cap0] w fun e w' => e = .returned (.bool true) ∧ Below w.heap.size w w' := by
  obtain ⟨hm, es, rfl, hr⟩ := w0
  have hcap : es.length ≤ 9223372036854775807 := by unfold maxLen at hm; omega
  have cZ := fun w => sz_any a0 es.length cap0 w hcap
  by_cases hbig : es.length ≤ 1048576
  · rw [if_pos hbig] at cZ
    have hr := hr (by omega)
    have cT := fun w h => toEs_any a0 es.length cap0 es w rfl h
    have cS := fun ao c w h => specAfter_any ao es.length c es w rfl h
    have cI := fun ao c w h hs hab => implAfterM_any ao es.length c es w rfl h hs hab
    have cE := fun ao bo c d w h h' => eqEs_same ao bo es.length c d es w rfl h h'
    have cM := fun g c base w h => markEs_any g es.length c base 1 es w rfl (by omega) (by omega) h (by omega)
    have hK : ((1 + 8 * (es.length : Int)) < 0) = False := by simp; omega
    obtain ⟨kk, hkk⟩ : ∃ kk, kk = 1 + 8 * (es.length : Int) := ⟨_, rfl⟩
    rw [← hkk] at hK
    simp only [← hkk] at cM
    clear hkk
    obtain ⟨J, hJ⟩ : ∃ J, J = aftB es := ⟨_, rfl⟩
    obtain ⟨M, hM⟩ : ∃ M, M = aftS es := ⟨_, rfl⟩
    simp only [← hJ, ← hM] at cS cI
    clear hJ hM hm hcap
    have hne : (J != J) = false := by simp
    go_enter Tryz.func7, Tryz.ntmps7
    go_wp2_with fail
    refine (cZ _).mono ?_
    rintro e u0 ⟨rfl, rfl⟩
    clear cZ
    go_wp2_with fail
    refine (cT _ hr).mono ?_
    rintro e u1 ⟨v1, rfl, o1, f1⟩
    obtain ⟨g1, c1, rfl, o1, hl1⟩ := o1
    go_wp2_with fail
    refine (cS _ _ _ (own_readsE o1 hl1)).mono ?_
    rintro e u2 ⟨⟨tg, tlo, tll, tlc, tco, tcl, tcc, tno, tnl, tnc, too, tol, toc⟩, Bt, rfl, T2, f2, -⟩
    have fA := Fr.alloc u2 (.cells #[.int .i64 tg, .slice tlo tll tlc, .slice tco tcl tcc, .slice tno tnl tnc, .slice too tol toc] 29)
    have kT := ScK.new u2 ⟨tg, tlo, tll, tlc, tco, tcl, tcc, tno, tnl, tnc, too, tol, toc⟩
    simp only at kT
    have T := T2.fr fA
    have F2 := f1.trans (f2.trans fA)
    clear o1 f1 f2 cS hl1 T2 fA
    go_wp2_with fail
    obtain ⟨V, hV⟩ : ∃ V, V = u2.alloc (.cells #[.int .i64 tg, .slice tlo tll tlc, .slice tco tcl tcc, .slice tno tnl tnc, .slice too tol toc] 29) := ⟨_, rfl⟩
    rw [← hV] at kT T F2 ⊢
    obtain ⟨tb, htb⟩ : ∃ tb, tb = u2.heap.size := ⟨_, rfl⟩
    rw [← htb] at kT ⊢
    clear hV htb
    have hsV := hs.fr F2
    have hrV := hr.fr F2
    have tlt := kT.lt
    have KT : Hid (∀ u, Fr V u → ScB u tb ⟨tg, tlo, tll, tlc, tco, tcl, tcc, tno, tnl, tnc, too, tol, toc⟩) := fun u f => (kT.fr f).at
    clear hs hr kT
    have HT : Hid (tb < V.heap.size) := tlt
    clear tlt
    refine (cT _ hrV).mono ?_
    rintro x u3 ⟨v3, rfl, ox, f3⟩
    obtain ⟨gx, cx, rfl, ox, hlx⟩ := ox
    have tx := ox.lt gx rfl
    go_wp2_with fail
    refine (cI _ _ _ (own_readsE ox hlx) (hsV.fr f3) (fun k hk => by simp only [blk, Option.map_some, Option.some.injEq] at hk; omega)).mono ?_
    rintro e u4 ⟨⟨sg, lo, ll, lc, co, cl, cc, no, nl, nc, oo, ol, oc⟩, rfl, S4, f4, Y4⟩
    have fA := Fr.alloc u4 (.cells #[.int .i64 sg, .slice lo ll lc, .slice co cl cc, .slice no nl nc, .slice oo ol oc] 29)
    have kS := ScK.new u4 ⟨sg, lo, ll, lc, co, cl, cc, no, nl, nc, oo, ol, oc⟩
    simp only at kS
    have ox := ox.kept (f4.trans fA) (by simp [Value.ownBlock])
    have S5 := S4.fr fA
    have Y5 := Y4.fr fA
    have F5 := f3.trans (f4.trans fA)
    obtain ⟨t0, t1, t2, t3, t4⟩ := KT.out _ F5
    simp only at t0 t1 t2 t3 t4
    go_wp2_with fail
    obtain ⟨U, hU⟩ : ∃ U, U = u4.alloc (.cells #[.int .i64 sg, .slice lo ll lc, .slice co cl cc, .slice no nl nc, .slice oo ol oc] 29) := ⟨_, rfl⟩
    rw [← hU] at kS ox S5 Y5 F5 ⊢
    obtain ⟨sb, hsb⟩ : ∃ sb, sb = u4.heap.size := ⟨_, rfl⟩
    simp only [← hsb] at kS S5 Y5 ⊢
    clear hU t0 t1 t2 t3 t4 S4 Y4
    have HB : Hid (u3.heap.size ≤ sb ∧ V.heap.size ≤ gx ∧ gx < u3.heap.size ∧ V.heap.size ≤ u3.heap.size) := by
      have := f3.size
      have := f4.size
      exact ⟨by omega, by omega, by omega, by omega⟩
    clear fA f3 f4 hsb tx
    refine (eqScene_same ⟨sg, lo, ll, lc, co, cl, cc, no, nl, nc, oo, ol, oc⟩ ⟨tg, tlo, tll, tlc, tco, tcl, tcc, tno, tnl, tnc, too, tol, toc⟩ M _ S5 (T.fr F5)).mono ?_
    rintro x u6 ⟨rfl, f6⟩
    have F6 := F5.trans f6
    have kS := kS.fr f6
    have S6 := S5.fr f6
    have Y6 := Y5.fr f6
    have ox := ox.kept f6 (by simp [Value.ownBlock])
    clear F5 S5 Y5 f6
    go_wp2_with fail
    refine (cT _ (hrV.fr F6)).mono ?_
    rintro e u7 ⟨v7, rfl, o7, f7⟩
    obtain ⟨g7, c7, rfl, o7, hl7⟩ := o7
    have ox := ox.kept f7 (by simp [Value.ownBlock])
    go_wp2_with fail
    refine (cE _ _ _ _ _ (own_readsE ox hlx) (own_readsE o7 hl7)).mono ?_
    rintro e u8 ⟨rfl, f8⟩
    have f78 := f7.trans f8
    have F8 := F6.trans f78
    have kS := kS.fr f78
    have S8 := S6.fr f78
    have Y8 := Y6.fr f78
    have ox := ox.kept f8 (by simp [Value.ownBlock])
    clear F6 S6 Y6 f7 f8 f78 o7 hl7
    go_wp2_with fail
    refine (cM _ _ _ _ ox).mono ?_
    rintro e u9 ⟨rfl, -, g9⟩
    have F9 := F8.then g9 (fun j hj => by cases hj; exact HB.out.2.1)
    have kS := kS.keep g9 (fun e => by cases e; have := HB.out; omega)
    have S9 := S8.keep g9 (fun j hj q => by cases hj; have := HB.out; omega)
    have Y9 := Y8.keep g9 HB.out.2.2.1
    clear F8 S8 Y8 g9 ox
    obtain ⟨s0, s1, s2, s3, s4⟩ := kS.at
    obtain ⟨t0, t1, t2, t3, t4⟩ := KT.out _ F9
    simp only at s0 s1 s2 s3 s4 t0 t1 t2 t3 t4
    go_wp2_with fail
    refine (eqScene_same ⟨sg, lo, ll, lc, co, cl, cc, no, nl, nc, oo, ol, oc⟩ ⟨tg, tlo, tll, tlc, tco, tcl, tcc, tno, tnl, tnc, too, tol, toc⟩ M _ S9 (T.fr F9)).mono ?_
    rintro x u10 ⟨rfl, f10⟩
    clear s0 s1 s2 s3 s4 t0 t1 t2 t3 t4
    have F10 := F9.trans f10
    have kS := kS.fr f10
    have S10 := S9.fr f10
    have Y10 := Y9.fr f10
    clear F9 S9 Y9 f10
    obtain ⟨s0, s1, s2, s3, s4⟩ := kS.at
    simp only at s0 s1 s2 s3 s4
    go_wp2_with fail
    refine (markS_any ⟨sg, lo, ll, lc, co, cl, cc, no, nl, nc, oo, ol, oc⟩ M _ S10 Y10).mono ?_
    rintro e u11 ⟨lvs, rfl, H11, f11⟩
    clear s0 s1 s2 s3 s4 S10 Y10
    have F11 := F10.thenS f11 (fun j q => by have := HB.out; omega)
    have kS : ScK u11 sb ⟨sg, lo, ll, lc, co, cl, cc, no, nl, nc, oo, ol, oc⟩ := (f11.block sb kS.lt (fun q => by omega)).trans kS
    clear F10 f11
    have b1 : (endS ⟨sg, lo, ll, lc, co, cl, cc, no, nl, nc, oo, ol, oc⟩ lvs < 0) = False := by
      have := endS_pos ⟨sg, lo, ll, lc, co, cl, cc, no, nl, nc, oo, ol, oc⟩ lvs
      simp only [eq_iff_iff, iff_false]
      omega
    have cH := fun u h => heldScene_any ⟨sg, lo, ll, lc, co, cl, cc, no, nl, nc, oo, ol, oc⟩ lvs u h
    obtain ⟨K, hK2⟩ : ∃ K, K = endS ⟨sg, lo, ll, lc, co, cl, cc, no, nl, nc, oo, ol, oc⟩ lvs := ⟨_, rfl⟩
    simp only [← hK2] at cH b1 ⊢
    clear hK2
    have b2 : (K != K) = false := by simp
    obtain ⟨s0, s1, s2, s3, s4⟩ := kS.at
    simp only at s0 s1 s2 s3 s4
    go_wp2_with fail
    refine (cH _ H11).mono ?_
    rintro e u12 ⟨rfl, f12⟩
    clear s0 s1 s2 s3 s4
    have F12 := F11.trans f12
    have kS := kS.fr f12
    have H12 := H11.fr f12
    clear F11 f12 H11
    go_wp2_with fail
    refine (cT _ (hrV.fr F12)).mono ?_
    rintro e u13 ⟨v13, rfl, o13, f13⟩
    obtain ⟨g13, c13, rfl, o13, hl13⟩ := o13
    have t13 := o13.lt g13 rfl
    go_wp2_with fail
    refine (cI _ _ _ (own_readsE o13 hl13) (hsV.fr (F12.trans f13)) (fun k hk => by simp only [blk, Option.map_some, Option.some.injEq] at hk; omega)).mono ?_
    rintro e u14 ⟨⟨hg, hlo, hll, hlc, hco, hcl, hcc, hno, hnl, hnc, hoo, hol, hoc⟩, rfl, Q14, f14, -⟩
    have fA := Fr.alloc u14 (.cells #[.int .i64 hg, .slice hlo hll hlc, .slice hco hcl hcc, .slice hno hnl hnc, .slice hoo hol hoc] 29)
    have f15 := f13.trans (f14.trans fA)
    have F15 := F12.trans f15
    have kS := kS.fr f15
    have H15 := H12.fr f15
    have Q15 := Q14.fr fA
    clear f13 f14 F12 H12 Q14 t13 o13 hl13 cI cT fA f15
    obtain ⟨t0, t1, t2, t3, t4⟩ := KT.out _ F15
    simp only at t0 t1 t2 t3 t4
    go_wp2_with fail
    obtain ⟨U2, hU2⟩ : ∃ U, U = u14.alloc (.cells #[.int .i64 hg, .slice hlo hll hlc, .slice hco hcl hcc, .slice hno hnl hnc, .slice hoo hol hoc] 29) := ⟨_, rfl⟩
    rw [← hU2] at kS H15 F15 Q15 ⊢
    clear hU2 t0 t1 t2 t3 t4
    refine (eqScene_same ⟨hg, hlo, hll, hlc, hco, hcl, hcc, hno, hnl, hnc, hoo, hol, hoc⟩ ⟨tg, tlo, tll, tlc, tco, tcl, tcc, tno, tnl, tnc, too, tol, toc⟩ M _ Q15 (T.fr F15)).mono ?_
    rintro x u16 ⟨rfl, f16⟩
    have F16 := F15.trans f16
    have kS := kS.fr f16
    have H16 := H15.fr f16
    clear F15 H15 Q15 f16
    obtain ⟨s0, s1, s2, s3, s4⟩ := kS.at
    simp only at s0 s1 s2 s3 s4
    go_wp2_with fail
    refine (cH _ H16).mono ?_
    rintro e u17 ⟨rfl, f17⟩
    go_wp2_with fail
    go_ret
    exact ⟨rfl, (F2.trans (F16.trans f17)).below⟩
  · rw [if_neg hbig] at cZ
    go_enter Tryz.func7, Tryz.ntmps7
    go_wp2_with fail
    refine (cZ _).mono ?_
    rintro e u0 ⟨rfl, rfl⟩
    go_wp2_with fail
    go_ret
    exact ⟨rfl, (Fr.refl _).below⟩

theorem own : ownKnob Tryz.prog.godebug = none := by kernel_rfl
theorem laidOut : laidOutB Tryz.prog = true := by kernel_rfl
theorem met (os : Os) (args : Array Value) : laidMetH Tryz.prog Rows.fnExactSceneAfterRow.laid ((World.doorLaid Tryz.prog 400 os).forCall (fun _ _ => 0) ⟨#[], args, []⟩).memory :=
  laidMetH_of_parts3 (fuel := 8) (laidMet_of_run' 8 (by kernel_rfl) (by kernel_rfl)) (by kernel_rfl) (by kernel_rfl)
theorem tables {W : World} (h : laidMetH Tryz.prog Rows.fnExactSceneAfterRow.laid W) : Shapes W := by
  rw [MakeChecks.laidMetH_plain _ _ _ (by kernel_rfl)] at h
  obtain ⟨ps, hl, -⟩ := h
  exact shapes_of hl

set_option maxRecDepth 100000 in
theorem lifted (os : Os) (started : os.Started) (H : Type) (enc : TypeId × Value → H) :
    ReturnsInHanded {} Tryz.checked os 7 .any (fun w args => (Rows.fnExactSceneAfterSpec.pre enc Tryz.prog Tryz.f7 [] false w args ∧ laidMetH Tryz.prog Rows.fnExactSceneAfterRow.laid w) ∧ sizedMet enc Tryz.prog Tryz.f7 (OpenSpec.ofChange Rows.fnExactSceneAfterSpec) false w args)
      (Rows.fnExactSceneAfterSpec.post enc Tryz.prog Tryz.f7 false true false false) := by
  refine returnsInHanded_of_change_and (C := Tryz.checked) (X := fun w _ => laidMetH Tryz.prog Rows.fnExactSceneAfterRow.laid w) (fun _ _ _ hh h => h.of_heap hh) own started (by kernel_rfl) Tryz.func7
    (ChangeSpec.witness_shaped (enc := enc) (C := Tryz.checked) (os := os) (X := fun w _ => laidMetH Tryz.prog Rows.fnExactSceneAfterRow.laid w) false (World.doorLaid Tryz.prog 400 os) #[.slice none 0 0] 8 rfl (World.shaped_of_RefB (by kernel_rfl) (by kernel_rfl)) (by kernel_rfl) (by kernel_rfl) (by kernel_rfl) (met os _)) ?_
  intro W base args ds gs before hval0 hW _ _ hL _
  have hval : ∀ (j : Nat) t v, Tryz.f7.params[j]? = some t → args[j]? = some v → Value.okWide Tryz.prog W .any base t v := hval0
  have hW' := hW
  obtain ⟨p, q, hA0, hV, rfl, hfz, hnd⟩ := hW
  have hA : DataW.TrodAll enc Tryz.prog W 0 (fun _ => true) true Tryz.f7.params.toList args.toList ds p := hA0
  rw [Tryz.params7] at hA hval
  obtain ⟨v0, vs0, d0, ds0, p0, q0, hargs, rfl, rfl, h0, r0⟩ := trodAll_cons hA
  obtain ⟨rfl, rfl, rfl⟩ := trodAll_nil r0
  obtain rfl : args = #[v0] := by cases args; simp_all
  have k0 := h0
  have lt0 : ∀ x ∈ p0, x.block < W.heap.size := by obtain ⟨m, hm⟩ := k0; exact DataW.trod_lt m _ _ _ hm
  obtain ⟨a0, len0, cap0, rfl⟩ := okWide_slice Tryz.underlying62 (hval 0 62 v0 rfl rfl)
  have w0 : IsEvs W a0 len0 := evs_of_arg h0
  clear hA0 hval0
  refine (walk a0 len0 cap0 W w0 (tables hL)).mono fun e W' ⟨he, bel⟩ => ?_
  subst he
  match gs, hV with
  | [g1], hV =>
    exact ⟨_, rfl, _, _, _, [], _, _, hW', trodAll_mk1 (shut_bool Tryz.underlying4 _), (trodAll_cons_mk (Below.trod laidOut (by kernel_rfl) (of_decide_eq_true (by kernel_rfl)) k0 bel lt0) trodAll_mk0), Below.trodVars laidOut bel (by kernel_rfl) hV, bel.frame _, fun h => by cases h⟩

theorem over : Rows.fnExactSceneAfterRow.holds Tryz.pinned (OpenSpec.ofChange Rows.fnExactSceneAfterSpec) :=
  OpenClaim.holds_of_wide 7 Tryz.f7 rfl rfl rfl rfl rfl rfl rfl ⟨rfl, rfl, rfl, rfl, rfl⟩ rfl rfl rfl rfl rfl (by kernel_rfl) Tryz.func7 (by kernel_rfl)
    (of_decide_eq_true (by kernel_rfl)) (by unfold Func.isWrapper; first | (rw [if_pos (by decide +kernel)]; kernel_rfl) | (rw [if_neg (by decide +kernel)]; exact ⟨rfl, rfl⟩))
    (fun os started H enc _ => lifted os started H enc)

theorem carded : Rows.FnExactSceneAfterCardSaid :=
  Claim7.holds_tied_plain_at .later [] [.data] true (true, "1f89551fe2845b3d109e8a68699ff469b74949afc87ff99408cf409afb2a040e") false
    over (fun _ h => by cases h) (by kernel_rfl) (fun _ h => by cases h) fnExactSceneAfter_row_tie rfl ⟨rfl, rfl⟩ (by kernel_rfl) rfl
    (fun f fn hf hfn => by
      obtain rfl : f = 7 := Option.some.inj ((show Tryz.prog.funcNamed "loop.example/g00720/laws.FnExactSceneAfter" = some 7 by kernel_rfl).symm.trans hf) |>.symm
      obtain rfl : fn = Tryz.f7 := (Option.some.inj (Tryz.func7.symm.trans hfn)).symm
      exact ⟨by kernel_rfl, fun j t ht => by
        rw [Tryz.params7] at ht
        have hm : t ∈ [62] := by simpa using Array.mem_of_getElem? ht
        have hall : ([62].all fun u => !Tryz.prog.wantsStandIn u) = true := by kernel_rfl
        exact (show Tryz.prog.wantsStandIn t = false by simpa using List.all_eq_true.1 hall t hm)⟩)
    (by kernel_rfl)
end Go.Proofs.YtikjodbboljhjaaGreatDoor.fnExactSceneAfter
namespace Go.Proofs.YtikjodbboljhjaaGreatDoor
theorem fnExactSceneAfter_holds : Rows.FnExactSceneAfterCardSaid := fnExactSceneAfter.carded
end Go.Proofs.YtikjodbboljhjaaGreatDoor
