/-
  The law FnExactTouchesOf answers true at every list of events and every number j (the program's table lying as its text lays it), and leaves its arguments as they were.
-/
import Derived.Test.YtihdablgnmkjnaaGreatDoorRows
import Derived.Test.YtihdablgnmkjnaaGreatDoorCards
import Derived.Test.YtihdablgnmkjnaaGreatDoorTie
import Derived.Test.YtihdablgnmkjnaaGreatDoorPackAA
import Derived.Test.YtihdablgnmkjnaaGreatDoorPackAB
import Derived.Test.YtihdablgnmkjnaaGreatDoorPackAV
import Derived.Test.YtihdablgnmkjnaaGreatDoorPackAU
import Derived.WalkKit
import Derived.ProofKit
import Derived.OpenShut
import Derived.LaidMore
import Derived.Stop.Joined
import Derived.OpenVars
import Derived.SevenTiedAt
namespace Go.Proofs.YtihdablgnmkjnaaGreatDoor.fnExactTouchesOf
open Go.ChangeShapes Go.WideShapes Go.ChangeAt Go.RowKit
set_option linter.unusedVariables false

theorem own_capE {w : World} {base e size g n cap : Nat} {xs : List Value} (h : w.ownsRow base e size (.slice (some ⟨g, 0, none⟩) n cap) n xs) : n ≤ cap := by
  rcases h.2 with ⟨q, _⟩ | ⟨g', c', cur, q, _, _, hnc, _⟩
  · simp at q
  · simp only [Value.slice.injEq] at q
    omega
theorem own_rowAt {w : World} {base e size g n cap : Nat} {xs : List Value} (h : w.ownsRow base e size (.slice (some ⟨g, 0, none⟩) n cap) n xs) : RowAt w g e := by
  rcases h.2 with ⟨q, _⟩ | ⟨g', c', cur, q, _, hg, _⟩
  · simp at q
  · simp only [Value.slice.injEq, Option.some.injEq, Addr.mk.injEq, and_true] at q
    obtain ⟨rfl, -⟩ := q
    exact ⟨cur, hg⟩
theorem touJ_len (es : List Ev) (j : Int) : (touJ es j).length ≤ 2 := by
  unfold touJ
  split
  · exact tch_len _ _
  · simp

set_option maxHeartbeats 4000000 in
set_option maxRecDepth 20000 in
theorem walk (a0 : Option Addr) (len0 cap0 : Nat) (a1 : Int) (w : World) (w0 : IsEvs w a0 len0) (w1 : (Lit.int .i64 a1).wf = true) (hs : Shapes w) :
    Calls Tryz.prog 7 #[.slice a0 len0 cap0, .int .i64 a1] w fun e w' => e = .returned (.bool true) ∧ Below w.heap.size w w' := by
  obtain ⟨hm, es, rfl, hr⟩ := w0
  have hcap : es.length ≤ 9223372036854775807 := by unfold maxLen at hm; omega
  have cZ := fun w => sz_any a0 es.length cap0 w hcap
  by_cases hbig : es.length ≤ 1048576
  · rw [if_pos hbig] at cZ
    have hr := hr (by omega)
    have cT := fun w h => toEs_any a0 es.length cap0 es w rfl h
    have cS := fun ao c w h => specTouches_any ao es.length c es w rfl h a1
    have cI := fun ao c w hc h hs hab => implTouches_any ao es.length c es w rfl hc h a1 hs hab
    have cE := fun ao bo c d w h h' => eqEs_same ao bo es.length c d es w rfl h h'
    have cM := fun g c base w h => markEs_any g es.length c base 1 es w rfl (by omega) (by omega) h (by omega)
    have hK : ((1 + 8 * (es.length : Int)) < 0) = False := by simp; omega
    obtain ⟨kk, hkk⟩ : ∃ kk, kk = 1 + 8 * (es.length : Int) := ⟨_, rfl⟩
    rw [← hkk] at hK
    simp only [← hkk] at cM
    clear hkk
    have hJl : (touJ es a1).length ≤ 2 := touJ_len es a1
    obtain ⟨J, hJ⟩ : ∃ J, J = touJ es a1 := ⟨_, rfl⟩
    rw [← hJ] at hJl
    simp only [← hJ] at cS cI
    clear hJ hm hcap
    have cQ := fun ao bo c d w h h' => eqTouchS_same ao bo J.length c d J w rfl (by omega) h h'
    have cK := fun g c w h hr => markT_any g J.length c 1 J w rfl (by omega) (by omega) (by omega) h hr
    have cH := fun ao c w h => heldT_any ao J.length c 1 w (by omega) (by omega) (by omega) h
    have hK2 : ((1 + 5 * (J.length : Int)) < 0) = False := by simp; omega
    obtain ⟨mm, hmm⟩ : ∃ mm, mm = 1 + 5 * (J.length : Int) := ⟨_, rfl⟩
    rw [← hmm] at hK2
    simp only [← hmm] at cK cH
    clear hmm
    have b2 : (mm != mm) = false := by simp
    go_enter Tryz.func7, Tryz.ntmps7
    go_wp2_with fail
    refine (cZ _).mono ?_
    rintro e u0 ⟨rfl, rfl⟩
    clear cZ
    go_wp2_with fail
    refine (cT _ hr).mono ?_
    rintro e u1 ⟨v1, rfl, o1, f1⟩
    obtain ⟨g1, c1, rfl, o1, hl1⟩ := o1
    go_wp2_with fail
    refine (cS _ _ _ (own_readsE o1 hl1)).mono ?_
    rintro e u2 ⟨v2, rfl, ow, f2⟩
    obtain ⟨gw, cw, rfl, ow, lw⟩ := ow
    have F2 := f1.trans f2
    have sw := (ow.lt gw rfl)
    clear o1 hl1 cS
    go_wp2_with fail
    refine (cT _ (hr.fr F2)).mono ?_
    rintro e u3 ⟨v3, rfl, ox, f3⟩
    obtain ⟨gx, cx, rfl, ox, hlx⟩ := ox
    have tx := ox.lt gx rfl
    have F3 := F2.trans f3
    go_wp2_with fail
    refine (cI _ _ _ (own_capE ox) (own_readsE ox hlx) (hs.fr F3) (fun k hk => by simp only [blk, Option.map_some, Option.some.injEq] at hk; omega)).mono ?_
    rintro e u4 ⟨v4, rfl, og, f4⟩
    obtain ⟨gg, cg, rfl, og, lg⟩ := og
    have tg := og.lt gg rfl
    have F4 := F3.trans f4
    have ow := ow.kept (f3.trans f4) (by simp [Value.ownBlock])
    have ox := ox.kept f4 (by simp [Value.ownBlock])
    have z3 := f3.size
    have z4 := f4.size
    have z1 := f1.size
    have z2 := f2.size
    clear f1 f2 f3 f4 F2 F3
    go_wp2_with fail
    refine (cQ _ _ _ _ _ (own_readsG og lg) (own_readsG ow lw)).mono ?_
    rintro e u5 ⟨rfl, f5⟩
    have F5 := F4.trans f5
    have ow := ow.kept f5 (by simp [Value.ownBlock])
    have ox := ox.kept f5 (by simp [Value.ownBlock])
    have og := og.kept f5 (by simp [Value.ownBlock])
    go_wp2_with fail
    refine (cT _ (hr.fr F5)).mono ?_
    rintro e u7 ⟨v7, rfl, o7, f7⟩
    obtain ⟨g7, c7, rfl, o7, hl7⟩ := o7
    have ox := ox.kept f7 (by simp [Value.ownBlock])
    go_wp2_with fail
    refine (cE _ _ _ _ _ (own_readsE ox hlx) (own_readsE o7 hl7)).mono ?_
    rintro e u8 ⟨rfl, f8⟩
    have F8 := (F5.trans f7).trans f8
    have ow := ow.kept (f7.trans f8) (by simp [Value.ownBlock])
    have og := og.kept (f7.trans f8) (by simp [Value.ownBlock])
    have ox := ox.kept f8 (by simp [Value.ownBlock])
    clear o7 hl7 F4 F5 f5 f7 f8
    go_wp2_with fail
    refine (cM _ _ _ _ ox).mono ?_
    rintro e u9 ⟨rfl, -, k9⟩
    have F9 := F8.then k9 (fun j hj => by cases hj; omega)
    have ow := ow.kept k9 (.inr (by simp only [Value.ownBlock, ne_eq, Option.some.injEq]; omega))
    have og := og.kept k9 (.inr (by simp only [Value.ownBlock, ne_eq, Option.some.injEq]; omega))
    clear k9 ox F8
    go_wp2_with fail
    refine (cQ _ _ _ _ _ (own_readsG og lg) (own_readsG ow lw)).mono ?_
    rintro e u10 ⟨rfl, f10⟩
    have F10 := F9.trans f10
    have ow := ow.kept f10 (by simp [Value.ownBlock])
    have og := og.kept f10 (by simp [Value.ownBlock])
    clear F9 f10
    go_wp2_with fail
    refine (cK _ _ _ (own_readsG og lg) (own_rowAt og)).mono ?_
    rintro e u11 ⟨rfl, H11, -, k11⟩
    have F11 := F10.then k11 (fun j hj => by cases hj; omega)
    have ow := ow.kept k11 (.inr (by simp only [Value.ownBlock, ne_eq, Option.some.injEq]; omega))
    clear k11 og F10
    go_wp2_with fail
    refine (cH _ _ _ H11).mono ?_
    rintro e u12 ⟨rfl, rfl⟩
    go_wp2_with fail
    refine (cT _ (hr.fr F11)).mono ?_
    rintro e u13 ⟨v13, rfl, o13, f13⟩
    obtain ⟨g13, c13, rfl, o13, hl13⟩ := o13
    have t13 := o13.lt g13 rfl
    have F13 := F11.trans f13
    go_wp2_with fail
    refine (cI _ _ _ (own_capE o13) (own_readsE o13 hl13) (hs.fr F13) (fun k hk => by simp only [blk, Option.map_some, Option.some.injEq] at hk; omega)).mono ?_
    rintro e u14 ⟨v14, rfl, oh, f14⟩
    obtain ⟨gh, ch, rfl, oh, lh⟩ := oh
    have F14 := F13.trans f14
    have f134 := f13.trans f14
    have ow := ow.kept f134 (by simp [Value.ownBlock])
    have H14 := H11.fr f134
    clear f13 f14 F13 F11 o13 hl13 H11 f134
    go_wp2_with fail
    refine (cQ _ _ _ _ _ (own_readsG oh lh) (own_readsG ow lw)).mono ?_
    rintro e u15 ⟨rfl, f15⟩
    go_wp2_with fail
    refine (cH _ _ _ (H14.fr f15)).mono ?_
    rintro e u16 ⟨rfl, rfl⟩
    go_wp2_with fail
    go_ret
    exact ⟨rfl, (F14.trans f15).below⟩
  · rw [if_neg hbig] at cZ
    go_enter Tryz.func7, Tryz.ntmps7
    go_wp2_with fail
    refine (cZ _).mono ?_
    rintro e u0 ⟨rfl, rfl⟩
    go_wp2_with fail
    go_ret
    exact ⟨rfl, (Fr.refl _).below⟩

theorem own : ownKnob Tryz.prog.godebug = none := by kernel_rfl
theorem laidOut : laidOutB Tryz.prog = true := by kernel_rfl
theorem met (os : Os) (args : Array Value) : laidMetH Tryz.prog Rows.fnExactTouchesOfRow.laid ((World.doorLaid Tryz.prog 400 os).forCall (fun _ _ => 0) ⟨#[], args, []⟩).memory :=
  laidMetH_of_parts3 (fuel := 8) (laidMet_of_run' 8 (by kernel_rfl) (by kernel_rfl)) (by kernel_rfl) (by kernel_rfl)
theorem tables {W : World} (h : laidMetH Tryz.prog Rows.fnExactTouchesOfRow.laid W) : Shapes W := by
  rw [MakeChecks.laidMetH_plain _ _ _ (by kernel_rfl)] at h
  obtain ⟨ps, hl, -⟩ := h
  exact shapes_of hl

set_option maxRecDepth 100000 in
theorem lifted (os : Os) (started : os.Started) (H : Type) (enc : TypeId × Value → H) :
    ReturnsInHanded {} Tryz.checked os 7 .any (fun w args => (Rows.fnExactTouchesOfSpec.pre enc Tryz.prog Tryz.f7 [] false w args ∧ laidMetH Tryz.prog Rows.fnExactTouchesOfRow.laid w) ∧ sizedMet enc Tryz.prog Tryz.f7 (OpenSpec.ofChange Rows.fnExactTouchesOfSpec) false w args)
      (Rows.fnExactTouchesOfSpec.post enc Tryz.prog Tryz.f7 false true false false) := by
  refine returnsInHanded_of_change_and (C := Tryz.checked) (X := fun w _ => laidMetH Tryz.prog Rows.fnExactTouchesOfRow.laid w) (fun _ _ _ hh h => h.of_heap hh) own started (by kernel_rfl) Tryz.func7
    (ChangeSpec.witness_shaped (enc := enc) (C := Tryz.checked) (os := os) (X := fun w _ => laidMetH Tryz.prog Rows.fnExactTouchesOfRow.laid w) false (World.doorLaid Tryz.prog 400 os) #[.slice none 0 0, .int .i64 0] 8 rfl (World.shaped_of_RefB (by kernel_rfl) (by kernel_rfl)) (by kernel_rfl) (by kernel_rfl) (by kernel_rfl) (met os _)) ?_
  intro W base args ds gs before hval0 hW _ _ hL _
  have hval : ∀ (j : Nat) t v, Tryz.f7.params[j]? = some t → args[j]? = some v → Value.okWide Tryz.prog W .any base t v := hval0
  have hW' := hW
  obtain ⟨p, q, hA0, hV, rfl, hfz, hnd⟩ := hW
  have hA : DataW.TrodAll enc Tryz.prog W 0 (fun _ => true) true Tryz.f7.params.toList args.toList ds p := hA0
  rw [Tryz.params7] at hA hval
  obtain ⟨v0, vs0, d0, ds0, p0, q0, hargs, rfl, rfl, h0, r0⟩ := trodAll_cons hA
  obtain ⟨v1, vs1, d1, ds1, p1, q1, rfl, rfl, rfl, h1, r1⟩ := trodAll_cons r0
  obtain ⟨rfl, rfl, rfl⟩ := trodAll_nil r1
  obtain rfl : args = #[v0, v1] := by cases args; simp_all
  have k0 := h0
  have lt0 : ∀ x ∈ p0, x.block < W.heap.size := by obtain ⟨m, hm⟩ := k0; exact DataW.trod_lt m _ _ _ hm
  have k1 := h1
  have lt1 : ∀ x ∈ p1, x.block < W.heap.size := by obtain ⟨m, hm⟩ := k1; exact DataW.trod_lt m _ _ _ hm
  obtain ⟨a0, len0, cap0, rfl⟩ := okWide_slice Tryz.underlying66 (hval 0 66 v0 rfl rfl)
  have w0 : IsEvs W a0 len0 := evs_of_arg h0
  obtain ⟨a1, rfl, -, -, w1⟩ := open_int Tryz.underlying2 (hval 1 2 v1 rfl rfl) h1
  clear hA0 hval0
  refine (walk a0 len0 cap0 a1 W w0 w1 (tables hL)).mono fun e W' ⟨he, bel⟩ => ?_
  subst he
  match gs, hV with
  | [g1], hV =>
    exact ⟨_, rfl, _, _, _, [], _, _, hW', trodAll_mk1 (shut_bool Tryz.underlying4 _), (trodAll_cons_mk (Below.trod laidOut (by kernel_rfl) (of_decide_eq_true (by kernel_rfl)) k0 bel lt0) (trodAll_cons_mk (Below.trod laidOut (by kernel_rfl) (of_decide_eq_true (by kernel_rfl)) k1 bel lt1) trodAll_mk0)), Below.trodVars laidOut bel (by kernel_rfl) hV, bel.frame _, fun h => by cases h⟩

theorem over : Rows.fnExactTouchesOfRow.holds Tryz.pinned (OpenSpec.ofChange Rows.fnExactTouchesOfSpec) :=
  OpenClaim.holds_of_wide 7 Tryz.f7 rfl rfl rfl rfl rfl rfl rfl ⟨rfl, rfl, rfl, rfl, rfl⟩ rfl rfl rfl rfl rfl (by kernel_rfl) Tryz.func7 (by kernel_rfl)
    (of_decide_eq_true (by kernel_rfl)) (by unfold Func.isWrapper; first | (rw [if_pos (by decide +kernel)]; kernel_rfl) | (rw [if_neg (by decide +kernel)]; exact ⟨rfl, rfl⟩))
    (fun os started H enc _ => lifted os started H enc)

theorem carded : Rows.FnExactTouchesOfCardSaid :=
  Claim7.holds_tied_plain_at .later [] [.data] true (true, "824b5fe7066db245479056315883c2009b2ed03bf3c5857259e750a5560c0d47") false
    over (fun _ h => by cases h) (by kernel_rfl) (fun _ h => by cases h) fnExactTouchesOf_row_tie rfl ⟨rfl, rfl⟩ (by kernel_rfl) rfl
    (fun f fn hf hfn => by
      obtain rfl : f = 7 := Option.some.inj ((show Tryz.prog.funcNamed "loop.example/g00720/laws.FnExactTouchesOf" = some 7 by kernel_rfl).symm.trans hf) |>.symm
      obtain rfl : fn = Tryz.f7 := (Option.some.inj (Tryz.func7.symm.trans hfn)).symm
      exact ⟨by kernel_rfl, fun j t ht => by
        rw [Tryz.params7] at ht
        have hm : t ∈ [66, 2] := by simpa using Array.mem_of_getElem? ht
        have hall : ([66, 2].all fun u => !Tryz.prog.wantsStandIn u) = true := by kernel_rfl
        exact (show Tryz.prog.wantsStandIn t = false by simpa using List.all_eq_true.1 hall t hm)⟩)
    (by kernel_rfl)
end Go.Proofs.YtihdablgnmkjnaaGreatDoor.fnExactTouchesOf
namespace Go.Proofs.YtihdablgnmkjnaaGreatDoor
theorem fnExactTouchesOf_holds : Rows.FnExactTouchesOfCardSaid := fnExactTouchesOf.carded
end Go.Proofs.YtihdablgnmkjnaaGreatDoor
