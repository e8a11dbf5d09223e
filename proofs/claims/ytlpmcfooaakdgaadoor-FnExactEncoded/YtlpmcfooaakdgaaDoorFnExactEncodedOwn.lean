/-
  The law FnExactEncoded answers true at every list of events (no condition but that the table impl.shapes lies as the program's text lays it), and leaves it as it was.
-/
import Derived.Test.YtlpmcfooaakdgaaDoorRows
import Derived.Test.YtlpmcfooaakdgaaDoorCards
import Derived.Test.YtlpmcfooaakdgaaDoorTie
import Derived.Test.YtlpmcfooaakdgaaDoorDoor
import Derived.Test.YtlpmcfooaakdgaaDoorDoorEv
import Derived.Test.YtlpmcfooaakdgaaDoorEvsTo
import Derived.Test.YtlpmcfooaakdgaaDoorEvsEq
import Derived.Test.YtlpmcfooaakdgaaDoorEvsMark
import Derived.Test.YtlpmcfooaakdgaaDoorEncMk
import Derived.Test.YtlpmcfooaakdgaaDoorBytesEq
import Derived.WalkKit
import Derived.ProofKit
import Derived.OpenShut
import Derived.LaidMore
import Derived.Stop.Joined
import Derived.OpenVars
import Derived.SevenTiedAt
namespace Go.Proofs.YtlpmcfooaakdgaaDoor.fnExactEncoded
open Go.ChangeShapes Go.WideShapes Go.ChangeAt Go.RowKit
set_option linter.unusedVariables false

set_option maxHeartbeats 2000000 in
theorem walk (a0 : Option Addr) (len0 cap0 : Nat) (w : World) (w0 : IsEvs w a0 len0) (hs : Shapes w) :
    Calls Tryd.prog 7 #[.slice a0 len0 cap0] w fun e w' => e = .returned (.bool true) ∧ Below w.heap.size w w' := by
  obtain ⟨hm, es, rfl, hr⟩ := w0
  have hcap : es.length ≤ 9223372036854775807 := by unfold maxLen at hm; omega
  have cZ := fun w => sz_any a0 es.length cap0 w hcap
  by_cases hbig : es.length ≤ 1048576
  · rw [if_pos hbig] at cZ
    have hr := hr (by omega)
    have cT := fun w h => toEs_any a0 es.length cap0 es w rfl h
    have cS := fun ao c w h => specEnc_any ao es.length c es w rfl h
    have cI := fun ao c w h hs => implEnc_any ao es.length c es w rfl h hs
    obtain ⟨J, hJ⟩ : ∃ J, J = encA es := ⟨_, rfl⟩
    have hMk : Hid (∀ w w' v, EncR es w w' v → ∃ g n cap, v = .slice (some ⟨g, 0, none⟩) n cap ∧ w.heap.size ≤ g ∧ g < w'.heap.size ∧ Mk w' g n cap J) := by
      intro w w' v h
      rw [hJ]
      exact h.mk
    rw [← hJ] at cS
    clear hJ
    obtain ⟨B, hB⟩ : ∃ B, B = encB es := ⟨_, rfl⟩
    rw [← hB] at cS cI
    clear hB hm hcap
    go_enter Tryd.func7, Tryd.ntmps7
    go_wp2_with fail
    refine (cZ _).mono ?_
    rintro e u0 ⟨rfl, rfl⟩
    clear cZ
    go_wp2_with fail
    refine (cT _ hr).mono ?_
    rintro e u1 ⟨v1, rfl, o1, f1⟩
    obtain ⟨g1, c1, rfl, o1, hl1⟩ := o1
    go_wp2_with fail
    refine (cS _ _ _ (own_readsE o1 hl1)).mono ?_
    rintro e u2 ⟨v2, rfl, o2, f2⟩
    obtain ⟨gw, cw, rfl, ow⟩ := o2
    have tw := ownB_lt ow
    have F2 := f1.trans f2
    clear o1 f1 f2 cS
    go_wp2_with fail
    refine (cT _ (hr.fr F2)).mono ?_
    rintro e u3 ⟨v3, rfl, ox, f3⟩
    obtain ⟨gx, cx, rfl, ox, hlx⟩ := ox
    have tx := ox.lt gx rfl
    have F3 := F2.trans f3
    have ow := ow.fr f3
    go_wp2_with fail
    refine (cI _ _ _ (own_readsE ox hlx) (hs.fr F3)).mono ?_
    rintro e u4 ⟨v4, rfl, o4, f4⟩
    obtain ⟨gg, ng, cg, rfl, tg0, tg1, og⟩ := hMk.out _ _ _ o4
    have ow := ow.fr f4
    have ox := ox.kept f4 (by simp [Value.ownBlock])
    have F4 := F3.trans f4
    have s1 := F2.size
    have s2 := F4.size
    obtain rfl := og.reads.2
    clear o4 F2 F3 f3 f4
    go_wp2_with fail
    refine (eqB_any _ _ _ _ _ _ J J _ rfl rfl og.reads.1 ow.reads).mono ?_
    rintro e u5 ⟨rfl, n5, rfl⟩
    have F5 := F4.trans (Fr.drewN _ n5)
    have ow := ow.fr (Fr.drewN u4 n5)
    have og := og.fr (Fr.drewN u4 n5)
    have ox := ox.kept (Fr.drewN u4 n5) (by simp [Value.ownBlock])
    go_wp2_with fail
    refine (cT _ (hr.fr F5)).mono ?_
    rintro e u6 ⟨v6, rfl, o6, f6⟩
    obtain ⟨g6, c6, rfl, o6, hl6⟩ := o6
    have ox := ox.kept f6 (by simp [Value.ownBlock])
    have F6 := F5.trans f6
    have ow := ow.fr f6
    have og := og.fr f6
    go_wp2_with fail
    refine (eqEs_same _ _ _ _ _ es _ rfl (own_readsE ox hlx) (own_readsE o6 hl6)).mono ?_
    rintro e u7 ⟨rfl, f7⟩
    have ox := ox.kept f7 (by simp [Value.ownBlock])
    have ow := ow.fr f7
    have og := og.fr f7
    have F7 := F6.trans f7
    clear o6 f6 f7 F5 F6 F4
    go_wp2_with fail
    refine (markEs_any _ _ _ _ 1 es _ rfl (by omega) (by omega) ox hlx).mono ?_
    rintro e u8 ⟨rfl, o8, k8⟩
    have F8 := F7.then k8 (fun j hj => by simp only [Option.some.injEq] at hj; omega)
    have ow := ow.keep k8 (own_neB (by omega))
    have og := og.keep k8 (by simp; omega)
    clear o8 k8 ox F7
    go_wp2_with fail
    refine (eqB_any _ _ _ _ _ _ J J _ rfl rfl og.reads.1 ow.reads).mono ?_
    rintro e u9 ⟨rfl, n9, rfl⟩
    have F9 := F8.trans (Fr.drewN _ n9)
    have ow := ow.fr (Fr.drewN u8 n9)
    have og := og.fr (Fr.drewN u8 n9)
    clear F8
    have hJl := ow.2.1
    go_wp2_with fail
    refine (markMk_any _ _ _ J _ og).mono ?_
    rintro e u10 ⟨rfl, r10, k10⟩
    have F10 := F9.then k10 (fun j hj => by simp only [Option.some.injEq] at hj; omega)
    have ow := ow.keep k10 (own_neB (by omega))
    clear F9 k10 og
    go_wp2_with fail
    refine (heldB_any _ _ _ 1 _ (by omega) (by omega) r10).mono ?_
    rintro e u11 ⟨rfl, rfl⟩
    go_wp2_with fail
    refine (cT _ (hr.fr F10)).mono ?_
    rintro e u12 ⟨v12, rfl, o12, f12⟩
    obtain ⟨g12, c12, rfl, o12, hl12⟩ := o12
    have F12 := F10.trans f12
    go_wp2_with fail
    refine (cI _ _ _ (own_readsE o12 hl12) (hs.fr F12)).mono ?_
    rintro e u13 ⟨v13, rfl, o13, f13⟩
    obtain ⟨gh, nh, ch, rfl, th0, th1, oh⟩ := hMk.out _ _ _ o13
    have f14 := f12.trans f13
    have F13 := F12.trans f13
    obtain rfl := oh.reads.2
    clear o13 o12 f12 f13
    go_wp2_with fail
    refine (eqB_any _ _ _ _ _ _ J J _ rfl rfl oh.reads.1 (ow.fr f14).reads).mono ?_
    rintro e u14 ⟨rfl, n14, rfl⟩
    go_wp2_with fail
    refine (heldB_any _ _ _ 1 _ (by omega) (by omega) (r10.fr (f14.trans (Fr.drewN _ n14)))).mono ?_
    rintro e u15 ⟨rfl, rfl⟩
    go_wp2_with fail
    go_ret
    exact ⟨rfl, (F13.trans (Fr.drewN _ n14)).below⟩
  · rw [if_neg hbig] at cZ
    clear hr
    go_enter Tryd.func7, Tryd.ntmps7
    go_wp2_with fail
    refine (cZ _).mono ?_
    rintro e u0 ⟨rfl, rfl⟩
    go_wp2_with fail
    go_ret
    exact ⟨rfl, Below.refl _ _⟩

theorem own : ownKnob Tryd.prog.godebug = none := by kernel_rfl
theorem laidOut : laidOutB Tryd.prog = true := by kernel_rfl
theorem met (os : Os) (args : Array Value) : laidMetH Tryd.prog Rows.fnExactEncodedRow.laid ((World.doorLaid Tryd.prog 400 os).forCall (fun _ _ => 0) ⟨#[], args, []⟩).memory :=
  laidMetH_of_parts3 (fuel := 8) (laidMet_of_run' 8 (by kernel_rfl) (by kernel_rfl)) (by kernel_rfl) (by kernel_rfl)
theorem tables {W : World} (h : laidMetH Tryd.prog Rows.fnExactEncodedRow.laid W) : Shapes W := by
  rw [MakeChecks.laidMetH_plain _ _ _ (by kernel_rfl)] at h
  obtain ⟨ps, hl, -⟩ := h
  exact shapes_of hl

set_option maxRecDepth 100000 in
theorem lifted (os : Os) (started : os.Started) (H : Type) (enc : TypeId × Value → H) :
    ReturnsInHanded {} Tryd.checked os 7 .any (fun w args => (Rows.fnExactEncodedSpec.pre enc Tryd.prog Tryd.f7 [] false w args ∧ laidMetH Tryd.prog Rows.fnExactEncodedRow.laid w) ∧ sizedMet enc Tryd.prog Tryd.f7 (OpenSpec.ofChange Rows.fnExactEncodedSpec) false w args)
      (Rows.fnExactEncodedSpec.post enc Tryd.prog Tryd.f7 false true false false) := by
  refine returnsInHanded_of_change_and (C := Tryd.checked) (X := fun w _ => laidMetH Tryd.prog Rows.fnExactEncodedRow.laid w) (fun _ _ _ hh h => h.of_heap hh) own started (by kernel_rfl) Tryd.func7
    (ChangeSpec.witness_shaped (enc := enc) (C := Tryd.checked) (os := os) (X := fun w _ => laidMetH Tryd.prog Rows.fnExactEncodedRow.laid w) false (World.doorLaid Tryd.prog 400 os) #[.slice none 0 0] 8 rfl (World.shaped_of_RefB (by kernel_rfl) (by kernel_rfl)) (by kernel_rfl) (by kernel_rfl) (by kernel_rfl) (met os _)) ?_
  intro W base args ds gs before hval0 hW _ _ hL _
  have hval : ∀ (j : Nat) t v, Tryd.f7.params[j]? = some t → args[j]? = some v → Value.okWide Tryd.prog W .any base t v := hval0
  have hW' := hW
  obtain ⟨p, q, hA0, hV, rfl, hfz, hnd⟩ := hW
  have hA : DataW.TrodAll enc Tryd.prog W 0 (fun _ => true) true Tryd.f7.params.toList args.toList ds p := hA0
  rw [Tryd.params7] at hA hval
  obtain ⟨v0, vs0, d0, ds0, p0, q0, hargs, rfl, rfl, h0, r0⟩ := trodAll_cons hA
  obtain ⟨rfl, rfl, rfl⟩ := trodAll_nil r0
  obtain rfl : args = #[v0] := by cases args; simp_all
  have k0 := h0
  have lt0 : ∀ x ∈ p0, x.block < W.heap.size := by obtain ⟨m, hm⟩ := k0; exact DataW.trod_lt m _ _ _ hm
  obtain ⟨a0, len0, cap0, rfl⟩ := okWide_slice Tryd.underlying38 (hval 0 38 v0 rfl rfl)
  have w0 : IsEvs W a0 len0 := evs_of_arg h0
  clear hA0 hval0
  refine (walk a0 len0 cap0 W w0 (tables hL)).mono fun e W' ⟨he, bel⟩ => ?_
  subst he
  match gs, hV with
  | [g1], hV =>
    exact ⟨_, rfl, _, _, _, [], _, _, hW', trodAll_mk1 (shut_bool Tryd.underlying4 _), (trodAll_cons_mk (Below.trod laidOut (by kernel_rfl) (of_decide_eq_true (by kernel_rfl)) k0 bel lt0) trodAll_mk0), Below.trodVars laidOut bel (by kernel_rfl) hV, bel.frame _, fun h => by cases h⟩

theorem over : Rows.fnExactEncodedRow.holds Tryd.pinned (OpenSpec.ofChange Rows.fnExactEncodedSpec) :=
  OpenClaim.holds_of_wide 7 Tryd.f7 rfl rfl rfl rfl rfl rfl rfl ⟨rfl, rfl, rfl, rfl, rfl⟩ rfl rfl rfl rfl rfl (by kernel_rfl) Tryd.func7 (by kernel_rfl)
    (of_decide_eq_true (by kernel_rfl)) (by unfold Func.isWrapper; first | (rw [if_pos (by decide +kernel)]; kernel_rfl) | (rw [if_neg (by decide +kernel)]; exact ⟨rfl, rfl⟩))
    (fun os started H enc _ => lifted os started H enc)

theorem carded : Rows.FnExactEncodedCardSaid :=
  Claim7.holds_tied_plain_at .later [] [.data] true (true, "5c1e312e8c4e4c46e4c5620dc3ceab4d5b953ae6546209ec39f7de05bc4231ef") true
    over (fun _ h => by cases h) (by kernel_rfl) (fun _ h => by cases h) fnExactEncoded_row_tie rfl ⟨rfl, rfl⟩ (by kernel_rfl) rfl
    (fun f fn hf hfn => by
      obtain rfl : f = 7 := Option.some.inj ((show Tryd.prog.funcNamed "loop.example/g00720/laws.FnExactEncoded" = some 7 by kernel_rfl).symm.trans hf) |>.symm
      obtain rfl : fn = Tryd.f7 := (Option.some.inj (Tryd.func7.symm.trans hfn)).symm
      exact ⟨by kernel_rfl, fun j t ht => by
        rw [Tryd.params7] at ht
        have hm : t ∈ [38] := by simpa using Array.mem_of_getElem? ht
        have hall : ([38].all fun u => !Tryd.prog.wantsStandIn u) = true := by kernel_rfl
        exact (show Tryd.prog.wantsStandIn t = false by simpa using List.all_eq_true.1 hall t hm)⟩)
    (by kernel_rfl)
end Go.Proofs.YtlpmcfooaakdgaaDoor.fnExactEncoded
namespace Go.Proofs.YtlpmcfooaakdgaaDoor
theorem fnExactEncoded_holds : Rows.FnExactEncodedCardSaid := fnExactEncoded.carded
end Go.Proofs.YtlpmcfooaakdgaaDoor
