/-
  The law FnExactDecoded answers true at every list of bytes (no condition but that impl.shapes and the four errors lie as the program's text lays them), and leaves it as it was.
-/
import Derived.Test.YtlpmcfooaakdgaaDoorRows
import Derived.Test.YtlpmcfooaakdgaaDoorCards
import Derived.Test.YtlpmcfooaakdgaaDoorTie
import Derived.Test.YtlpmcfooaakdgaaDoorDoor
import Derived.Test.YtlpmcfooaakdgaaDoorDoorA
import Derived.Test.YtlpmcfooaakdgaaDoorBytesTo
import Derived.Test.YtlpmcfooaakdgaaDoorBytesEq
import Derived.Test.YtlpmcfooaakdgaaDoorBytesMark
import Derived.Test.YtlpmcfooaakdgaaDoorEvsEq
import Derived.Test.YtlpmcfooaakdgaaDoorEvsMark
import Derived.Test.YtlpmcfooaakdgaaDoorDecImpl
import Derived.WalkKit
import Derived.ProofKit
import Derived.OpenShut
import Derived.LaidMore
import Derived.Stop.Joined
import Derived.OpenVars
import Derived.SevenTiedAt
namespace Go.Proofs.YtlpmcfooaakdgaaDoor.fnExactDecoded
open Go.ChangeShapes Go.WideShapes Go.ChangeAt Go.RowKit
set_option linter.unusedVariables false

def IsRow (k : IntKind) (w : World) (a : Option Addr) (len cap : Nat) (zs : List Int) : Prop :=
  (a = none ∧ len = 0 ∧ cap = 0 ∧ zs = []) ∨
  ∃ x, a = some x ∧ len ≤ cap ∧ cap ≤ maxLen ∧ zs.length = cap ∧ (∀ i, i < zs.length → w.cell? (x.add i) = some (.int k (zs.getD i 0))) ∧ ∀ n ∈ zs, (Lit.int k n).wf = true

theorem dec_len (bs : List Int) : (decL bs).1.length ≤ 300 := by
  have hG : ∀ f p out, out.length + f ≤ 300 → (decG bs f p out).1.length ≤ 300 := by
    intro f
    induction f with
    | zero => intro p out h; simpa [decG] using h
    | succ f ih =>
      intro p out h
      rw [decG]
      split
      · split
        · simp only; omega
        · exact ih _ _ (by simp; omega)
      · simp only; omega
  rw [decL]
  split
  · exact hG 300 3 [] (by simp)
  · simp

set_option maxHeartbeats 2000000 in
theorem walk (a0 : Option Addr) (len0 cap0 : Nat) (z0 : List Int) (w : World) (w0 : IsRow .u8 w a0 len0 cap0 z0) (hs : Shapes w ∧ ∃ eh en ee em, ErrV eh en ee em w) :
    Calls Tryd.prog 8 #[.slice a0 len0 cap0] w fun e w' => e = .returned (.bool true) ∧ Below w.heap.size w w' := by
  obtain ⟨hs, eh, en, ee, em, hv⟩ := hs
  by_cases hbig : 1048576 < len0
  · go_enter Tryd.func8, Tryd.ntmps8
    go_wp2
    go_ret
    exact ⟨rfl, Below.refl _ _⟩
  · obtain ⟨hr, hn⟩ := readsB_of_row w0 (by omega)
    obtain ⟨xs, hxs⟩ : ∃ xs, xs = z0.take len0 := ⟨_, rfl⟩
    rw [← hxs] at hr hn
    clear hxs w0
    subst hn
    have cS : ∀ ao c w, ReadsB w ao xs → Calls Tryd.prog 16 #[.slice ao xs.length c] w fun x w' => ∃ v, x = .returned (.tuple #[v, .int .i64 (decL xs).2]) ∧ OwnE w' w.heap.size v (decL xs).1 ∧ Fr w w' :=
      fun ao c w h => specDec_any ao xs.length c xs w rfl h
    have cI : ∀ ao c w, ReadsB w ao xs → (∀ j, blk ao = some j → j < w.heap.size) → (3 ≤ xs.length → 3 ≤ c) → ErrV eh en ee em w → Shapes w → Calls Tryd.prog 13 #[.slice ao xs.length c] w fun x w' => ∃ v, x = .returned (.tuple #[v, .int .i64 (decL xs).2]) ∧ OwnE w' w.heap.size v (decL xs).1 ∧ Fr w w' :=
      fun ao c w h hab hcap hv hs => implDec_any ao xs.length c xs eh en ee em w rfl h hab hcap hv hs
    have hdl := dec_len xs
    obtain ⟨D, hD⟩ : ∃ D, D = decL xs := ⟨_, rfl⟩
    simp only [← hD] at cS cI
    rw [← hD] at hdl
    clear hD
    obtain ⟨es, c⟩ := D
    simp only at cS cI hdl
    have cT := fun w h => toB_any a0 xs.length cap0 xs w rfl h
    go_enter Tryd.func8, Tryd.ntmps8
    go_wp2_with fail
    refine (cT _ hr).mono ?_
    rintro e u1 ⟨rfl, o1, f1⟩
    go_wp2_with fail
    refine (cS _ _ _ o1.reads).mono ?_
    rintro e u2 ⟨vw, rfl, ow, f2⟩
    obtain ⟨gw, cw, rfl, ow, hle⟩ := ow
    have tw := ow.lt gw rfl
    have F2 := f1.trans f2
    clear o1 f1 f2 cS
    go_wp2_with fail
    refine (cT _ (hr.fr F2)).mono ?_
    rintro e u3 ⟨rfl, o3, f3⟩
    have t3 := o3.1.lt _ rfl
    have F3 := F2.trans f3
    have ow := ow.kept f3 (by simp [Value.ownBlock])
    have s2 := F2.size
    have s3 := f3.size
    go_wp2_with fail
    refine (cI _ _ _ o3.reads (fun j hj => by simp only [blk, Option.map_some, Option.some.injEq] at hj; omega) (fun q => q) (hv.fr F3) (hs.fr F3)).mono ?_
    rintro e u4 ⟨vg, rfl, og, f4⟩
    obtain ⟨gg, cg, rfl, og, -⟩ := og
    have tg := og.lt gg rfl
    have ow := ow.kept f4 (by simp [Value.ownBlock])
    have o3 : OwnB _ _ _ _ := ⟨o3.1.kept f4 (by simp [Value.ownBlock]), o3.2⟩
    have F4 := F3.trans f4
    clear F2 F3 f3 f4
    go_wp2_with fail
    refine (eqEs_same _ _ _ _ _ es _ rfl (own_readsE og hle) (own_readsE ow hle)).mono ?_
    rintro e u5 ⟨rfl, f5⟩
    have ow := ow.kept f5 (by simp [Value.ownBlock])
    have og := og.kept f5 (by simp [Value.ownBlock])
    have o3 : OwnB _ _ _ _ := ⟨o3.1.kept f5 (by simp [Value.ownBlock]), o3.2⟩
    have F5 := F4.trans f5
    clear F4 f5
    go_wp2_with fail
    refine (cT _ (hr.fr F5)).mono ?_
    rintro e u6 ⟨rfl, o6, f6⟩
    have ow := ow.kept f6 (by simp [Value.ownBlock])
    have og := og.kept f6 (by simp [Value.ownBlock])
    have o3 : OwnB _ _ _ _ := ⟨o3.1.kept f6 (by simp [Value.ownBlock]), o3.2⟩
    have F6 := F5.trans f6
    go_wp2_with fail
    refine (eqB_any _ _ _ _ _ _ xs xs _ rfl rfl o3.reads o6.reads).mono ?_
    rintro e u7 ⟨rfl, n7, rfl⟩
    have fd := Fr.drewN u6 n7
    have ow := ow.kept fd (by simp [Value.ownBlock])
    have og := og.kept fd (by simp [Value.ownBlock])
    have o3 : OwnB _ _ _ _ := ⟨o3.1.kept fd (by simp [Value.ownBlock]), o3.2⟩
    have F7 := F6.trans fd
    clear o6 f6 F5 F6 fd
    go_wp2_with fail
    refine (markB_any _ _ _ _ 1 xs _ rfl (by omega) (by omega) o3).mono ?_
    rintro e u8 ⟨rfl, o8, k8⟩
    have F8 := F7.then k8 (fun j hj => by simp only [Option.some.injEq] at hj; omega)
    have ow := ow.kept k8 (.inr (by simp [Value.ownBlock]; omega))
    have og := og.kept k8 (.inr (by simp [Value.ownBlock]; omega))
    clear o8 k8 o3 F7
    go_wp2_with fail
    refine (eqEs_same _ _ _ _ _ es _ rfl (own_readsE og hle) (own_readsE ow hle)).mono ?_
    rintro e u9 ⟨rfl, f9⟩
    have ow := ow.kept f9 (by simp [Value.ownBlock])
    have og := og.kept f9 (by simp [Value.ownBlock])
    have F9 := F8.trans f9
    clear F8 f9
    go_wp2_with fail
    refine (markEs_any _ _ _ _ 1 es _ rfl (by omega) (by omega) og hle).mono ?_
    rintro e u10 ⟨rfl, o10, k10⟩
    have F10 := F9.then k10 (fun j hj => by simp only [Option.some.injEq] at hj; omega)
    have ow := ow.kept k10 (.inr (by simp [Value.ownBlock]; omega))
    have hL : (upsE 1 es.length).length = es.length := upsE_length 1 es.length
    have hR10 : ReadsE u10 (some ⟨gg, 0, none⟩) (upsE 1 es.length) := own_readsE (cap := cg) (base := u3.heap.size) (by rw [hL]; exact o10) (by rw [hL]; exact hle)
    clear F9 k10 og o10 hL
    go_wp2_with fail
    refine (heldEs_any _ _ _ 1 _ (by omega) (by omega) hR10).mono ?_
    rintro e u11 ⟨rfl, rfl⟩
    go_wp2_with fail
    refine (cT _ (hr.fr F10)).mono ?_
    rintro e u12 ⟨rfl, o12, f12⟩
    have F12 := F10.trans f12
    have t12 := o12.1.lt _ rfl
    go_wp2_with fail
    refine (cI _ _ _ o12.reads (fun j hj => by simp only [blk, Option.map_some, Option.some.injEq] at hj; omega) (fun q => q) (hv.fr F12) (hs.fr F12)).mono ?_
    rintro e u13 ⟨vh, rfl, oh, f13⟩
    obtain ⟨gh, ch, rfl, oh, -⟩ := oh
    have f14 := f12.trans f13
    have F13 := F12.trans f13
    have ow := ow.kept f14 (by simp [Value.ownBlock])
    clear o12 f12 f13
    go_wp2_with fail
    refine (eqEs_same _ _ _ _ _ es _ rfl (own_readsE oh hle) (own_readsE ow hle)).mono ?_
    rintro e u14 ⟨rfl, f15⟩
    go_wp2_with fail
    refine (heldEs_any _ _ _ 1 _ (by omega) (by omega) (hR10.fr (f14.trans f15))).mono ?_
    rintro e u15 ⟨rfl, rfl⟩
    go_wp2_with fail
    go_ret
    exact ⟨rfl, (F13.trans f15).below⟩

theorem own : ownKnob Tryd.prog.godebug = none := by kernel_rfl
theorem laidOut : laidOutB Tryd.prog = true := by kernel_rfl
theorem met (os : Os) (args : Array Value) : laidMetH Tryd.prog Rows.fnExactDecodedRow.laid ((World.doorLaid Tryd.prog 400 os).forCall (fun _ _ => 0) ⟨#[], args, []⟩).memory :=
  laidMetH_of_parts3 (fuel := 8) (laidMet_of_run' 8 (by kernel_rfl) (by kernel_rfl)) (by kernel_rfl) (by kernel_rfl)
theorem tables {W : World} (h : laidMetH Tryd.prog Rows.fnExactDecodedRow.laid W) : Shapes W ∧ ∃ eh en ee em, ErrV eh en ee em W := all_of h

set_option maxRecDepth 100000 in
theorem lifted (os : Os) (started : os.Started) (H : Type) (enc : TypeId × Value → H) :
    ReturnsInHanded {} Tryd.checked os 8 .any (fun w args => (Rows.fnExactDecodedSpec.pre enc Tryd.prog Tryd.f8 [] false w args ∧ laidMetH Tryd.prog Rows.fnExactDecodedRow.laid w) ∧ sizedMet enc Tryd.prog Tryd.f8 (OpenSpec.ofChange Rows.fnExactDecodedSpec) false w args)
      (Rows.fnExactDecodedSpec.post enc Tryd.prog Tryd.f8 false true false false) := by
  refine returnsInHanded_of_change_and (C := Tryd.checked) (X := fun w _ => laidMetH Tryd.prog Rows.fnExactDecodedRow.laid w) (fun _ _ _ hh h => h.of_heap hh) own started (by kernel_rfl) Tryd.func8
    (ChangeSpec.witness_shaped (enc := enc) (C := Tryd.checked) (os := os) (X := fun w _ => laidMetH Tryd.prog Rows.fnExactDecodedRow.laid w) false (World.doorLaid Tryd.prog 400 os) #[.slice none 0 0] 8 rfl (World.shaped_of_RefB (by kernel_rfl) (by kernel_rfl)) (by kernel_rfl) (by kernel_rfl) (by kernel_rfl) (met os _)) ?_
  intro W base args ds gs before hval0 hW _ _ hL _
  have hval : ∀ (j : Nat) t v, Tryd.f8.params[j]? = some t → args[j]? = some v → Value.okWide Tryd.prog W .any base t v := hval0
  have hW' := hW
  obtain ⟨p, q, hA0, hV, rfl, hfz, hnd⟩ := hW
  have hA : DataW.TrodAll enc Tryd.prog W 0 (fun _ => true) true Tryd.f8.params.toList args.toList ds p := hA0
  rw [Tryd.params8] at hA hval
  obtain ⟨v0, vs0, d0, ds0, p0, q0, hargs, rfl, rfl, h0, r0⟩ := trodAll_cons hA
  obtain ⟨rfl, rfl, rfl⟩ := trodAll_nil r0
  obtain rfl : args = #[v0] := by cases args; simp_all
  have k0 := h0
  have lt0 : ∀ x ∈ p0, x.block < W.heap.size := by obtain ⟨m, hm⟩ := k0; exact DataW.trod_lt m _ _ _ hm
  obtain ⟨a0, len0, cap0, rfl⟩ := okWide_slice Tryd.underlying22 (hval 0 22 v0 rfl rfl)
  obtain ⟨z0, w0⟩ : ∃ zs, IsRow .u8 W a0 len0 cap0 zs := by
    obtain ⟨fuel, hf⟩ := h0
    rcases open_ints Tryd.underlying22 Tryd.underlying5 (by kernel_rfl) hf with ⟨hcs, _⟩ | ⟨x, l, c, zs, hcs, _, hl, hm, hz, _, hcell, hwz⟩
    · simp [Value.cells] at hcs
      obtain ⟨rfl, rfl, rfl⟩ := hcs
      exact ⟨[], .inl ⟨rfl, rfl, rfl, rfl⟩⟩
    · simp [Value.cells] at hcs
      obtain ⟨rfl, rfl, rfl⟩ := hcs
      exact ⟨zs, .inr ⟨_, rfl, hl, hm, by simpa using hz, hcell, hwz⟩⟩
  clear hA0 hval0
  refine (walk a0 len0 cap0 z0 W w0 (tables hL)).mono fun e W' ⟨he, bel⟩ => ?_
  subst he
  match gs, hV with
  | [g1, g2, g3, g4, g5], hV =>
    exact ⟨_, rfl, _, _, _, [], _, _, hW', trodAll_mk1 (shut_bool Tryd.underlying4 _), (trodAll_cons_mk (Below.trod laidOut (by kernel_rfl) (of_decide_eq_true (by kernel_rfl)) k0 bel lt0) trodAll_mk0), Below.trodVars laidOut bel (by kernel_rfl) hV, bel.frame _, fun h => by cases h⟩

theorem over : Rows.fnExactDecodedRow.holds Tryd.pinned (OpenSpec.ofChange Rows.fnExactDecodedSpec) :=
  OpenClaim.holds_of_wide 8 Tryd.f8 rfl rfl rfl rfl rfl rfl rfl ⟨rfl, rfl, rfl, rfl, rfl⟩ rfl rfl rfl rfl rfl (by kernel_rfl) Tryd.func8 (by kernel_rfl)
    (of_decide_eq_true (by kernel_rfl)) (by unfold Func.isWrapper; first | (rw [if_pos (by decide +kernel)]; kernel_rfl) | (rw [if_neg (by decide +kernel)]; exact ⟨rfl, rfl⟩))
    (fun os started H enc _ => lifted os started H enc)

theorem carded : Rows.FnExactDecodedCardSaid :=
  Claim7.holds_tied_plain_at .later [] [.data, .sentinel, .sentinel, .sentinel, .sentinel] true (true, "5c1e312e8c4e4c46e4c5620dc3ceab4d5b953ae6546209ec39f7de05bc4231ef") true
    over (fun _ h => by cases h) (by kernel_rfl) (fun _ h => by cases h) fnExactDecoded_row_tie rfl ⟨rfl, rfl⟩ (by kernel_rfl) rfl
    (fun f fn hf hfn => by
      obtain rfl : f = 8 := Option.some.inj ((show Tryd.prog.funcNamed "loop.example/g00720/laws.FnExactDecoded" = some 8 by kernel_rfl).symm.trans hf) |>.symm
      obtain rfl : fn = Tryd.f8 := (Option.some.inj (Tryd.func8.symm.trans hfn)).symm
      exact ⟨by kernel_rfl, fun j t ht => by
        rw [Tryd.params8] at ht
        have hm : t ∈ [22] := by simpa using Array.mem_of_getElem? ht
        have hall : ([22].all fun u => !Tryd.prog.wantsStandIn u) = true := by kernel_rfl
        exact (show Tryd.prog.wantsStandIn t = false by simpa using List.all_eq_true.1 hall t hm)⟩)
    (by kernel_rfl)
end Go.Proofs.YtlpmcfooaakdgaaDoor.fnExactDecoded
namespace Go.Proofs.YtlpmcfooaakdgaaDoor
theorem fnExactDecoded_holds : Rows.FnExactDecodedCardSaid := fnExactDecoded.carded
end Go.Proofs.YtlpmcfooaakdgaaDoor
