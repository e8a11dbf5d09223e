/-
  The law FnBack answers true at every code (no condition but that impl.shapes and the four errors of the program's bytes lie as the program's text lays them), and leaves it as it was.
-/
import Derived.Test.YthjnhfcncinhiaaDoorRows
import Derived.Test.YthjnhfcncinhiaaDoorCards
import Derived.Test.YthjnhfcncinhiaaDoorTie
import Derived.Test.YthjnhfcncinhiaaDoorPackAA
import Derived.Test.YthjnhfcncinhiaaDoorPackAB
import Derived.Test.YthjnhfcncinhiaaDoorPackAL
import Derived.Test.YthjnhfcncinhiaaDoorPackAM
import Derived.Test.YthjnhfcncinhiaaDoorPackAN
import Derived.WalkKit
import Derived.ProofKit
import Derived.OpenShut
import Derived.LaidMore
import Derived.Stop.Joined
import Derived.OpenVars
import Derived.SevenTiedAt
namespace Go.Proofs.YthjnhfcncinhiaaDoor.fnBack
open Go.ChangeShapes Go.WideShapes Go.ChangeAt Go.RowKit
set_option linter.unusedVariables false

def IsRow (k : IntKind) (w : World) (a : Option Addr) (len cap : Nat) (zs : List Int) : Prop :=
  (a = none ∧ len = 0 ∧ cap = 0 ∧ zs = []) ∨
  ∃ x, a = some x ∧ len ≤ cap ∧ cap ≤ maxLen ∧ zs.length = cap ∧ (∀ i, i < zs.length → w.cell? (x.add i) = some (.int k (zs.getD i 0))) ∧ ∀ n ∈ zs, (Lit.int k n).wf = true

set_option maxHeartbeats 2000000 in
theorem walk (a0 : Option Addr) (len0 cap0 : Nat) (z0 : List Int) (w : World) (w0 : IsRow .u8 w a0 len0 cap0 z0) (hs : Shapes w ∧ ∃ eh en ee em, ErrV eh en ee em w) :
    Calls Tryd.prog 3 #[.slice a0 len0 cap0] w fun e w' => e = .returned (.bool true) ∧ Below w.heap.size w w' := by
  obtain ⟨hs, eh, en, ee, em, hv⟩ := hs
  have hcap : len0 ≤ 9223372036854775807 := by
    rcases w0 with ⟨_, e, _⟩ | ⟨x, _, h1, h2, _⟩
    · omega
    · unfold maxLen at h2; omega
  by_cases hbig : (4096 : Int) < (len0 : Int)
  · have hd : decide ((4096 : Int) < (len0 : Int)) = true := decide_eq_true hbig
    go_enter Tryd.func3, Tryd.ntmps3
    go_wp2_with fail
    refine (big_any _ _ _ _ hcap).mono ?_
    rintro e u1 ⟨rfl, rfl⟩
    go_wp2_with fail
    go_ret
    exact ⟨rfl, Below.refl _ _⟩
  · have hd : decide ((4096 : Int) < (len0 : Int)) = false := decide_eq_false hbig
    have hr := bytes_of_row w0
    have hl : len0 ≤ 4096 := by omega
    clear hbig
    go_enter Tryd.func3, Tryd.ntmps3
    go_wp2_with fail
    refine (big_any _ _ _ _ hcap).mono ?_
    rintro e u1 ⟨rfl, rfl⟩
    go_wp2_with fail
    refine (drawEncoded_any _ _ _ _ hr (by omega)).mono ?_
    rintro e u2 ⟨v2, rfl, es, o2, l2, f2⟩
    obtain ⟨g2, c2, rfl, o2, hl2⟩ := o2
    clear w0 hd hr hcap
    have cI := fun u (f : Fr u2 u) => implEnc_any _ _ c2 es u rfl ((own_readsE o2 hl2).fr f) ((hs.fr f2).fr f)
    have cS := fun u (f : Fr u2 u) => specEnc_any _ _ c2 es u rfl ((own_readsE o2 hl2).fr f)
    obtain ⟨B, hB⟩ : ∃ B, B = encB es := ⟨_, rfl⟩
    have HB : Hid (encB es = B) := hB.symm
    simp only [← hB] at cI cS
    clear hB
    go_wp2_with fail
    refine (cI _ (Fr.refl _)).mono ?_
    rintro e u3 ⟨vb, rfl, eb, f3⟩
    obtain ⟨gb, nb, cb, rfl, hb0, hb1, mk⟩ := eb.mk
    go_wp2_with fail
    refine (cS _ f3).mono ?_
    rintro e u4 ⟨vs, rfl, -, f4⟩
    have mk := mk.fr f4
    have HL : Hid ((encA es).length = nb) := mk.reads.2
    have fB := f3.trans f4
    have hs4 := f4.size
    clear cI cS eb
    cases B
    · have HN : Hid (nb = 0) := by
        have h1 := HL.out
        rw [encA, HB.out] at h1
        show nb = 0
        simpa using h1.symm
      obtain rfl := HN.out
      go_wp2_with fail
      go_ret
      exact ⟨rfl, (f2.trans fB).below⟩
    · have HE : Hid (encA es = encL es) := by
        show encA es = encL es
        rw [encA, HB.out]; rfl
      have hd := dec_enc es HB.out
      have hlen : 3 ≤ nb := by
        have h1 := HL.out
        rw [HE.out, encL] at h1
        simp at h1
        omega
      have hcb : 3 ≤ cb := by
        rcases mk with ⟨h1, h2⟩ | ⟨h1, h2, _⟩
        · have := (ownB_cap h2).2; omega
        · omega
      have hnb : nb ≤ 4294967296 := by
        have h1 := mk.reads.1.len
        rw [HL.out] at h1
        exact h1
      have cD := implDec_any (some ⟨gb, 0, none⟩) nb cb (encA es) eh en ee em u4 HL.out mk.reads.1 (fun j hj => by simp only [blk, Option.map_some, Option.some.injEq] at hj; omega) (fun _ => hcb) ((hv.fr f2).fr fB) ((hs.fr f2).fr fB)
      unfold DecC at cD
      rw [HE.out, hd] at cD
      simp only at cD
      have o4 := o2.kept fB (by simp [Value.ownBlock])
      clear hd o2 mk
      go_wp2_with fail
      refine cD.mono ?_
      rintro e u5 ⟨vd, rfl, od, f5⟩
      obtain ⟨gd, cd, rfl, od, hld⟩ := od
      have o5 := o4.kept f5 (by simp [Value.ownBlock])
      clear o4 cD
      go_wp2_with fail
      refine (likeEs_same _ _ _ _ _ es _ rfl (own_readsE od hld) (own_readsE o5 hl2)).mono ?_
      rintro e u6 ⟨rfl, f6⟩
      have h3 : decide ((3 : Int) ≤ (nb : Int)) = true := decide_eq_true (by omega)
      go_wp2_with fail
      go_ret
      exact ⟨rfl, (((f2.trans fB).trans f5).trans f6).below⟩

theorem own : ownKnob Tryd.prog.godebug = none := by kernel_rfl
theorem laidOut : laidOutB Tryd.prog = true := by kernel_rfl
theorem met (os : Os) (args : Array Value) : laidMetH Tryd.prog Rows.fnBackRow.laid ((World.doorLaid Tryd.prog 400 os).forCall (fun _ _ => 0) ⟨#[], args, []⟩).memory :=
  laidMetH_of_parts3 (fuel := 8) (laidMet_of_run' 8 (by kernel_rfl) (by kernel_rfl)) (by kernel_rfl) (by kernel_rfl)
theorem tables {W : World} (h : laidMetH Tryd.prog Rows.fnBackRow.laid W) : Shapes W ∧ ∃ eh en ee em, ErrV eh en ee em W := all_of h

set_option maxRecDepth 100000 in
theorem lifted (os : Os) (started : os.Started) (H : Type) (enc : TypeId × Value → H) :
    ReturnsInHanded {} Tryd.checked os 3 .any (fun w args => (Rows.fnBackSpec.pre enc Tryd.prog Tryd.f3 [] false w args ∧ laidMetH Tryd.prog Rows.fnBackRow.laid w) ∧ sizedMet enc Tryd.prog Tryd.f3 (OpenSpec.ofChange Rows.fnBackSpec) false w args)
      (Rows.fnBackSpec.post enc Tryd.prog Tryd.f3 false true false false) := by
  refine returnsInHanded_of_change_and (C := Tryd.checked) (X := fun w _ => laidMetH Tryd.prog Rows.fnBackRow.laid w) (fun _ _ _ hh h => h.of_heap hh) own started (by kernel_rfl) Tryd.func3
    (ChangeSpec.witness_shaped (enc := enc) (C := Tryd.checked) (os := os) (X := fun w _ => laidMetH Tryd.prog Rows.fnBackRow.laid w) false (World.doorLaid Tryd.prog 400 os) #[.slice none 0 0] 8 rfl (World.shaped_of_RefB (by kernel_rfl) (by kernel_rfl)) (by kernel_rfl) (by kernel_rfl) (by kernel_rfl) (met os _)) ?_
  intro W base args ds gs before hval0 hW _ _ hL _
  have hval : ∀ (j : Nat) t v, Tryd.f3.params[j]? = some t → args[j]? = some v → Value.okWide Tryd.prog W .any base t v := hval0
  have hW' := hW
  obtain ⟨p, q, hA0, hV, rfl, hfz, hnd⟩ := hW
  have hA : DataW.TrodAll enc Tryd.prog W 0 (fun _ => true) true Tryd.f3.params.toList args.toList ds p := hA0
  rw [Tryd.params3] at hA hval
  obtain ⟨v0, vs0, d0, ds0, p0, q0, hargs, rfl, rfl, h0, r0⟩ := trodAll_cons hA
  obtain ⟨rfl, rfl, rfl⟩ := trodAll_nil r0
  obtain rfl : args = #[v0] := by cases args; simp_all
  have k0 := h0
  have lt0 : ∀ x ∈ p0, x.block < W.heap.size := by obtain ⟨m, hm⟩ := k0; exact DataW.trod_lt m _ _ _ hm
  obtain ⟨a0, len0, cap0, rfl⟩ := okWide_slice Tryd.underlying22 (hval 0 22 v0 rfl rfl)
  obtain ⟨z0, w0⟩ : ∃ zs, IsRow .u8 W a0 len0 cap0 zs := by
    obtain ⟨fuel, hf⟩ := h0
    rcases open_ints Tryd.underlying22 Tryd.underlying5 (by kernel_rfl) hf with ⟨hcs, _⟩ | ⟨x, l, c, zs, hcs, _, hl, hm, hz, _, hcell, hwz⟩
    · simp [Value.cells] at hcs
      obtain ⟨rfl, rfl, rfl⟩ := hcs
      exact ⟨[], .inl ⟨rfl, rfl, rfl, rfl⟩⟩
    · simp [Value.cells] at hcs
      obtain ⟨rfl, rfl, rfl⟩ := hcs
      exact ⟨zs, .inr ⟨_, rfl, hl, hm, by simpa using hz, hcell, hwz⟩⟩
  clear hA0 hval0
  refine (walk a0 len0 cap0 z0 W w0 (tables hL)).mono fun e W' ⟨he, bel⟩ => ?_
  subst he
  match gs, hV with
  | [g1, g2, g3, g4, g5], hV =>
    exact ⟨_, rfl, _, _, _, [], _, _, hW', trodAll_mk1 (shut_bool Tryd.underlying4 _), (trodAll_cons_mk (Below.trod laidOut (by kernel_rfl) (of_decide_eq_true (by kernel_rfl)) k0 bel lt0) trodAll_mk0), Below.trodVars laidOut bel (by kernel_rfl) hV, bel.frame _, fun h => by cases h⟩

theorem over : Rows.fnBackRow.holds Tryd.pinned (OpenSpec.ofChange Rows.fnBackSpec) :=
  OpenClaim.holds_of_wide 3 Tryd.f3 rfl rfl rfl rfl rfl rfl rfl ⟨rfl, rfl, rfl, rfl, rfl⟩ rfl rfl rfl rfl rfl (by kernel_rfl) Tryd.func3 (by kernel_rfl)
    (of_decide_eq_true (by kernel_rfl)) (by unfold Func.isWrapper; first | (rw [if_pos (by decide +kernel)]; kernel_rfl) | (rw [if_neg (by decide +kernel)]; exact ⟨rfl, rfl⟩))
    (fun os started H enc _ => lifted os started H enc)

theorem carded : Rows.FnBackCardSaid :=
  Claim7.holds_tied_plain_at .later [] [.data, .sentinel, .sentinel, .sentinel, .sentinel] true (true, "545c46435fb5861db8dfd099f3ee47ce718407341fb07e4a589bf28d0b9495e6") true
    over (fun _ h => by cases h) (by kernel_rfl) (fun _ h => by cases h) fnBack_row_tie rfl ⟨rfl, rfl⟩ (by kernel_rfl) rfl
    (fun f fn hf hfn => by
      obtain rfl : f = 3 := Option.some.inj ((show Tryd.prog.funcNamed "loop.example/g00720/laws.FnBack" = some 3 by kernel_rfl).symm.trans hf) |>.symm
      obtain rfl : fn = Tryd.f3 := (Option.some.inj (Tryd.func3.symm.trans hfn)).symm
      exact ⟨by kernel_rfl, fun j t ht => by
        rw [Tryd.params3] at ht
        have hm : t ∈ [22] := by simpa using Array.mem_of_getElem? ht
        have hall : ([22].all fun u => !Tryd.prog.wantsStandIn u) = true := by kernel_rfl
        exact (show Tryd.prog.wantsStandIn t = false by simpa using List.all_eq_true.1 hall t hm)⟩)
    (by kernel_rfl)
end Go.Proofs.YthjnhfcncinhiaaDoor.fnBack
namespace Go.Proofs.YthjnhfcncinhiaaDoor
theorem fnBack_holds : Rows.FnBackCardSaid := fnBack.carded
end Go.Proofs.YthjnhfcncinhiaaDoor
