/-
  The law FnBytesBack answers true at every code (no condition but that impl.shapes and the four errors of the program's bytes lie as the program's text lays them), and leaves it as it was.
-/
import Derived.Test.YthjnhfcncinhiaaDoorRows
import Derived.Test.YthjnhfcncinhiaaDoorCards
import Derived.Test.YthjnhfcncinhiaaDoorTie
import Derived.Test.YthjnhfcncinhiaaDoorPackAA
import Derived.Test.YthjnhfcncinhiaaDoorPackAB
import Derived.Test.YthjnhfcncinhiaaDoorPackAL
import Derived.Test.YthjnhfcncinhiaaDoorPackAM
import Derived.Test.YthjnhfcncinhiaaDoorPackAN
import Derived.WalkKit
import Derived.ProofKit
import Derived.OpenShut
import Derived.LaidMore
import Derived.Stop.Joined
import Derived.OpenVars
import Derived.SevenTiedAt
namespace Go.Proofs.YthjnhfcncinhiaaDoor.fnBytesBack
open Go.ChangeShapes Go.WideShapes Go.ChangeAt Go.RowKit
set_option linter.unusedVariables false

def IsRow (k : IntKind) (w : World) (a : Option Addr) (len cap : Nat) (zs : List Int) : Prop :=
  (a = none ∧ len = 0 ∧ cap = 0 ∧ zs = []) ∨
  ∃ x, a = some x ∧ len ≤ cap ∧ cap ≤ maxLen ∧ zs.length = cap ∧ (∀ i, i < zs.length → w.cell? (x.add i) = some (.int k (zs.getD i 0))) ∧ ∀ n ∈ zs, (Lit.int k n).wf = true

set_option maxHeartbeats 2000000 in
theorem walk (a0 : Option Addr) (len0 cap0 : Nat) (z0 : List Int) (w : World) (w0 : IsRow .u8 w a0 len0 cap0 z0) (hs : Shapes w ∧ ∃ eh en ee em, ErrV eh en ee em w) :
    Calls Tryd.prog 4 #[.slice a0 len0 cap0] w fun e w' => e = .returned (.bool true) ∧ Below w.heap.size w w' := by
  obtain ⟨hs, eh, en, ee, em, hv⟩ := hs
  have hcap : len0 ≤ 9223372036854775807 := by
    rcases w0 with ⟨_, e, _⟩ | ⟨x, _, h1, h2, _⟩
    · omega
    · unfold maxLen at h2; omega
  by_cases hbig : (4096 : Int) < (len0 : Int)
  · have hd : decide ((4096 : Int) < (len0 : Int)) = true := decide_eq_true hbig
    go_enter Tryd.func4, Tryd.ntmps4
    go_wp2_with fail
    refine (big_any _ _ _ _ hcap).mono ?_
    rintro e u1 ⟨rfl, rfl⟩
    go_wp2_with fail
    go_ret
    exact ⟨rfl, Below.refl _ _⟩
  · have hd : decide ((4096 : Int) < (len0 : Int)) = false := decide_eq_false hbig
    have hr := bytes_of_row w0
    have hl : len0 ≤ 4096 := by omega
    clear hbig
    go_enter Tryd.func4, Tryd.ntmps4
    go_wp2_with fail
    refine (big_any _ _ _ _ hcap).mono ?_
    rintro e u1 ⟨rfl, rfl⟩
    go_wp2_with fail
    refine (drawDecoded_any _ _ _ _ hr (by omega)).mono ?_
    rintro e u2 ⟨ao, n, cap, rfl, ⟨bs, hn, hr2⟩, hc, hl2, hab, f2⟩
    clear w0 hd hr hcap
    have cI := implDec_any ao n cap bs eh en ee em u2 hn hr2 hab (fun q => by omega) (hv.fr f2) (hs.fr f2)
    have cS := fun u (f : Fr u2 u) => specDec_any ao n cap bs u hn (hr2.fr f)
    unfold DecC at cI cS
    have hu := hr2.bd
    have HE : Hid (hdB bs = true → encB (decL bs).1 = true ∧ (∃ r, bs = encL (decL bs).1 ++ r ∧ ((decL bs).2 = 0 → r = [])) ∧ (decL bs).2 ≠ 1) := fun h => enc_dec hu h
    have HH : Hid (hdB bs = false → decL bs = ([], 1)) := fun h => decL_no h
    obtain ⟨D, hD⟩ : ∃ D, D = decL bs := ⟨_, rfl⟩
    simp only [← hD] at cI cS HE HH
    clear hD
    obtain ⟨es, c⟩ := D
    simp only at cI cS
    go_wp2_with fail
    refine cI.mono ?_
    rintro e u3 ⟨vd, rfl, od, f3⟩
    obtain ⟨gd, cd, rfl, od, hld⟩ := od
    go_wp2_with fail
    refine (cS _ f3).mono ?_
    rintro e u4 ⟨vs, rfl, -, f4⟩
    have od := od.kept f4 (by simp [Value.ownBlock])
    have fB := f3.trans f4
    clear cI cS
    cases hh : hdB bs
    · have h1 := HH.out hh
      simp only [Prod.mk.injEq] at h1
      obtain ⟨rfl, rfl⟩ := h1
      go_wp2_with fail
      go_ret
      exact ⟨rfl, (f2.trans fB).below⟩
    · obtain ⟨hB, ⟨r, hbs, hr0⟩, hc1⟩ := HE.out hh
      have hce : (c == 1) = false := beq_eq_false_iff_ne.2 hc1
      have h3 : 3 ≤ bs.length := by rw [hbs, encL]; simp
      obtain ⟨b, off, rfl, -⟩ := hr2.at_ 0 (by omega)
      have cE := implEnc_any _ _ cd es u4 rfl (own_readsE od hld) ((hs.fr f2).fr fB)
      rw [hB] at cE
      have HJ : Hid (encA es = encL es) := by
        show encA es = encL es
        rw [encA, hB]; rfl
      clear hc1 HE HH hh
      go_wp2_with fail
      refine (cE).mono ?_
      rintro e u5 ⟨vx, rfl, ex, f5⟩
      obtain ⟨gx, nx, cx, rfl, hx0, hx1, mk⟩ := ex.mk
      have hnx := mk.reads.2
      have hrx := mk.reads.1
      rw [HJ.out] at hnx hrx
      have hle : nx ≤ n := by rw [← hn, ← hnx, hbs]; simp
      have htk : bs.take nx = encL es := by rw [← hnx, hbs]; simp
      have hrb := ((hr2.fr fB).fr f5).take nx
      rw [htk] at hrb
      have heq : c = 0 → nx = n := fun h => by rw [← hn, ← hnx, hbs, hr0 h]; simp
      have hcl : nx ≤ cap := by omega
      have hd1 : decide ((nx : Int) ≤ (n : Int)) = true := decide_eq_true (by omega)
      have HF : Hid (Fr u1 u5) := (f2.trans fB).trans f5
      have cl := likeB_same gx 0 b off nx cx cap (encL es) u5 hnx hrx hrb
      clear cE ex mk hbs hr0 hnx hrx htk hrb hr2 hn hu od hB h3 hab
      cases hc0 : (c == 0)
      · have hc2 : (c != 0) = true := by rw [bne, hc0]; rfl
        go_wp2_with fail
        refine cl.mono ?_
        rintro e u6 ⟨rfl, rfl⟩
        go_wp2_with fail
        go_ret
        exact ⟨rfl, HF.out.below⟩
      · have hc2 : (c != 0) = false := by rw [bne, hc0]; rfl
        obtain rfl := heq (beq_iff_eq.1 hc0)
        go_wp2_with fail
        refine cl.mono ?_
        rintro e u6 ⟨rfl, rfl⟩
        go_wp2_with fail
        go_ret
        exact ⟨rfl, HF.out.below⟩

theorem own : ownKnob Tryd.prog.godebug = none := by kernel_rfl
theorem laidOut : laidOutB Tryd.prog = true := by kernel_rfl
theorem met (os : Os) (args : Array Value) : laidMetH Tryd.prog Rows.fnBytesBackRow.laid ((World.doorLaid Tryd.prog 400 os).forCall (fun _ _ => 0) ⟨#[], args, []⟩).memory :=
  laidMetH_of_parts3 (fuel := 8) (laidMet_of_run' 8 (by kernel_rfl) (by kernel_rfl)) (by kernel_rfl) (by kernel_rfl)
theorem tables {W : World} (h : laidMetH Tryd.prog Rows.fnBytesBackRow.laid W) : Shapes W ∧ ∃ eh en ee em, ErrV eh en ee em W := all_of h

set_option maxRecDepth 100000 in
theorem lifted (os : Os) (started : os.Started) (H : Type) (enc : TypeId × Value → H) :
    ReturnsInHanded {} Tryd.checked os 4 .any (fun w args => (Rows.fnBytesBackSpec.pre enc Tryd.prog Tryd.f4 [] false w args ∧ laidMetH Tryd.prog Rows.fnBytesBackRow.laid w) ∧ sizedMet enc Tryd.prog Tryd.f4 (OpenSpec.ofChange Rows.fnBytesBackSpec) false w args)
      (Rows.fnBytesBackSpec.post enc Tryd.prog Tryd.f4 false true false false) := by
  refine returnsInHanded_of_change_and (C := Tryd.checked) (X := fun w _ => laidMetH Tryd.prog Rows.fnBytesBackRow.laid w) (fun _ _ _ hh h => h.of_heap hh) own started (by kernel_rfl) Tryd.func4
    (ChangeSpec.witness_shaped (enc := enc) (C := Tryd.checked) (os := os) (X := fun w _ => laidMetH Tryd.prog Rows.fnBytesBackRow.laid w) false (World.doorLaid Tryd.prog 400 os) #[.slice none 0 0] 8 rfl (World.shaped_of_RefB (by kernel_rfl) (by kernel_rfl)) (by kernel_rfl) (by kernel_rfl) (by kernel_rfl) (met os _)) ?_
  intro W base args ds gs before hval0 hW _ _ hL _
  have hval : ∀ (j : Nat) t v, Tryd.f4.params[j]? = some t → args[j]? = some v → Value.okWide Tryd.prog W .any base t v := hval0
  have hW' := hW
  obtain ⟨p, q, hA0, hV, rfl, hfz, hnd⟩ := hW
  have hA : DataW.TrodAll enc Tryd.prog W 0 (fun _ => true) true Tryd.f4.params.toList args.toList ds p := hA0
  rw [Tryd.params4] at hA hval
  obtain ⟨v0, vs0, d0, ds0, p0, q0, hargs, rfl, rfl, h0, r0⟩ := trodAll_cons hA
  obtain ⟨rfl, rfl, rfl⟩ := trodAll_nil r0
  obtain rfl : args = #[v0] := by cases args; simp_all
  have k0 := h0
  have lt0 : ∀ x ∈ p0, x.block < W.heap.size := by obtain ⟨m, hm⟩ := k0; exact DataW.trod_lt m _ _ _ hm
  obtain ⟨a0, len0, cap0, rfl⟩ := okWide_slice Tryd.underlying22 (hval 0 22 v0 rfl rfl)
  obtain ⟨z0, w0⟩ : ∃ zs, IsRow .u8 W a0 len0 cap0 zs := by
    obtain ⟨fuel, hf⟩ := h0
    rcases open_ints Tryd.underlying22 Tryd.underlying5 (by kernel_rfl) hf with ⟨hcs, _⟩ | ⟨x, l, c, zs, hcs, _, hl, hm, hz, _, hcell, hwz⟩
    · simp [Value.cells] at hcs
      obtain ⟨rfl, rfl, rfl⟩ := hcs
      exact ⟨[], .inl ⟨rfl, rfl, rfl, rfl⟩⟩
    · simp [Value.cells] at hcs
      obtain ⟨rfl, rfl, rfl⟩ := hcs
      exact ⟨zs, .inr ⟨_, rfl, hl, hm, by simpa using hz, hcell, hwz⟩⟩
  clear hA0 hval0
  refine (walk a0 len0 cap0 z0 W w0 (tables hL)).mono fun e W' ⟨he, bel⟩ => ?_
  subst he
  match gs, hV with
  | [g1, g2, g3, g4, g5], hV =>
    exact ⟨_, rfl, _, _, _, [], _, _, hW', trodAll_mk1 (shut_bool Tryd.underlying4 _), (trodAll_cons_mk (Below.trod laidOut (by kernel_rfl) (of_decide_eq_true (by kernel_rfl)) k0 bel lt0) trodAll_mk0), Below.trodVars laidOut bel (by kernel_rfl) hV, bel.frame _, fun h => by cases h⟩

theorem over : Rows.fnBytesBackRow.holds Tryd.pinned (OpenSpec.ofChange Rows.fnBytesBackSpec) :=
  OpenClaim.holds_of_wide 4 Tryd.f4 rfl rfl rfl rfl rfl rfl rfl ⟨rfl, rfl, rfl, rfl, rfl⟩ rfl rfl rfl rfl rfl (by kernel_rfl) Tryd.func4 (by kernel_rfl)
    (of_decide_eq_true (by kernel_rfl)) (by unfold Func.isWrapper; first | (rw [if_pos (by decide +kernel)]; kernel_rfl) | (rw [if_neg (by decide +kernel)]; exact ⟨rfl, rfl⟩))
    (fun os started H enc _ => lifted os started H enc)

theorem carded : Rows.FnBytesBackCardSaid :=
  Claim7.holds_tied_plain_at .later [] [.data, .sentinel, .sentinel, .sentinel, .sentinel] true (true, "545c46435fb5861db8dfd099f3ee47ce718407341fb07e4a589bf28d0b9495e6") true
    over (fun _ h => by cases h) (by kernel_rfl) (fun _ h => by cases h) fnBytesBack_row_tie rfl ⟨rfl, rfl⟩ (by kernel_rfl) rfl
    (fun f fn hf hfn => by
      obtain rfl : f = 4 := Option.some.inj ((show Tryd.prog.funcNamed "loop.example/g00720/laws.FnBytesBack" = some 4 by kernel_rfl).symm.trans hf) |>.symm
      obtain rfl : fn = Tryd.f4 := (Option.some.inj (Tryd.func4.symm.trans hfn)).symm
      exact ⟨by kernel_rfl, fun j t ht => by
        rw [Tryd.params4] at ht
        have hm : t ∈ [22] := by simpa using Array.mem_of_getElem? ht
        have hall : ([22].all fun u => !Tryd.prog.wantsStandIn u) = true := by kernel_rfl
        exact (show Tryd.prog.wantsStandIn t = false by simpa using List.all_eq_true.1 hall t hm)⟩)
    (by kernel_rfl)
end Go.Proofs.YthjnhfcncinhiaaDoor.fnBytesBack
namespace Go.Proofs.YthjnhfcncinhiaaDoor
theorem fnBytesBack_holds : Rows.FnBytesBackCardSaid := fnBytesBack.carded
end Go.Proofs.YthjnhfcncinhiaaDoor
