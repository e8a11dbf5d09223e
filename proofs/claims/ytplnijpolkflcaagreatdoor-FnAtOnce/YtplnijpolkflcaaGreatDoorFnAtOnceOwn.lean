/-
  The law FnAtOnce answers true at every code (the program's table and the library's table of trailing zeros lying as the program's text lays them), and leaves it as it was.
-/
import Derived.Test.YtplnijpolkflcaaGreatDoorRows
import Derived.Test.YtplnijpolkflcaaGreatDoorCards
import Derived.Test.YtplnijpolkflcaaGreatDoorTie
import Derived.Test.YtplnijpolkflcaaGreatDoorPqAI
import Derived.Test.YtplnijpolkflcaaGreatDoorPqBA
import Derived.Test.YtplnijpolkflcaaGreatDoorLawO
import Derived.Test.YtplnijpolkflcaaGreatDoorDoor2
import Derived.WalkKit
import Derived.ProofKit
import Derived.OpenShut
import Derived.LaidMore
import Derived.Stop.Joined
import Derived.OpenVars
import Derived.SevenTiedAt
namespace Go.Proofs.YtplnijpolkflcaaGreatDoor.fnAtOnce
open Go.ChangeShapes Go.WideShapes Go.ChangeAt Go.RowKit
set_option linter.unusedVariables false

def IsRow (k : IntKind) (w : World) (a : Option Addr) (len cap : Nat) (zs : List Int) : Prop :=
  (a = none ∧ len = 0 ∧ cap = 0 ∧ zs = []) ∨
  ∃ x, a = some x ∧ len ≤ cap ∧ cap ≤ maxLen ∧ zs.length = cap ∧ (∀ i, i < zs.length → w.cell? (x.add i) = some (.int k (zs.getD i 0))) ∧ ∀ n ∈ zs, (Lit.int k n).wf = true

set_option maxHeartbeats 4000000 in
set_option maxRecDepth 20000 in
theorem walk (a0 : Option Addr) (len0 cap0 : Nat) (z0 : List Int) (w : World) (w0 : IsRow .u8 w a0 len0 cap0 z0) (hs : Shapes w ∧ Tab w) :
    Calls Tryz.prog 6 #[.slice a0 len0 cap0] w fun e w' => e = .returned (.bool true) ∧ Below w.heap.size w w' := by
  have hcap : len0 ≤ 9223372036854775807 := by
    rcases w0 with ⟨_, e, _⟩ | ⟨x, _, h1, h2, _⟩
    · omega
    · unfold maxLen at h2; omega
  by_cases hbig : (4096 : Int) < (len0 : Int)
  · have hd : decide ((4096 : Int) < (len0 : Int)) = true := decide_eq_true hbig
    go_enter Tryz.func6, Tryz.ntmps6
    go_wp2_with fail
    refine (big_any _ _ _ _ hcap).mono ?_
    rintro e u1 ⟨rfl, rfl⟩
    go_wp2_with fail
    go_ret
    exact ⟨rfl, Below.refl _ _⟩
  · have hd : decide ((4096 : Int) < (len0 : Int)) = false := decide_eq_false hbig
    have hr := bytes_of_row w0
    have hl : len0 ≤ 4096 := by omega
    clear hbig
    obtain ⟨hs, hT⟩ := hs
    go_enter Tryz.func6, Tryz.ntmps6
    go_wp2_with fail
    refine (big_any _ _ _ _ hcap).mono ?_
    rintro e u1 ⟨rfl, rfl⟩
    clear w0 hd hcap
    go_wp2_with fail
    refine (roll_any _ _ _ _ _ hr (by omega)).mono ?_
    rintro e u2 ⟨d, hh, rfl, D2, hd2, f2⟩
    have X2 := roll_dx hr D2 hd2 f2
    have hbq := bytes_below hr
    have hz2 := f2.size
    have hdz := D2.lt
    go_wp2_with fail
    refine (trace_any 24 X2 (by omega) (by omega) (by omega) (fun q p hp => by have := hbq q p hp; omega)).mono ?_
    rintro e u3 ⟨es, g, c, m, rfl, o3, ⟨L3, T3⟩, ⟨n2, n3⟩, D3⟩
    clear X2 D2 hr hbq
    have F3 := f2.then D3.g (fun j hj => by simp only [Option.some.injEq] at hj; omega)
    have tg := o3.lt g rfl
    have R := own_readsE o3 (by omega)
    have hc2 : es.length ≤ c := own_capR o3
    have hleg : (legS scn0 es).2.1 = es.length := by rw [L3]
    have hs3 := hs.fr F3
    have hT3 := hT.fr F3
    have hab : ∀ u, Fr u3 u → ∀ k, blk (some (⟨g, 0, none⟩ : Addr)) = some k → k < u.heap.size := fun u f k hk => by
      simp only [blk, Option.map_some, Option.some.injEq] at hk
      have := f.size
      omega
    have cS := fun u (f : Fr u3 u) (j : Int) => specBef_any g 0 es.length c es u rfl hc2 (R.fr f) j
    have cO := fun u (f : Fr u3 u) => implOnce_any (some ⟨g, 0, none⟩) es.length c es u rfl (R.fr f) (hs3.fr f) (hab u f)
    have cP := fun u (f : Fr u3 u) => implOnce_any (some ⟨g, 0, none⟩) 2 c (es.take 2) u (by simp; omega) ((R.fr f).take _) (hs3.fr f) (hab u f)
    have cB := fun u (f : Fr u3 u) => implBef_any (some ⟨g, 0, none⟩) es.length c es u rfl hc2 (R.fr f) 1 (hs3.fr f) (hT3.fr f) (hab u f)
    rw [onceL_at (by omega) hleg] at cO
    rw [once_first (by omega) hleg n2] at cP
    have HB1 : Hid ((rsL (rJ es 1).2).length = 1) := by
      have := rJ_at (es := es) (J := 1) (by omega) hleg (by omega)
      rw [show ((1 : Nat) : Int) = 1 from rfl] at this
      rw [this, rsL_pop]
      exact pop_first (by omega) hleg n2
    have HS : Hid (∀ k, k < es.length → (rsL (rJ es k).2).length = popS (befN (eE es) k) ∧ atO es (k + 1) = atO es k + ((k : Int) - popS (befN (eE es) k))) := fun k hk => by
      rw [rJ_at (by omega) hleg hk, rsL_pop]
      exact ⟨rfl, rfl⟩
    have HA : Hid (∀ k : Nat, k ≤ 300 → -(320 * (k : Int)) ≤ atO es k ∧ atO es k ≤ 300 * (k : Int)) := atO_in es
    have hc20 : (2 : Int) ≤ c := by omega
    have H0 : Hid (atO es 0 = 0) := rfl
    clear hleg L3 T3 D3 hd2 o3 hs3 hT3 hab R hs hT
    obtain ⟨aO, haO⟩ : ∃ f, f = atO es := ⟨_, rfl⟩
    rw [← haO] at HS HA H0
    simp only [← haO] at cO
    obtain ⟨ls, hls⟩ : ∃ f : Nat → List Int, ∀ k : Nat, rsL (rJ es k).2 = f k := ⟨_, fun _ => rfl⟩
    simp only [hls] at HS
    have cS := fun u f (k : Nat) => cS u f k
    simp only [hls] at cS
    have HLL : Hid (∀ k, (ls k).length ≤ 320) := fun k => by rw [← hls]; exact rsL_len _
    clear haO hls
    go_wp2_with fail
    go_loopw [4, 5] (fun n j wr => ∃ k : Nat, k ≤ es.length ∧ j = .int .i64 k ∧ n = .int .i64 (aO k) ∧ Fr u3 wr) (fun _ j _ => es.length - (intOf j).toNat)
    case atStart => exact ⟨0, Nat.zero_le _, rfl, by rw [H0.out], Fr.refl _⟩
    case round =>
      obtain ⟨k, hk, rfl, rfl, fr⟩ := hrel
      by_cases hlt : k < es.length
      · have hki : (k : Int) < es.length := by omega
        have cS := cS _ fr k
        obtain ⟨h1, h2⟩ := HS.out k hlt
        have hb1 := HA.out k (by omega)
        have hb2 := HLL.out k
        have H2 : Hid (aO (k + 1) = aO k + ((k : Int) - ((ls k).length : Nat))) := by rw [h2, h1]; exact rfl
        obtain ⟨P, hP⟩ : ∃ P, P = aO k := ⟨_, rfl⟩
        rw [← hP] at hb1 H2 ⊢
        clear h1 h2 hP
        go_wp2_with fail
        refine cS.mono ?_
        rintro x u5 ⟨v5, rfl, o5, f5⟩
        obtain ⟨g5, c5, rfl, o5⟩ := o5
        clear cS o5
        obtain ⟨q, hq⟩ : ∃ q, q = (ls k).length := ⟨_, rfl⟩
        rw [← hq] at H2 hb2 ⊢
        clear hq
        go_wp2_with fail
        go_roundw
        case rel => exact ⟨k + 1, by omega, by go_num, by rw [H2.out]; go_num, fr.trans f5⟩
        case measure => simp [intOf] <;> omega
      · have e : k = es.length := by omega
        subst e
        have cO := cO _ fr
        have hbb : (aO es.length == aO es.length) = true := by simp
        obtain ⟨P, hP⟩ : ∃ P, P = aO es.length := ⟨_, rfl⟩
        rw [← hP] at hbb ⊢
        simp only [← hP] at cO
        clear hP
        go_wp2_with fail
        refine cO.mono ?_
        rintro x u5 ⟨rfl, f5⟩
        clear cO
        have cP := cP _ (fr.trans f5)
        go_wp2_with fail
        refine cP.mono ?_
        rintro x u6 ⟨rfl, f6⟩
        clear cP
        have cB := cB _ ((fr.trans f5).trans f6)
        go_wp2_with fail
        refine cB.mono ?_
        rintro x u7 ⟨v7, rfl, o7, f7⟩
        obtain ⟨g7, c7, rfl, o7⟩ := o7
        rw [HB1.out]
        clear cB o7
        go_wp2_with fail
        go_ret
        exact ⟨rfl, (F3.trans (((fr.trans f5).trans f6).trans f7)).below⟩

theorem own : ownKnob Tryz.prog.godebug = none := by kernel_rfl
theorem laidOut : laidOutB Tryz.prog = true := by kernel_rfl
theorem met (os : Os) (args : Array Value) : laidMetH Tryz.prog Rows.fnAtOnceRow.laid ((World.doorLaid Tryz.prog 400 os).forCall (fun _ _ => 0) ⟨#[], args, []⟩).memory :=
  laidMetH_of_parts3 (fuel := 8) (laidMet_of_run' 8 (by kernel_rfl) (by kernel_rfl)) (by kernel_rfl) (by kernel_rfl)
theorem tables {W : World} (h : laidMetH Tryz.prog Rows.fnAtOnceRow.laid W) : Shapes W ∧ Tab W := tab_of h

set_option maxRecDepth 100000 in
theorem lifted (os : Os) (started : os.Started) (H : Type) (enc : TypeId × Value → H) :
    ReturnsInHanded {} Tryz.checked os 6 .any (fun w args => (Rows.fnAtOnceSpec.pre enc Tryz.prog Tryz.f6 [] false w args ∧ laidMetH Tryz.prog Rows.fnAtOnceRow.laid w) ∧ sizedMet enc Tryz.prog Tryz.f6 (OpenSpec.ofChange Rows.fnAtOnceSpec) false w args)
      (Rows.fnAtOnceSpec.post enc Tryz.prog Tryz.f6 false true false false) := by
  refine returnsInHanded_of_change_and (C := Tryz.checked) (X := fun w _ => laidMetH Tryz.prog Rows.fnAtOnceRow.laid w) (fun _ _ _ hh h => h.of_heap hh) own started (by kernel_rfl) Tryz.func6
    (ChangeSpec.witness_shaped (enc := enc) (C := Tryz.checked) (os := os) (X := fun w _ => laidMetH Tryz.prog Rows.fnAtOnceRow.laid w) false (World.doorLaid Tryz.prog 400 os) #[.slice none 0 0] 8 rfl (World.shaped_of_RefB (by kernel_rfl) (by kernel_rfl)) (by kernel_rfl) (by kernel_rfl) (by kernel_rfl) (met os _)) ?_
  intro W base args ds gs before hval0 hW _ _ hL _
  have hval : ∀ (j : Nat) t v, Tryz.f6.params[j]? = some t → args[j]? = some v → Value.okWide Tryz.prog W .any base t v := hval0
  have hW' := hW
  obtain ⟨p, q, hA0, hV, rfl, hfz, hnd⟩ := hW
  have hA : DataW.TrodAll enc Tryz.prog W 0 (fun _ => true) true Tryz.f6.params.toList args.toList ds p := hA0
  rw [Tryz.params6] at hA hval
  obtain ⟨v0, vs0, d0, ds0, p0, q0, hargs, rfl, rfl, h0, r0⟩ := trodAll_cons hA
  obtain ⟨rfl, rfl, rfl⟩ := trodAll_nil r0
  obtain rfl : args = #[v0] := by cases args; simp_all
  have k0 := h0
  have lt0 : ∀ x ∈ p0, x.block < W.heap.size := by obtain ⟨m, hm⟩ := k0; exact DataW.trod_lt m _ _ _ hm
  obtain ⟨a0, len0, cap0, rfl⟩ := okWide_slice Tryz.underlying22 (hval 0 22 v0 rfl rfl)
  obtain ⟨z0, w0⟩ : ∃ zs, IsRow .u8 W a0 len0 cap0 zs := by
    obtain ⟨fuel, hf⟩ := h0
    rcases open_ints Tryz.underlying22 Tryz.underlying5 (by kernel_rfl) hf with ⟨hcs, _⟩ | ⟨x, l, c, zs, hcs, _, hl, hm, hz, _, hcell, hwz⟩
    · simp [Value.cells] at hcs
      obtain ⟨rfl, rfl, rfl⟩ := hcs
      exact ⟨[], .inl ⟨rfl, rfl, rfl, rfl⟩⟩
    · simp [Value.cells] at hcs
      obtain ⟨rfl, rfl, rfl⟩ := hcs
      exact ⟨zs, .inr ⟨_, rfl, hl, hm, by simpa using hz, hcell, hwz⟩⟩
  clear hA0 hval0
  refine (walk a0 len0 cap0 z0 W w0 (tables hL)).mono fun e W' ⟨he, bel⟩ => ?_
  subst he
  match gs, hV with
  | [g1], hV =>
    exact ⟨_, rfl, _, _, _, [], _, _, hW', trodAll_mk1 (shut_bool Tryz.underlying4 _), (trodAll_cons_mk (Below.trod laidOut (by kernel_rfl) (of_decide_eq_true (by kernel_rfl)) k0 bel lt0) trodAll_mk0), Below.trodVars laidOut bel (by kernel_rfl) hV, bel.frame _, fun h => by cases h⟩

theorem over : Rows.fnAtOnceRow.holds Tryz.pinned (OpenSpec.ofChange Rows.fnAtOnceSpec) :=
  OpenClaim.holds_of_wide 6 Tryz.f6 rfl rfl rfl rfl rfl rfl rfl ⟨rfl, rfl, rfl, rfl, rfl⟩ rfl rfl rfl rfl rfl (by kernel_rfl) Tryz.func6 (by kernel_rfl)
    (of_decide_eq_true (by kernel_rfl)) (by unfold Func.isWrapper; first | (rw [if_pos (by decide +kernel)]; kernel_rfl) | (rw [if_neg (by decide +kernel)]; exact ⟨rfl, rfl⟩))
    (fun os started H enc _ => lifted os started H enc)

theorem carded : Rows.FnAtOnceCardSaid :=
  Claim7.holds_tied_plain_at .later [] [.data, .data] true (true, "c8c86fbfcb0ec0263521a6b49a723e48f4ddd29d4ec6979f56b84374441e9c3a") false
    over (fun _ h => by cases h) (by kernel_rfl) (fun _ h => by cases h) fnAtOnce_row_tie rfl ⟨rfl, rfl⟩ (by kernel_rfl) rfl
    (fun f fn hf hfn => by
      obtain rfl : f = 6 := Option.some.inj ((show Tryz.prog.funcNamed "loop.example/g00720/laws.FnAtOnce" = some 6 by kernel_rfl).symm.trans hf) |>.symm
      obtain rfl : fn = Tryz.f6 := (Option.some.inj (Tryz.func6.symm.trans hfn)).symm
      exact ⟨by kernel_rfl, fun j t ht => by
        rw [Tryz.params6] at ht
        have hm : t ∈ [22] := by simpa using Array.mem_of_getElem? ht
        have hall : ([22].all fun u => !Tryz.prog.wantsStandIn u) = true := by kernel_rfl
        exact (show Tryz.prog.wantsStandIn t = false by simpa using List.all_eq_true.1 hall t hm)⟩)
    (by kernel_rfl)
end Go.Proofs.YtplnijpolkflcaaGreatDoor.fnAtOnce
namespace Go.Proofs.YtplnijpolkflcaaGreatDoor
theorem fnAtOnce_holds : Rows.FnAtOnceCardSaid := fnAtOnce.carded
end Go.Proofs.YtplnijpolkflcaaGreatDoor
