/-
  The law FnShortThere answers true at every code (the program's table lying as the program's text lays it), and leaves it as it was.
-/
import Derived.Test.YtcofhmikdkkigaaGreatDoorRows
import Derived.Test.YtcofhmikdkkigaaGreatDoorCards
import Derived.Test.YtcofhmikdkkigaaGreatDoorTie
import Derived.Test.YtcofhmikdkkigaaGreatDoorPrAV
import Derived.Test.YtcofhmikdkkigaaGreatDoorShortM
import Derived.Test.YtcofhmikdkkigaaGreatDoorPsC
import Derived.Test.YtcofhmikdkkigaaGreatDoorPrBG
import Derived.Test.YtcofhmikdkkigaaGreatDoorPsB
import Derived.WalkKit
import Derived.ProofKit
import Derived.OpenShut
import Derived.LaidMore
import Derived.Stop.Joined
import Derived.OpenVars
import Derived.SevenTiedAt
namespace Go.Proofs.YtcofhmikdkkigaaGreatDoor.fnShortThere
open Go.ChangeShapes Go.WideShapes Go.ChangeAt Go.RowKit
set_option linter.unusedVariables false

def IsRow (k : IntKind) (w : World) (a : Option Addr) (len cap : Nat) (zs : List Int) : Prop :=
  (a = none ∧ len = 0 ∧ cap = 0 ∧ zs = []) ∨
  ∃ x, a = some x ∧ len ≤ cap ∧ cap ≤ maxLen ∧ zs.length = cap ∧ (∀ i, i < zs.length → w.cell? (x.add i) = some (.int k (zs.getD i 0))) ∧ ∀ n ∈ zs, (Lit.int k n).wf = true

theorem own_bo {w : World} {base g n cap : Nat} {xs : List Bool} (hn : xs.length = n) (h : w.ownsRow base 4 1 (.slice (some ⟨g, 0, none⟩) n cap) n (xs.map Value.bool)) (hl : n ≤ 16777216) : ReadsG layBo w (some ⟨g, 0, none⟩) xs := by
  subst hn
  rw [← bo_flat] at h
  exact own_readsG h hl
theorem own_fr {w w' : World} {base g n cap : Nat} {T : TypeId} {xs : List Value} (h : w.ownsRow base T 1 (.slice (some ⟨g, 0, none⟩) n cap) n xs) (k : Fr w w') : w'.ownsRow base T 1 (.slice (some ⟨g, 0, none⟩) n cap) n xs := h.kept k (by simp [Value.ownBlock])
theorem bo_put (k n : Nat) (h : k < n) : (List.replicate k (Value.bool true) ++ List.replicate (n - k) (Value.bool false)).set k (.bool true) = List.replicate (k + 1) (Value.bool true) ++ List.replicate (n - (k + 1)) (Value.bool false) := by
  have e : n - k = (n - (k + 1)) + 1 := by omega
  rw [e, List.replicate_succ, List.set_append_right _ _ (by simp), List.length_replicate, Nat.sub_self, List.set_cons_zero, List.replicate_succ', List.append_assoc]
  rfl
theorem lpL_all {es : List Ev} (hl : es.length ≤ 300) (hleg : (legS scn0 es).2.1 = es.length) : lpL es = es := by
  unfold lpL legLen
  rw [if_neg (by omega), hleg]
  simp

set_option maxHeartbeats 4000000 in
set_option maxRecDepth 20000 in
theorem walk (a0 : Option Addr) (len0 cap0 : Nat) (z0 : List Int) (w : World) (w0 : IsRow .u8 w a0 len0 cap0 z0) (hs : Shapes w) :
    Calls Tryz.prog 5 #[.slice a0 len0 cap0] w fun e w' => e = .returned (.bool true) ∧ Below w.heap.size w w' := by
  have hcap : len0 ≤ 9223372036854775807 := by
    rcases w0 with ⟨_, e, _⟩ | ⟨x, _, h1, h2, _⟩
    · omega
    · unfold maxLen at h2; omega
  by_cases hbig : (4096 : Int) < (len0 : Int)
  · have hd : decide ((4096 : Int) < (len0 : Int)) = true := decide_eq_true hbig
    go_enter Tryz.func5, Tryz.ntmps5
    go_wp2_with fail
    refine (big_any _ _ _ _ hcap).mono ?_
    rintro e u1 ⟨rfl, rfl⟩
    go_wp2_with fail
    go_ret
    exact ⟨rfl, Below.refl _ _⟩
  · have hd : decide ((4096 : Int) < (len0 : Int)) = false := decide_eq_false hbig
    have hr := bytes_of_row w0
    have hl : len0 ≤ 4096 := by omega
    clear hbig
    go_enter Tryz.func5, Tryz.ntmps5
    go_wp2_with fail
    refine (big_any _ _ _ _ hcap).mono ?_
    rintro e u1 ⟨rfl, rfl⟩
    clear w0 hd hcap
    go_wp2_with fail
    refine (roll_any _ _ _ _ _ hr (by omega)).mono ?_
    rintro e u2 ⟨d, hh, rfl, D2, hd2, f2⟩
    have X2 := roll_dx hr D2 hd2 f2
    have hbq := bytes_below hr
    have hz2 := f2.size
    have hdz := D2.lt
    go_wp2_with fail
    refine (trace_any 60 X2 (by omega) (by omega) (by omega) (fun q p hp => by have := hbq q p hp; omega)).mono ?_
    rintro e u3 ⟨es, g, c, m, rfl, o3, ⟨L3, T3⟩, ⟨n2, n3⟩, D3⟩
    clear X2 D2 hr hbq
    have F3 := f2.then D3.g (fun j hj => by simp only [Option.some.injEq] at hj; omega)
    have tg := o3.lt g rfl
    have R := own_readsE o3 (by omega)
    have hc2 : es.length ≤ c := own_capR o3
    have hleg : (legS scn0 es).2.1 = es.length := by rw [L3]
    have hs3 := hs.fr F3
    have htg := tg.2
    have hlp : lpL es = es := lpL_all (by omega) hleg
    have cN := fun u (f : Fr u3 u) lo lc lk hm hL => implShort_any g 0 es.length c lo es.length lc es lk u rfl hc2 (R.fr f) (hs3.fr f) (Nat.lt_of_lt_of_le htg f.size) hm hL (by omega)
    have cR := fun u (f : Fr u3 u) => implRaces_any g 0 es.length c es u rfl hc2 (R.fr f) (hs3.fr f) (Nat.lt_of_lt_of_le htg f.size)
    have cS := fun u (f : Fr u3 u) => specRaces_any g 0 es.length c es u rfl hc2 (R.fr f)
    rw [hlp] at cN cR cS
    have hI := some_iff (es := es) (lk := List.replicate es.length true) (by omega) hleg (fun k hk => by rw [List.getD_eq_getElem?_getD, List.getElem?_replicate, if_pos hk]; rfl)
    have hLe := short_len es (List.replicate es.length true) es.length
    have cN0 := fun u f lo lc hL => cN u f lo lc (List.replicate es.length false) (by simp) hL
    have cN1 := fun u f lo lc hL => cN u f lo lc (List.replicate es.length true) (by simp) hL
    rw [none_len es (List.replicate es.length false) (fun k => by rw [List.getD_eq_getElem?_getD, List.getElem?_replicate]; split <;> rfl)] at cN0
    have hA9 := pairsL_len es [] false es.length (by omega)
    obtain ⟨PA, hPA⟩ : ∃ p, p = pairsL es [] false es.length := ⟨_, rfl⟩
    obtain ⟨PB, hPB⟩ : ∃ p, p = pairsL es (List.replicate es.length true) true es.length := ⟨_, rfl⟩
    rw [← hPA] at hI hLe cR cS hA9
    rw [← hPB] at hI hLe cN1
    clear cN hPA hPB hlp hleg L3 T3 D3 hd2 o3 hs3 R hs
    have hA90 : PA.length ≤ 63000 := by omega
    obtain ⟨i0, hi, hz0, hz1, hz2⟩ := info_parts infoBo8
    clear hA9
    have hN16 : es.length ≤ 210 := by omega
    obtain ⟨NN, hNN⟩ : ∃ n, n = es.length := ⟨_, rfl⟩
    rw [← hNN] at hN16 cN0 cN1 cR cS n2 n3 hc2 ⊢
    clear hNN
    go_wp2_with (at_make; refine wpList_make_full _ rfl _ _ 44 rfl u3.heap.size 4 i0 (.bool false) 1 Tryz.underlying44 hi hz0 hz1 .i64 .i64 _ _ NN rfl rfl rfl rfl (by rw [hz2]; omega) (by unfold maxLen; omega) (Nat.le_refl _) ?_; intro w4 hown hgrow)
    obtain ⟨G, hG⟩ : ∃ G, G = u3.heap.size := ⟨_, rfl⟩
    have o4 : w4.ownsRow u3.heap.size 4 1 (.slice (some ⟨u3.heap.size, 0, none⟩) NN NN) NN (List.replicate NN (Value.bool false)) := by simpa [toList_madeCells_one, Value.cells] using hown
    rw [← hG] at o4 ⊢
    have F4 : Fr u3 w4 := hgrow
    have HG : Hid (G = u3.heap.size) := hG
    clear hown hgrow hG hz0 hz1 hz2 hi
    have r4 : ReadsG layBo w4 (some ⟨G, 0, none⟩) (List.replicate NN false) := own_bo (n := NN) (xs := List.replicate NN false) List.length_replicate (by simpa using o4) (by omega)
    have cN0 := cN0 _ F4 _ NN r4
    go_wp2_with fail
    refine cN0.mono ?_
    rintro x u5 ⟨v5, rfl, o5, f5⟩
    obtain ⟨g5, c5, rfl⟩ := ownG_some o5
    have F5 := F4.trans f5
    have o4 := own_fr o4 f5
    clear o5 cN0 r4 F4 f5
    go_wp2_with fail
    go_loopw [6] (fun i wr => ∃ k : Nat, k ≤ NN ∧ i = .int .i64 k ∧ Fr u3 wr ∧ wr.ownsRow G 4 1 (.slice (some ⟨G, 0, none⟩) NN NN) NN (List.replicate k (Value.bool true) ++ List.replicate (NN - k) (Value.bool false))) (fun i _ => NN - (intOf i).toNat)
    case atStart => exact ⟨0, Nat.zero_le _, rfl, F5, by simpa using o4⟩
    case round =>
      obtain ⟨k, hk, rfl, fr, ho⟩ := hrel
      by_cases hlt : k < NN
      · have hki : (k : Int) < NN := by omega
        have hfz := ho.frozenAt k
        have hce := ho.cellAt k (by omega)
        have hst := ho.stored k (.bool true)
        rw [bo_put k NN hlt] at hst
        obtain ⟨u, hu⟩ : ∃ u, (List.replicate k (Value.bool true) ++ List.replicate (NN - k) (Value.bool false))[k]? = some u := ⟨_, List.getElem?_eq_getElem (by simp; omega)⟩
        rw [hu] at hce
        have fr' : Fr u3 _ := fr.then hst.2 (by intro j hj; simp at hj; have := HG.out; omega)
        clear hu ho fr
        go_wp2_with fail
        go_roundw
        case rel => exact ⟨k + 1, by omega, by go_num, fr', hst.1⟩
        case measure => simp [intOf]; omega
      · obtain rfl : k = NN := by omega
        rw [Nat.sub_self, List.replicate_zero, List.append_nil] at ho
        have r6 : ReadsG layBo wr (some ⟨G, 0, none⟩) (List.replicate k true) := own_bo (n := k) (xs := List.replicate k true) List.length_replicate (by simpa using ho) (by omega)
        have cR := cR _ fr
        clear ho o4
        go_wp2_with fail
        refine cR.mono ?_
        rintro x u7 ⟨v7, rfl, o7, f7⟩
        obtain ⟨g7, c7, rfl⟩ := ownG_some o7
        have cN1 := cN1 _ (fr.trans f7) _ k (r6.fr f7)
        clear o7 cR r6
        go_wp2_with fail
        refine cN1.mono ?_
        rintro x u8 ⟨v8, rfl, o8, f8⟩
        obtain ⟨g8, c8, rfl⟩ := ownG_some o8
        have F8 := (fr.trans f7).trans f8
        have cS := cS _ F8
        clear o8 cN1 fr f7 f8
        obtain ⟨la, hla⟩ : ∃ n, n = PA.length := ⟨_, rfl⟩
        obtain ⟨lb, hlb⟩ : ∃ n, n = PB.length := ⟨_, rfl⟩
        rw [← hla] at hI hLe hA90 ⊢
        rw [← hlb] at hI hLe ⊢
        have HLA : Hid (la = PA.length) := hla
        clear hla hlb
        have d1 : decide ((lb : Int) ≤ (la : Int)) = true := decide_eq_true (by omega)
        by_cases h0 : 0 < la
        · have hb0 := hI.1 h0
          have d2 : decide ((0 : Int) < (la : Int)) = true := decide_eq_true (by omega)
          have d3 : decide ((0 : Int) < (lb : Int)) = true := decide_eq_true (by omega)
          clear hI
          go_wp2_with fail
          refine cS.mono ?_
          rintro x u9 ⟨v9, rfl, o9, f9⟩
          obtain ⟨g9, c9, rfl⟩ := ownG_some o9
          rw [← HLA.out]
          clear o9
          go_wp2_with fail
          go_ret
          exact ⟨rfl, (F3.trans (F8.trans f9)).below⟩
        · have hb0 : ¬ 0 < lb := fun q => h0 (hI.2 q)
          have d2 : decide ((0 : Int) < (la : Int)) = false := decide_eq_false (by omega)
          have d3 : decide ((0 : Int) < (lb : Int)) = false := decide_eq_false (by omega)
          clear hI
          go_wp2_with fail
          refine cS.mono ?_
          rintro x u9 ⟨v9, rfl, o9, f9⟩
          obtain ⟨g9, c9, rfl⟩ := ownG_some o9
          rw [← HLA.out]
          clear o9
          go_wp2_with fail
          go_ret
          exact ⟨rfl, (F3.trans (F8.trans f9)).below⟩

theorem own : ownKnob Tryz.prog.godebug = none := by kernel_rfl
theorem laidOut : laidOutB Tryz.prog = true := by kernel_rfl
theorem met (os : Os) (args : Array Value) : laidMetH Tryz.prog Rows.fnShortThereRow.laid ((World.doorLaid Tryz.prog 400 os).forCall (fun _ _ => 0) ⟨#[], args, []⟩).memory :=
  laidMetH_of_parts3 (fuel := 8) (laidMet_of_run' 8 (by kernel_rfl) (by kernel_rfl)) (by kernel_rfl) (by kernel_rfl)
theorem tables {W : World} (h : laidMetH Tryz.prog Rows.fnShortThereRow.laid W) : Shapes W := by
  rw [MakeChecks.laidMetH_plain _ _ _ (by kernel_rfl)] at h
  obtain ⟨ps, hl, -⟩ := h
  exact shapes_of hl

set_option maxRecDepth 100000 in
theorem lifted (os : Os) (started : os.Started) (H : Type) (enc : TypeId × Value → H) :
    ReturnsInHanded {} Tryz.checked os 5 .any (fun w args => (Rows.fnShortThereSpec.pre enc Tryz.prog Tryz.f5 [] false w args ∧ laidMetH Tryz.prog Rows.fnShortThereRow.laid w) ∧ sizedMet enc Tryz.prog Tryz.f5 (OpenSpec.ofChange Rows.fnShortThereSpec) false w args)
      (Rows.fnShortThereSpec.post enc Tryz.prog Tryz.f5 false true false false) := by
  refine returnsInHanded_of_change_and (C := Tryz.checked) (X := fun w _ => laidMetH Tryz.prog Rows.fnShortThereRow.laid w) (fun _ _ _ hh h => h.of_heap hh) own started (by kernel_rfl) Tryz.func5
    (ChangeSpec.witness_shaped (enc := enc) (C := Tryz.checked) (os := os) (X := fun w _ => laidMetH Tryz.prog Rows.fnShortThereRow.laid w) false (World.doorLaid Tryz.prog 400 os) #[.slice none 0 0] 8 rfl (World.shaped_of_RefB (by kernel_rfl) (by kernel_rfl)) (by kernel_rfl) (by kernel_rfl) (by kernel_rfl) (met os _)) ?_
  intro W base args ds gs before hval0 hW _ _ hL _
  have hval : ∀ (j : Nat) t v, Tryz.f5.params[j]? = some t → args[j]? = some v → Value.okWide Tryz.prog W .any base t v := hval0
  have hW' := hW
  obtain ⟨p, q, hA0, hV, rfl, hfz, hnd⟩ := hW
  have hA : DataW.TrodAll enc Tryz.prog W 0 (fun _ => true) true Tryz.f5.params.toList args.toList ds p := hA0
  rw [Tryz.params5] at hA hval
  obtain ⟨v0, vs0, d0, ds0, p0, q0, hargs, rfl, rfl, h0, r0⟩ := trodAll_cons hA
  obtain ⟨rfl, rfl, rfl⟩ := trodAll_nil r0
  obtain rfl : args = #[v0] := by cases args; simp_all
  have k0 := h0
  have lt0 : ∀ x ∈ p0, x.block < W.heap.size := by obtain ⟨m, hm⟩ := k0; exact DataW.trod_lt m _ _ _ hm
  obtain ⟨a0, len0, cap0, rfl⟩ := okWide_slice Tryz.underlying22 (hval 0 22 v0 rfl rfl)
  obtain ⟨z0, w0⟩ : ∃ zs, IsRow .u8 W a0 len0 cap0 zs := by
    obtain ⟨fuel, hf⟩ := h0
    rcases open_ints Tryz.underlying22 Tryz.underlying5 (by kernel_rfl) hf with ⟨hcs, _⟩ | ⟨x, l, c, zs, hcs, _, hl, hm, hz, _, hcell, hwz⟩
    · simp [Value.cells] at hcs
      obtain ⟨rfl, rfl, rfl⟩ := hcs
      exact ⟨[], .inl ⟨rfl, rfl, rfl, rfl⟩⟩
    · simp [Value.cells] at hcs
      obtain ⟨rfl, rfl, rfl⟩ := hcs
      exact ⟨zs, .inr ⟨_, rfl, hl, hm, by simpa using hz, hcell, hwz⟩⟩
  clear hA0 hval0
  refine (walk a0 len0 cap0 z0 W w0 (tables hL)).mono fun e W' ⟨he, bel⟩ => ?_
  subst he
  match gs, hV with
  | [g1], hV =>
    exact ⟨_, rfl, _, _, _, [], _, _, hW', trodAll_mk1 (shut_bool Tryz.underlying4 _), (trodAll_cons_mk (Below.trod laidOut (by kernel_rfl) (of_decide_eq_true (by kernel_rfl)) k0 bel lt0) trodAll_mk0), Below.trodVars laidOut bel (by kernel_rfl) hV, bel.frame _, fun h => by cases h⟩

theorem over : Rows.fnShortThereRow.holds Tryz.pinned (OpenSpec.ofChange Rows.fnShortThereSpec) :=
  OpenClaim.holds_of_wide 5 Tryz.f5 rfl rfl rfl rfl rfl rfl rfl ⟨rfl, rfl, rfl, rfl, rfl⟩ rfl rfl rfl rfl rfl (by kernel_rfl) Tryz.func5 (by kernel_rfl)
    (of_decide_eq_true (by kernel_rfl)) (by unfold Func.isWrapper; first | (rw [if_pos (by decide +kernel)]; kernel_rfl) | (rw [if_neg (by decide +kernel)]; exact ⟨rfl, rfl⟩))
    (fun os started H enc _ => lifted os started H enc)

theorem carded : Rows.FnShortThereCardSaid :=
  Claim7.holds_tied_plain_at .later [] [.data] true (true, "7639dd462047ea84c6becf31013f2a594706809ba1d62cbc5edc796178d488a3") false
    over (fun _ h => by cases h) (by kernel_rfl) (fun _ h => by cases h) fnShortThere_row_tie rfl ⟨rfl, rfl⟩ (by kernel_rfl) rfl
    (fun f fn hf hfn => by
      obtain rfl : f = 5 := Option.some.inj ((show Tryz.prog.funcNamed "loop.example/g00720/laws.FnShortThere" = some 5 by kernel_rfl).symm.trans hf) |>.symm
      obtain rfl : fn = Tryz.f5 := (Option.some.inj (Tryz.func5.symm.trans hfn)).symm
      exact ⟨by kernel_rfl, fun j t ht => by
        rw [Tryz.params5] at ht
        have hm : t ∈ [22] := by simpa using Array.mem_of_getElem? ht
        have hall : ([22].all fun u => !Tryz.prog.wantsStandIn u) = true := by kernel_rfl
        exact (show Tryz.prog.wantsStandIn t = false by simpa using List.all_eq_true.1 hall t hm)⟩)
    (by kernel_rfl)
end Go.Proofs.YtcofhmikdkkigaaGreatDoor.fnShortThere
namespace Go.Proofs.YtcofhmikdkkigaaGreatDoor
theorem fnShortThere_holds : Rows.FnShortThereCardSaid := fnShortThere.carded
end Go.Proofs.YtcofhmikdkkigaaGreatDoor
