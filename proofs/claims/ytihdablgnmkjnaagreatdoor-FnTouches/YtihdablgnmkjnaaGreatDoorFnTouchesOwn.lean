/-
  The law FnTouches answers true at every code (the program's table lying as its text lays it), and leaves it as it was.
-/
import Derived.Test.YtihdablgnmkjnaaGreatDoorRows
import Derived.Test.YtihdablgnmkjnaaGreatDoorCards
import Derived.Test.YtihdablgnmkjnaaGreatDoorTie
import Derived.Test.YtihdablgnmkjnaaGreatDoorPackAA
import Derived.Test.YtihdablgnmkjnaaGreatDoorPackAZ
import Derived.Deep.QuietTactic
import Derived.BigQuiet
import Derived.WalkKit
import Derived.ProofKit
import Derived.OpenShut
import Derived.LaidMore
import Derived.Stop.Joined
import Derived.OpenVars
import Derived.SevenTiedAt
namespace Go.Proofs.YtihdablgnmkjnaaGreatDoor.fnTouches
open Go.ChangeShapes Go.WideShapes Go.ChangeAt Go.RowKit
set_option linter.unusedVariables false

def IsRow (k : IntKind) (w : World) (a : Option Addr) (len cap : Nat) (zs : List Int) : Prop :=
  (a = none ∧ len = 0 ∧ cap = 0 ∧ zs = []) ∨
  ∃ x, a = some x ∧ len ≤ cap ∧ cap ≤ maxLen ∧ zs.length = cap ∧ (∀ i, i < zs.length → w.cell? (x.add i) = some (.int k (zs.getD i 0))) ∧ ∀ n ∈ zs, (Lit.int k n).wf = true

theorem own_capT {w : World} {base e size g n cap : Nat} {xs : List Value} (h : w.ownsRow base e size (.slice (some ⟨g, 0, none⟩) n cap) n xs) : n ≤ cap := by
  rcases h.2 with ⟨q, _⟩ | ⟨g', c', cur, q, _, _, hnc, _⟩
  · simp at q
  · simp only [Value.slice.injEq] at q
    omega
theorem touJ_len (es : List Ev) (j : Int) : (touJ es j).length ≤ 2 := by
  unfold touJ
  split
  · exact tch_len _ _
  · simp
theorem bytes_below {w : World} {ao : Option Addr} {n : Nat} (h : ByteRow w ao n) : 0 < n → ∀ q, blk ao = some q → q < w.heap.size := fun hn q hq => by
  obtain ⟨b, off, e, hc⟩ := h 0 hn
  obtain ⟨x, q1, -⟩ := hc 0 hn
  have := World.block_lt_of_cell? w _ q1
  rw [e] at hq
  simp only [blk, Option.map_some, Option.some.injEq] at hq
  simp only at this
  omega
theorem roll_dx {w u : World} {ao : Option Addr} {n cap d : Nat} {hh : Int} (h : ByteRow w ao n) (D : Dice u d ao n cap 0 hh) (hd : w.heap.size ≤ d) (f : Fr w u) : DX u u d ao n cap := by
  refine ⟨grown_refl u _, ⟨0, hh, D⟩, fun i hi => ?_, fun q k hk => ?_⟩
  · obtain ⟨b, off, e, hc⟩ := h i hi
    exact ⟨b, off, e, fun j hj => by obtain ⟨x, q1, q2⟩ := hc j hj; exact ⟨x, f.cell q1, q2⟩⟩
  · have := bytes_below h q k hk
    omega

set_option maxHeartbeats 4000000 in
set_option maxRecDepth 20000 in
theorem walk (a0 : Option Addr) (len0 cap0 : Nat) (z0 : List Int) (w : World) (w0 : IsRow .u8 w a0 len0 cap0 z0) (hs : Shapes w) :
    Calls Tryz.prog 5 #[.slice a0 len0 cap0] w fun e w' => e = .returned (.bool true) ∧ Below w.heap.size w w' := by
  have hcap : len0 ≤ 9223372036854775807 := by
    rcases w0 with ⟨_, e, _⟩ | ⟨x, _, h1, h2, _⟩
    · omega
    · unfold maxLen at h2; omega
  by_cases hbig : (4096 : Int) < (len0 : Int)
  · have hd : decide ((4096 : Int) < (len0 : Int)) = true := decide_eq_true hbig
    go_enter Tryz.func5, Tryz.ntmps5
    go_wp2_with fail
    refine (big_any _ _ _ _ hcap).mono ?_
    rintro e u1 ⟨rfl, rfl⟩
    go_wp2_with fail
    go_ret
    exact ⟨rfl, Below.refl _ _⟩
  · have hd : decide ((4096 : Int) < (len0 : Int)) = false := decide_eq_false hbig
    have hr := bytes_of_row w0
    have hl : len0 ≤ 4096 := by omega
    clear hbig
    go_enter Tryz.func5, Tryz.ntmps5
    go_wp2_with fail
    refine (big_any _ _ _ _ hcap).mono ?_
    rintro e u1 ⟨rfl, rfl⟩
    clear w0 hd hcap
    go_wp2_with fail
    refine (roll_any _ _ _ _ _ hr (by omega)).mono ?_
    rintro e u2 ⟨d, hh, rfl, D2, hd2, f2⟩
    have X2 := roll_dx hr D2 hd2 f2
    have hbq := bytes_below hr
    have hz2 := f2.size
    have hdz := D2.lt
    go_wp2_with fail
    refine (trace_any 60 X2 (by omega) (by omega) (by omega) (fun q p hp => by have := hbq q p hp; omega)).mono ?_
    rintro e u3 ⟨es, g, c, m, rfl, o3, ⟨L3, T3⟩, ⟨n2, n3⟩, D3⟩
    clear X2 D2 hr hbq
    have F3 := f2.then D3.g (fun j hj => by simp only [Option.some.injEq] at hj; omega)
    have tg := o3.lt g rfl
    go_wp2_with fail
    refine (belowX D3 (by omega) (es.length : Int) (by omega) (by omega)).mono ?_
    rintro e u4 ⟨r, rfl, r0, r1, g4, -⟩
    have F4 := F3.then g4 (fun j hj => by simp only [Option.some.injEq] at hj; omega)
    have o4 := o3.kept g4 (.inr (by simp only [Value.ownBlock, ne_eq, Option.some.injEq]; omega))
    have z4 := g4.size
    obtain ⟨J, rfl⟩ : ∃ J : Nat, r = J := ⟨r.toNat, by omega⟩
    have hJ : J < es.length := by omega
    have R := own_readsE o4 (by omega)
    have hc2 : es.length ≤ c := own_capT o4
    have hs4 := hs.fr F4
    have hab : ∀ u, Fr u4 u → ∀ k, blk (some (⟨g, 0, none⟩ : Addr)) = some k → k < u.heap.size := fun u f k hk => by
      simp only [blk, Option.map_some, Option.some.injEq] at hk
      have := f.size
      omega
    have cA := fun u (f : Fr u4 u) => implTouches_any (some ⟨g, 0, none⟩) es.length c es u rfl hc2 (R.fr f) J (hs4.fr f) (hab u f)
    have cB := fun u (f : Fr u4 u) => implTouches_any (some ⟨g, 0, none⟩) (J + 1) c (es.take (J + 1)) u (by simp; omega) (by omega) ((R.fr f).take _) J (hs4.fr f) (hab u f)
    have cC := fun u (f : Fr u4 u) => implTouches_any (some ⟨g, 0, none⟩) J c (es.take J) u (by simp; omega) (by omega) ((R.fr f).take _) J (hs4.fr f) (hab u f)
    have cS := fun u (f : Fr u4 u) => specTouches_any (some ⟨g, 0, none⟩) es.length c es u rfl (R.fr f) J
    rw [touJ_part L3 (by omega) hJ] at cB
    simp only [touJ_none] at cC
    have HG : Hid (∀ t ∈ touJ es J, goodT t) := touJ_good es J
    have hTl := touJ_len es J
    obtain ⟨T, hT⟩ : ∃ T, T = touJ es J := ⟨_, rfl⟩
    simp only [← hT] at cA cB cS HG hTl
    clear hT
    have hL := leg_at hJ (by rw [leg_whole L3 (by omega)]; omega)
    have HGO := gors_of hL.2.1
    have cO := fun u (f : Fr u4 u) => implGors_any es[J] u (hs4.fr f)
    obtain ⟨eb, off, e0, hev⟩ := R.at_ J hJ
    simp only [Option.some.injEq, Addr.mk.injEq, and_true] at e0
    obtain ⟨rfl, rfl⟩ := e0
    have ev := hev J hJ
    obtain ⟨e, he⟩ : ∃ e, e = es[J] := ⟨_, rfl⟩
    rw [← he] at HGO ev
    simp only [← he] at cO
    clear he hL hev L3 T3
    have HGO : Hid _ := HGO
    have EV : Hid (∀ u, Fr u4 u → EvC u g (0 + J * 8) e) := fun u f => ev.keep f (by simp)
    clear ev o3 o4 D3 g4 hs4 R hab hd2 F3
    have hw1 : IntKind.i64.wrap ((J : Int) + 1) = ((J + 1 : Nat) : Int) := by rw [IntKind.wrap_i64]; omega
    have hj1 : ((J + 1 : Nat) : Int) ≤ c := by omega
    have hj0 : (J : Int) ≤ c := by omega
    have hn1 : ((T.length : Int) != (T.length : Int)) = false := by simp
    go_wp2_with fail
    refine (cA _ (Fr.refl _)).mono ?_
    rintro e u5 ⟨va, rfl, oa, f5⟩
    obtain ⟨ga, ca, rfl, oa, la⟩ := oa
    go_wp2_with fail
    refine (cB _ f5).mono ?_
    rintro e u6 ⟨vb, rfl, ob, f6⟩
    obtain ⟨gb, cb, rfl, ob, lb⟩ := ob
    have F6 := f5.trans f6
    have oa := oa.kept f6 (by simp [Value.ownBlock])
    go_wp2_with fail
    refine (cS _ F6).mono ?_
    rintro e u7 ⟨vs, rfl, os, f7⟩
    obtain ⟨gs, cs, rfl, os, ls⟩ := os
    have F7 := F6.trans f7
    go_wp2_with fail
    refine (cC _ F7).mono ?_
    rintro e u8 ⟨vc, rfl, oc, f8⟩
    obtain ⟨gc, cc, rfl, oc, lc⟩ := oc
    have F8 := F7.trans f8
    have Ra := (own_readsG oa la).fr (f7.trans f8)
    have Rb := (own_readsG ob lb).fr (f7.trans f8)
    clear oa ob os oc f5 f6 f7 f8 F6 F7 cA cB cC cS
    go_wp2_with fail
    go_loopw [8] (fun i wr => ∃ k : Nat, k ≤ T.length ∧ i = .int .i64 k ∧ Fr u8 wr) (fun i _ => T.length - (intOf i).toNat)
    case atStart => exact ⟨0, Nat.zero_le _, rfl, Fr.refl _⟩
    case round =>
      obtain ⟨k, hk, rfl, fr⟩ := hrel
      by_cases hlt : k < T.length
      · obtain ⟨b1, o1, e1, a0, a1, a2, a3, a4⟩ := tc_at (Ra.fr fr) k hlt
        simp only [Option.some.injEq, Addr.mk.injEq, and_true] at e1
        obtain ⟨rfl, rfl⟩ := e1
        obtain ⟨b2, o2, e2, d0, d1, d2, d3, d4⟩ := tc_at (Rb.fr fr) k hlt
        simp only [Option.some.injEq, Addr.mk.injEq, and_true] at e2
        obtain ⟨rfl, rfl⟩ := e2
        have G := HG.out T[k] (List.getElem_mem hlt)
        obtain ⟨t, ht⟩ : ∃ t, t = T[k] := ⟨_, rfl⟩
        rw [← ht] at a0 a1 a2 a3 a4 d0 d1 d2 d3 d4 G
        clear ht
        obtain ⟨sp, ob, sl, tk, gv⟩ := t
        obtain ⟨⟨G1, G2⟩, G3⟩ := G
        simp only at a0 a1 a2 a3 a4 d0 d1 d2 d3 d4 G1 G2 G3
        have q1 : decide (sp < 1) = false := decide_eq_false (by omega)
        have q2 : decide (7 < sp) = false := decide_eq_false (by omega)
        have hi : (k : Int) < T.length := by omega
        clear Ra Rb EV cO
        simp only [Nat.zero_add] at a0 a1 a2 a3 a4 d0 d1 d2 d3 d4
        cases tk
        · have hgv : gv = true := by simpa using G3
          subst hgv
          clear G3 G1 G2
          go_wp2_with fail
          go_quiet (fail)
          go_wp2_with fail
          go_roundw
          case rel => exact ⟨k + 1, by omega, by go_num, fr.trans (Fr.drewN _ _)⟩
          case measure => simp [intOf]; omega
        · clear G3 G1 G2
          go_wp2_with fail
          go_quiet (fail)
          go_wp2_with fail
          go_roundw
          case rel => exact ⟨k + 1, by omega, by go_num, fr.trans (Fr.drewN _ _)⟩
          case measure => simp [intOf]; omega
      · have G8 := F8.trans fr
        clear Ra Rb HG
        obtain ⟨ek, eg, eo, ew, el, ez, ef, et⟩ := e
        have cO := cO _ G8
        have hjn : (J : Int) < es.length := by omega
        obtain ⟨c0, c1, c2, c3, c4, c5, c6, c7⟩ := EV.out _ G8
        simp only [Nat.zero_add] at c0 c1 c2 c3 c4 c5 c6 c7
        simp only at cO
        have HG1 := HGO.out.1
        have HG2 := HGO.out.2
        simp only at HG1 HG2
        clear HGO
        have HG1 : Hid _ := HG1
        have HG2 : Hid _ := HG2
        go_wp2_with fail
        refine cO.mono ?_
        rintro x u9 ⟨gg, rfl, og, f9⟩
        clear cO c0 c1 c2 c3 c4 c5 c6 c7
        obtain ⟨c0, c1, c2, c3, c4, c5, c6, c7⟩ := EV.out _ (G8.trans f9)
        simp only [Nat.zero_add] at c0 c1 c2 c3 c4 c5 c6 c7
        have cH := has_any (some ⟨gg, 0, none⟩) _ (gorsL ⟨ek, eg, eo, ew, el, ez, ef, et⟩).length (gorsL ⟨ek, eg, eo, ew, el, ez, ef, et⟩) eg u9 rfl og.reads
        rw [HG1.out] at cH
        obtain ⟨nn, hnn⟩ : ∃ nn, nn = (gorsL ⟨ek, eg, eo, ew, el, ez, ef, et⟩).length := ⟨_, rfl⟩
        rw [← hnn] at HG2
        simp only [← hnn] at cH ⊢
        clear hnn og
        by_cases h9 : ek = 9
        · have hn2 : nn = 2 := by
            have := HG2.out
            rw [decide_eq_true h9] at this
            exact of_decide_eq_true this
          subst hn2 h9
          go_wp2_with fail
          refine cH.mono ?_
          rintro x u10 ⟨rfl, rfl⟩
          go_wp2_with fail
          go_ret
          exact ⟨rfl, (F4.trans (G8.trans f9)).below⟩
        · have hn2 : nn ≠ 2 := fun q => by
            have := HG2.out
            rw [decide_eq_false h9, decide_eq_true q] at this
            cases this
          have hb9 : (ek == 9) = false := by simp [h9]
          have hb2 : ((nn : Int) == 2) = false := by simp; omega
          clear h9 hn2
          go_wp2_with fail
          refine cH.mono ?_
          rintro x u10 ⟨rfl, rfl⟩
          go_wp2_with fail
          go_ret
          exact ⟨rfl, (F4.trans (G8.trans f9)).below⟩

theorem own : ownKnob Tryz.prog.godebug = none := by kernel_rfl
theorem laidOut : laidOutB Tryz.prog = true := by kernel_rfl
theorem met (os : Os) (args : Array Value) : laidMetH Tryz.prog Rows.fnTouchesRow.laid ((World.doorLaid Tryz.prog 400 os).forCall (fun _ _ => 0) ⟨#[], args, []⟩).memory :=
  laidMetH_of_parts3 (fuel := 8) (laidMet_of_run' 8 (by kernel_rfl) (by kernel_rfl)) (by kernel_rfl) (by kernel_rfl)
theorem tables {W : World} (h : laidMetH Tryz.prog Rows.fnTouchesRow.laid W) : Shapes W := by
  rw [MakeChecks.laidMetH_plain _ _ _ (by kernel_rfl)] at h
  obtain ⟨ps, hl, -⟩ := h
  exact shapes_of hl

set_option maxRecDepth 100000 in
theorem lifted (os : Os) (started : os.Started) (H : Type) (enc : TypeId × Value → H) :
    ReturnsInHanded {} Tryz.checked os 5 .any (fun w args => (Rows.fnTouchesSpec.pre enc Tryz.prog Tryz.f5 [] false w args ∧ laidMetH Tryz.prog Rows.fnTouchesRow.laid w) ∧ sizedMet enc Tryz.prog Tryz.f5 (OpenSpec.ofChange Rows.fnTouchesSpec) false w args)
      (Rows.fnTouchesSpec.post enc Tryz.prog Tryz.f5 false true false false) := by
  refine returnsInHanded_of_change_and (C := Tryz.checked) (X := fun w _ => laidMetH Tryz.prog Rows.fnTouchesRow.laid w) (fun _ _ _ hh h => h.of_heap hh) own started (by kernel_rfl) Tryz.func5
    (ChangeSpec.witness_shaped (enc := enc) (C := Tryz.checked) (os := os) (X := fun w _ => laidMetH Tryz.prog Rows.fnTouchesRow.laid w) false (World.doorLaid Tryz.prog 400 os) #[.slice none 0 0] 8 rfl (World.shaped_of_RefB (by kernel_rfl) (by kernel_rfl)) (by kernel_rfl) (by kernel_rfl) (by kernel_rfl) (met os _)) ?_
  intro W base args ds gs before hval0 hW _ _ hL _
  have hval : ∀ (j : Nat) t v, Tryz.f5.params[j]? = some t → args[j]? = some v → Value.okWide Tryz.prog W .any base t v := hval0
  have hW' := hW
  obtain ⟨p, q, hA0, hV, rfl, hfz, hnd⟩ := hW
  have hA : DataW.TrodAll enc Tryz.prog W 0 (fun _ => true) true Tryz.f5.params.toList args.toList ds p := hA0
  rw [Tryz.params5] at hA hval
  obtain ⟨v0, vs0, d0, ds0, p0, q0, hargs, rfl, rfl, h0, r0⟩ := trodAll_cons hA
  obtain ⟨rfl, rfl, rfl⟩ := trodAll_nil r0
  obtain rfl : args = #[v0] := by cases args; simp_all
  have k0 := h0
  have lt0 : ∀ x ∈ p0, x.block < W.heap.size := by obtain ⟨m, hm⟩ := k0; exact DataW.trod_lt m _ _ _ hm
  obtain ⟨a0, len0, cap0, rfl⟩ := okWide_slice Tryz.underlying22 (hval 0 22 v0 rfl rfl)
  obtain ⟨z0, w0⟩ : ∃ zs, IsRow .u8 W a0 len0 cap0 zs := by
    obtain ⟨fuel, hf⟩ := h0
    rcases open_ints Tryz.underlying22 Tryz.underlying5 (by kernel_rfl) hf with ⟨hcs, _⟩ | ⟨x, l, c, zs, hcs, _, hl, hm, hz, _, hcell, hwz⟩
    · simp [Value.cells] at hcs
      obtain ⟨rfl, rfl, rfl⟩ := hcs
      exact ⟨[], .inl ⟨rfl, rfl, rfl, rfl⟩⟩
    · simp [Value.cells] at hcs
      obtain ⟨rfl, rfl, rfl⟩ := hcs
      exact ⟨zs, .inr ⟨_, rfl, hl, hm, by simpa using hz, hcell, hwz⟩⟩
  clear hA0 hval0
  refine (walk a0 len0 cap0 z0 W w0 (tables hL)).mono fun e W' ⟨he, bel⟩ => ?_
  subst he
  match gs, hV with
  | [g1], hV =>
    exact ⟨_, rfl, _, _, _, [], _, _, hW', trodAll_mk1 (shut_bool Tryz.underlying4 _), (trodAll_cons_mk (Below.trod laidOut (by kernel_rfl) (of_decide_eq_true (by kernel_rfl)) k0 bel lt0) trodAll_mk0), Below.trodVars laidOut bel (by kernel_rfl) hV, bel.frame _, fun h => by cases h⟩

theorem over : Rows.fnTouchesRow.holds Tryz.pinned (OpenSpec.ofChange Rows.fnTouchesSpec) :=
  OpenClaim.holds_of_wide 5 Tryz.f5 rfl rfl rfl rfl rfl rfl rfl ⟨rfl, rfl, rfl, rfl, rfl⟩ rfl rfl rfl rfl rfl (by kernel_rfl) Tryz.func5 (by kernel_rfl)
    (of_decide_eq_true (by kernel_rfl)) (by unfold Func.isWrapper; first | (rw [if_pos (by decide +kernel)]; kernel_rfl) | (rw [if_neg (by decide +kernel)]; exact ⟨rfl, rfl⟩))
    (fun os started H enc _ => lifted os started H enc)

theorem carded : Rows.FnTouchesCardSaid :=
  Claim7.holds_tied_plain_at .later [] [.data] true (true, "824b5fe7066db245479056315883c2009b2ed03bf3c5857259e750a5560c0d47") false
    over (fun _ h => by cases h) (by kernel_rfl) (fun _ h => by cases h) fnTouches_row_tie rfl ⟨rfl, rfl⟩ (by kernel_rfl) rfl
    (fun f fn hf hfn => by
      obtain rfl : f = 5 := Option.some.inj ((show Tryz.prog.funcNamed "loop.example/g00720/laws.FnTouches" = some 5 by kernel_rfl).symm.trans hf) |>.symm
      obtain rfl : fn = Tryz.f5 := (Option.some.inj (Tryz.func5.symm.trans hfn)).symm
      exact ⟨by kernel_rfl, fun j t ht => by
        rw [Tryz.params5] at ht
        have hm : t ∈ [22] := by simpa using Array.mem_of_getElem? ht
        have hall : ([22].all fun u => !Tryz.prog.wantsStandIn u) = true := by kernel_rfl
        exact (show Tryz.prog.wantsStandIn t = false by simpa using List.all_eq_true.1 hall t hm)⟩)
    (by kernel_rfl)
end Go.Proofs.YtihdablgnmkjnaaGreatDoor.fnTouches
namespace Go.Proofs.YtihdablgnmkjnaaGreatDoor
theorem fnTouches_holds : Rows.FnTouchesCardSaid := fnTouches.carded
end Go.Proofs.YtihdablgnmkjnaaGreatDoor
