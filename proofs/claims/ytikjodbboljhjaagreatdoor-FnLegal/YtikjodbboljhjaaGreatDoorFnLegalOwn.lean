/-
  The law FnLegal answers true at every code (the program's table lying as its text lays it), and leaves it as it was.
-/
import Derived.Test.YtikjodbboljhjaaGreatDoorRows
import Derived.Test.YtikjodbboljhjaaGreatDoorCards
import Derived.Test.YtikjodbboljhjaaGreatDoorTie
import Derived.Test.YtikjodbboljhjaaGreatDoorPackAA
import Derived.Test.YtikjodbboljhjaaGreatDoorPackAO
import Derived.Test.YtikjodbboljhjaaGreatDoorPackAP
import Derived.Test.YtikjodbboljhjaaGreatDoorPackAS
import Derived.Deep.QuietTactic
import Derived.BigQuiet
import Derived.WalkKit
import Derived.ProofKit
import Derived.OpenShut
import Derived.LaidMore
import Derived.Stop.Joined
import Derived.OpenVars
import Derived.SevenTiedAt
namespace Go.Proofs.YtikjodbboljhjaaGreatDoor.fnLegal
open Go.ChangeShapes Go.WideShapes Go.ChangeAt Go.RowKit
set_option linter.unusedVariables false

def IsRow (k : IntKind) (w : World) (a : Option Addr) (len cap : Nat) (zs : List Int) : Prop :=
  (a = none ∧ len = 0 ∧ cap = 0 ∧ zs = []) ∨
  ∃ x, a = some x ∧ len ≤ cap ∧ cap ≤ maxLen ∧ zs.length = cap ∧ (∀ i, i < zs.length → w.cell? (x.add i) = some (.int k (zs.getD i 0))) ∧ ∀ n ∈ zs, (Lit.int k n).wf = true

set_option maxHeartbeats 8000000 in
set_option maxRecDepth 20000 in
theorem walk (a0 : Option Addr) (len0 cap0 : Nat) (z0 : List Int) (w : World) (w0 : IsRow .u8 w a0 len0 cap0 z0) (hs : Shapes w) :
    Calls Tryz.prog 5 #[.slice a0 len0 cap0] w fun e w' => e = .returned (.bool true) ∧ Below w.heap.size w w' := by
  have hcap : len0 ≤ 9223372036854775807 := by
    rcases w0 with ⟨_, e, _⟩ | ⟨x, _, h1, h2, _⟩
    · omega
    · unfold maxLen at h2; omega
  by_cases hbig : (4096 : Int) < (len0 : Int)
  · have hd : decide ((4096 : Int) < (len0 : Int)) = true := decide_eq_true hbig
    go_enter Tryz.func5, Tryz.ntmps5
    go_wp2_with fail
    refine (big_any _ _ _ _ hcap).mono ?_
    rintro e u1 ⟨rfl, rfl⟩
    go_wp2_with fail
    go_ret
    exact ⟨rfl, Below.refl _ _⟩
  · have hd : decide ((4096 : Int) < (len0 : Int)) = false := decide_eq_false hbig
    have hr := bytes_of_row w0
    have hl : len0 ≤ 4096 := by omega
    clear hbig
    go_enter Tryz.func5, Tryz.ntmps5
    go_wp2_with fail
    refine (big_any _ _ _ _ hcap).mono ?_
    rintro e u1 ⟨rfl, rfl⟩
    go_wp2_with fail
    refine (drawLegal_any _ _ _ _ hr (by omega)).mono ?_
    rintro e u2 ⟨v2, rfl, es, o2, l2, f2⟩
    obtain ⟨g2, c2, rfl, o2, hl2⟩ := o2
    clear w0 hd hcap
    have R := own_readsE o2 hl2
    have tx := o2.lt g2 rfl
    have hc2 : es.length ≤ c2 ∧ c2 ≤ maxLen := by
      rcases o2.2 with ⟨e, _⟩ | ⟨g', cap', cur, e, -, -, h1, h2, -⟩
      · cases e
      · cases e; exact ⟨h1, h2⟩
    have hs2 := hs.fr f2
    have cIL := fun u (f : Fr u2 u) => implLen_any _ _ c2 es u rfl (R.fr f) (hs2.fr f) (fun k hk => by simp only [blk, Option.map_some, Option.some.injEq] at hk; have := f.size; omega)
    have cIC := fun u (f : Fr u2 u) => implCodeOf_any _ _ c2 es u rfl (R.fr f) (hs2.fr f) (fun k hk => by simp only [blk, Option.map_some, Option.some.injEq] at hk; have := f.size; omega)
    have cSL := fun u (f : Fr u2 u) => specLen_any _ _ c2 es u rfl (R.fr f)
    have cSC := fun u (f : Fr u2 u) => specCodeOf_any _ _ c2 es u rfl (R.fr f)
    have HN : Hid (300 < es.length → legLen es = -1 ∧ legCode es = 11) := fun q => ⟨if_pos q, if_pos q⟩
    have HM : Hid (¬ 300 < es.length → legLen es = (legS scn0 es).2.1 ∧ legCode es = (legS scn0 es).2.2) := fun q => ⟨if_neg q, if_neg q⟩
    obtain ⟨N, hN⟩ : ∃ N, N = legLen es := ⟨_, rfl⟩
    obtain ⟨K, hK⟩ : ∃ N, N = legCode es := ⟨_, rfl⟩
    simp only [← hN, ← hK] at cIL cIC cSL cSC HN HM
    clear hN hK
    go_wp2_with fail
    refine (cIL _ (Fr.refl _)).mono ?_
    rintro e u3 ⟨rfl, f3⟩
    go_wp2_with fail
    refine (cIC _ f3).mono ?_
    rintro e u4 ⟨rfl, f4⟩
    have F4 := f3.trans f4
    have hn1 : (N != N) = false := by simp
    have hn2 : (K != K) = false := by simp
    go_wp2_with fail
    refine (cSL _ F4).mono ?_
    rintro e u5 ⟨rfl, f5⟩
    have F5 := F4.trans f5
    go_wp2_with fail
    refine (cSC _ F5).mono ?_
    rintro e u6 ⟨rfl, f6⟩
    have F6 := F5.trans f6
    clear f3 f4 f5 f6 F4 F5 cSL cSC cIL cIC hn1 hn2
    by_cases hbig : 300 < es.length
    · obtain ⟨rfl, rfl⟩ := HN.out hbig
      clear HN HM
      go_wp2_with fail
      go_ret
      exact ⟨rfl, (f2.trans F6).below⟩
    · obtain ⟨eN, eK⟩ := HM.out hbig
      have hlc := leg_code es scn0
      have hll := leg_len es scn0
      have HPT := leg_part es scn0
      clear HN HM
      obtain ⟨L, hL⟩ : ∃ L : Nat, L = (legS scn0 es).2.1 := ⟨_, rfl⟩
      simp only [← hL] at eN hlc hll HPT
      clear hL
      subst eN
      have hb1 : (K == 0) = decide (L = es.length) := by
        rw [eK]
        by_cases q : L = es.length
        · simp [q, hlc.2 q]
        · have : ¬ (legS scn0 es).2.2 = 0 := fun q2 => q (hlc.1 q2)
          simp [q, this]
      have hb2 : ((L : Int) == (es.length : Int)) = decide (L = es.length) := by
        by_cases q : L = es.length
        · simp [q]
        · have : ¬ ((L : Int) = (es.length : Int)) := by omega
          simp [q, this]
      obtain ⟨bb, hbb⟩ : ∃ b, b = decide (L = es.length) := ⟨_, rfl⟩
      rw [← hbb] at hb1 hb2
      have hb3 : (bb != bb) = false := by simp
      have hL0 : ¬ ((L : Int) < 0) := by omega
      have hw : IntKind.i64.wrap ((L : Int) + 1) = (L : Int) + 1 := by rw [IntKind.wrap_i64]; omega
      clear hbb eK hlc
      have hr6 : ByteRow u6 a0 len0 := fun i hi => by
        obtain ⟨b, off, e, hc⟩ := hr i hi
        exact ⟨b, off, e, fun j hj => by obtain ⟨x, q1, q2⟩ := hc j hj; exact ⟨x, (f2.trans F6).cell q1, q2⟩⟩
      go_wp2_with fail
      refine (roll_any _ _ _ _ _ hr6 (by omega)).mono ?_
      rintro e u7 ⟨d, hh, rfl, D7, hd7, f7⟩
      have hr7 : ByteRow u7 a0 len0 := fun i hi => by
        obtain ⟨b, off, e, hc⟩ := hr6 i hi
        exact ⟨b, off, e, fun j hj => by obtain ⟨x, q1, q2⟩ := hc j hj; exact ⟨x, f7.cell q1, q2⟩⟩
      have hdb : 0 < len0 → ∀ k, blk a0 = some k → k ≠ d := fun q k hk => by
        obtain ⟨b, off, e, hc⟩ := hr6 0 q
        obtain ⟨x, q1, -⟩ := hc 0 q
        have := World.block_lt_of_cell? u6 _ q1
        simp only at this
        rw [e] at hk
        simp only [blk, Option.map_some, Option.some.injEq] at hk
        omega
      go_wp2_with fail
      refine (below_any _ _ _ _ _ _ _ _ D7 (by omega) hr7 hdb (by omega) (by omega)).mono ?_
      rintro e u8 ⟨mm, rfl, m0, m1, g8⟩
      have F8 := F6.trans (f7.then g8 (fun j hj => by simp only [Option.some.injEq] at hj; omega))
      clear hr hr6 hr7 hdb D7 hd7 f7 g8 F6
      obtain ⟨kn, rfl⟩ : ∃ kn : Nat, mm = kn := ⟨mm.toNat, by omega⟩
      have hkL : kn ≤ L := by omega
      obtain ⟨p1, p2, p3⟩ := HPT kn hkL
      clear HPT hb1 hb2 hb3 hw hL0
      have hkl : (es.take kn).length = kn := by simp; omega
      have cA := fun u (f : Fr u2 u) => implAfter_any _ kn c2 (es.take kn) u hkl ((R.fr f).take kn) (hs2.fr f) (fun k hk => by simp only [blk, Option.map_some, Option.some.injEq] at hk; have := f.size; omega)
      have cIL := fun u (f : Fr u2 u) => implLen_any _ kn c2 (es.take kn) u hkl ((R.fr f).take kn) (hs2.fr f) (fun k hk => by simp only [blk, Option.map_some, Option.some.injEq] at hk; have := f.size; omega)
      have cIC := fun u (f : Fr u2 u) => implCodeOf_any _ kn c2 (es.take kn) u hkl ((R.fr f).take kn) (hs2.fr f) (fun k hk => by simp only [blk, Option.map_some, Option.some.injEq] at hk; have := f.size; omega)
      have e1 : legLen (es.take kn) = kn := by rw [legLen, if_neg (by omega), p1]
      have e2 : legCode (es.take kn) = 0 := by rw [legCode, if_neg (by omega), p2]
      have e3 : aftB (es.take kn) = true := by rw [aftB, if_neg (by omega), p2]; rfl
      have e4 : aftS (es.take kn) = (legS scn0 (es.take kn)).1 := by rw [aftS, if_neg (by omega)]
      simp only [e1] at cIL
      simp only [e2] at cIC
      simp only [e3, e4] at cA
      clear e1 e2 e3 e4 p1 p2
      obtain ⟨M, hM⟩ : ∃ M, M = (legS scn0 (es.take kn)).1 := ⟨_, rfl⟩
      simp only [← hM] at cA p3
      clear hM
      have hk1 : (kn : Int) ≤ es.length := by omega
      have hk2 : es.length ≤ c2 := hc2.1
      have hk3 : (kn : Int) ≤ c2 := by omega
      have hk4 : ((kn : Int) != (kn : Int)) = false := by simp
      go_wp2_with fail
      refine (cA _ F8).mono ?_
      rintro e u9 ⟨⟨sg, lo, ll, lc, co, cl, cc, no, nl, nc, oo, ol, oc⟩, rfl, S9, f9⟩
      have fA := Fr.alloc u9 (.cells #[.int .i64 sg, .slice lo ll lc, .slice co cl cc, .slice no nl nc, .slice oo ol oc] 29)
      have kS := ScK.new u9 ⟨sg, lo, ll, lc, co, cl, cc, no, nl, nc, oo, ol, oc⟩
      simp only at kS
      have S10 := S9.fr fA
      have F10 := F8.trans (f9.trans fA)
      clear cA S9 f9 fA F8
      go_wp2_with fail
      obtain ⟨V, hV⟩ : ∃ V, V = u9.alloc (.cells #[.int .i64 sg, .slice lo ll lc, .slice co cl cc, .slice no nl nc, .slice oo ol oc] 29) := ⟨_, rfl⟩
      rw [← hV] at kS S10 F10 ⊢
      obtain ⟨sb, hsb⟩ : ∃ sb, sb = u9.heap.size := ⟨_, rfl⟩
      rw [← hsb] at kS ⊢
      clear hV hsb
      refine (cIL _ F10).mono ?_
      rintro x u10 ⟨rfl, f10⟩
      go_wp2_with fail
      refine (cIC _ (F10.trans f10)).mono ?_
      rintro e u11 ⟨rfl, f11⟩
      have g11 := f10.trans f11
      have F11 := F10.trans g11
      clear cIL cIC f10 f11
      by_cases hkk : kn = L
      · clear p3
        subst hkk
        go_wp2_with fail
        go_quiet (fail)
        go_wp2_with fail
        go_ret
        exact ⟨rfl, (f2.trans (F11.trans (Fr.drewN u11 _))).below⟩
      · have hkb : ((kn : Int) == (L : Int)) = false := by
          have : ¬ ((kn : Int) = (L : Int)) := by omega
          simp [this]
        have hdk : decide (kn = L) = false := by simp [hkk]
        have hdi : decide ((kn : Int) = (L : Int)) = false := by
          have : ¬ ((kn : Int) = (L : Int)) := by omega
          simp [this]
        have hkc : (kn == L) = false := by simp [hkk]
        have hlt : kn < es.length := by omega
        have hltI : (kn : Int) < es.length := by omega
        have p3 := p3 hlt (by omega)
        obtain ⟨bq, off, eq0, hev⟩ := (R.fr F11).at_ kn hlt
        simp only [Option.some.injEq, Addr.mk.injEq, and_true] at eq0
        obtain ⟨rfl, rfl⟩ := eq0
        have ev := hev kn hlt
        have hoe : I64 es[kn].o := i64_small (by have := evOk_o (code_parts p3).1; omega)
        have cI := fun u (f : Fr u11 u) => implCode_any ⟨sg, lo, ll, lc, co, cl, cc, no, nl, nc, oo, ol, oc⟩ M es[kn] u ((S10.fr g11).fr f) ((hs2.fr F11).fr f) hoe
        simp only [p3] at cI
        obtain ⟨e, he⟩ : ∃ e, e = es[kn] := ⟨_, rfl⟩
        rw [← he] at ev
        simp only [← he] at cI
        clear he hev p3 hkk hoe
        obtain ⟨ek, eg, ej, ew, el, ez, ef, et⟩ := e
        obtain ⟨c0, c1, c2', c3, c4, c5, c6, c7⟩ := id ev
        simp only [Nat.zero_add] at c0 c1 c2' c3 c4 c5 c6 c7
        simp only at cI
        have HQ : Hid (∀ u, Fr u11 u → ScB u sb ⟨sg, lo, ll, lc, co, cl, cc, no, nl, nc, oo, ol, oc⟩ ∧ EvC u g2 (0 + kn * 8) ⟨ek, eg, ej, ew, el, ez, ef, et⟩) := fun u f => ⟨((kS.fr g11).fr f).at, ev.keep f (by simp)⟩
        obtain ⟨s0, s1, s2, s3, s4⟩ := (kS.fr g11).at
        simp only at s0 s1 s2 s3 s4
        clear ev kS S10
        go_wp2_with fail
        go_region_held3 (fun u => u.cell? ⟨sb, 0, none⟩ = some (.int .i64 sg) ∧ u.cell? ⟨sb, 1, none⟩ = some (.slice lo ll lc) ∧ u.cell? ⟨sb, 2, none⟩ = some (.slice co cl cc) ∧ u.cell? ⟨sb, 3, none⟩ = some (.slice no nl nc) ∧ u.cell? ⟨sb, 4, none⟩ = some (.slice oo ol oc) ∧ u.cell? ⟨g2, kn * 8, none⟩ = some (.int .i64 ek) ∧ u.cell? ⟨g2, kn * 8 + 1, none⟩ = some (.int .i64 eg) ∧ u.cell? ⟨g2, kn * 8 + 2, none⟩ = some (.int .i64 ej) ∧ u.cell? ⟨g2, kn * 8 + 3, none⟩ = some (.int .i64 ew) ∧ u.cell? ⟨g2, kn * 8 + 4, none⟩ = some (.int .i64 el) ∧ u.cell? ⟨g2, kn * 8 + 5, none⟩ = some (.int .i64 ez) ∧ u.cell? ⟨g2, kn * 8 + 6, none⟩ = some (.int .i64 ef) ∧ u.cell? ⟨g2, kn * 8 + 7, none⟩ = some (.int .i64 et)) (go_keep)
          (first | (go_at_call 12; refine (cI _ (Fr.drew u11)).mono ?_; rintro x u12 ⟨rfl, f12⟩; have g12 := (Fr.drew u11).trans f12; obtain ⟨⟨t0, t1, t2, t3, t4⟩, q0, q1, q2, q3, q4, q5, q6, q7⟩ := HQ.out _ g12; simp only [Nat.zero_add] at t0 t1 t2 t3 t4 q0 q1 q2 q3 q4 q5 q6 q7))
        go_wp2_with fail
        go_ret
        exact ⟨rfl, (f2.trans (F11.trans g12)).below⟩

theorem own : ownKnob Tryz.prog.godebug = none := by kernel_rfl
theorem laidOut : laidOutB Tryz.prog = true := by kernel_rfl
theorem met (os : Os) (args : Array Value) : laidMetH Tryz.prog Rows.fnLegalRow.laid ((World.doorLaid Tryz.prog 400 os).forCall (fun _ _ => 0) ⟨#[], args, []⟩).memory :=
  laidMetH_of_parts3 (fuel := 8) (laidMet_of_run' 8 (by kernel_rfl) (by kernel_rfl)) (by kernel_rfl) (by kernel_rfl)
theorem tables {W : World} (h : laidMetH Tryz.prog Rows.fnLegalRow.laid W) : Shapes W := by
  rw [MakeChecks.laidMetH_plain _ _ _ (by kernel_rfl)] at h
  obtain ⟨ps, hl, -⟩ := h
  exact shapes_of hl

set_option maxRecDepth 100000 in
theorem lifted (os : Os) (started : os.Started) (H : Type) (enc : TypeId × Value → H) :
    ReturnsInHanded {} Tryz.checked os 5 .any (fun w args => (Rows.fnLegalSpec.pre enc Tryz.prog Tryz.f5 [] false w args ∧ laidMetH Tryz.prog Rows.fnLegalRow.laid w) ∧ sizedMet enc Tryz.prog Tryz.f5 (OpenSpec.ofChange Rows.fnLegalSpec) false w args)
      (Rows.fnLegalSpec.post enc Tryz.prog Tryz.f5 false true false false) := by
  refine returnsInHanded_of_change_and (C := Tryz.checked) (X := fun w _ => laidMetH Tryz.prog Rows.fnLegalRow.laid w) (fun _ _ _ hh h => h.of_heap hh) own started (by kernel_rfl) Tryz.func5
    (ChangeSpec.witness_shaped (enc := enc) (C := Tryz.checked) (os := os) (X := fun w _ => laidMetH Tryz.prog Rows.fnLegalRow.laid w) false (World.doorLaid Tryz.prog 400 os) #[.slice none 0 0] 8 rfl (World.shaped_of_RefB (by kernel_rfl) (by kernel_rfl)) (by kernel_rfl) (by kernel_rfl) (by kernel_rfl) (met os _)) ?_
  intro W base args ds gs before hval0 hW _ _ hL _
  have hval : ∀ (j : Nat) t v, Tryz.f5.params[j]? = some t → args[j]? = some v → Value.okWide Tryz.prog W .any base t v := hval0
  have hW' := hW
  obtain ⟨p, q, hA0, hV, rfl, hfz, hnd⟩ := hW
  have hA : DataW.TrodAll enc Tryz.prog W 0 (fun _ => true) true Tryz.f5.params.toList args.toList ds p := hA0
  rw [Tryz.params5] at hA hval
  obtain ⟨v0, vs0, d0, ds0, p0, q0, hargs, rfl, rfl, h0, r0⟩ := trodAll_cons hA
  obtain ⟨rfl, rfl, rfl⟩ := trodAll_nil r0
  obtain rfl : args = #[v0] := by cases args; simp_all
  have k0 := h0
  have lt0 : ∀ x ∈ p0, x.block < W.heap.size := by obtain ⟨m, hm⟩ := k0; exact DataW.trod_lt m _ _ _ hm
  obtain ⟨a0, len0, cap0, rfl⟩ := okWide_slice Tryz.underlying22 (hval 0 22 v0 rfl rfl)
  obtain ⟨z0, w0⟩ : ∃ zs, IsRow .u8 W a0 len0 cap0 zs := by
    obtain ⟨fuel, hf⟩ := h0
    rcases open_ints Tryz.underlying22 Tryz.underlying5 (by kernel_rfl) hf with ⟨hcs, _⟩ | ⟨x, l, c, zs, hcs, _, hl, hm, hz, _, hcell, hwz⟩
    · simp [Value.cells] at hcs
      obtain ⟨rfl, rfl, rfl⟩ := hcs
      exact ⟨[], .inl ⟨rfl, rfl, rfl, rfl⟩⟩
    · simp [Value.cells] at hcs
      obtain ⟨rfl, rfl, rfl⟩ := hcs
      exact ⟨zs, .inr ⟨_, rfl, hl, hm, by simpa using hz, hcell, hwz⟩⟩
  clear hA0 hval0
  refine (walk a0 len0 cap0 z0 W w0 (tables hL)).mono fun e W' ⟨he, bel⟩ => ?_
  subst he
  match gs, hV with
  | [g1], hV =>
    exact ⟨_, rfl, _, _, _, [], _, _, hW', trodAll_mk1 (shut_bool Tryz.underlying4 _), (trodAll_cons_mk (Below.trod laidOut (by kernel_rfl) (of_decide_eq_true (by kernel_rfl)) k0 bel lt0) trodAll_mk0), Below.trodVars laidOut bel (by kernel_rfl) hV, bel.frame _, fun h => by cases h⟩

theorem over : Rows.fnLegalRow.holds Tryz.pinned (OpenSpec.ofChange Rows.fnLegalSpec) :=
  OpenClaim.holds_of_wide 5 Tryz.f5 rfl rfl rfl rfl rfl rfl rfl ⟨rfl, rfl, rfl, rfl, rfl⟩ rfl rfl rfl rfl rfl (by kernel_rfl) Tryz.func5 (by kernel_rfl)
    (of_decide_eq_true (by kernel_rfl)) (by unfold Func.isWrapper; first | (rw [if_pos (by decide +kernel)]; kernel_rfl) | (rw [if_neg (by decide +kernel)]; exact ⟨rfl, rfl⟩))
    (fun os started H enc _ => lifted os started H enc)

theorem carded : Rows.FnLegalCardSaid :=
  Claim7.holds_tied_plain_at .later [] [.data] true (true, "1f89551fe2845b3d109e8a68699ff469b74949afc87ff99408cf409afb2a040e") false
    over (fun _ h => by cases h) (by kernel_rfl) (fun _ h => by cases h) fnLegal_row_tie rfl ⟨rfl, rfl⟩ (by kernel_rfl) rfl
    (fun f fn hf hfn => by
      obtain rfl : f = 5 := Option.some.inj ((show Tryz.prog.funcNamed "loop.example/g00720/laws.FnLegal" = some 5 by kernel_rfl).symm.trans hf) |>.symm
      obtain rfl : fn = Tryz.f5 := (Option.some.inj (Tryz.func5.symm.trans hfn)).symm
      exact ⟨by kernel_rfl, fun j t ht => by
        rw [Tryz.params5] at ht
        have hm : t ∈ [22] := by simpa using Array.mem_of_getElem? ht
        have hall : ([22].all fun u => !Tryz.prog.wantsStandIn u) = true := by kernel_rfl
        exact (show Tryz.prog.wantsStandIn t = false by simpa using List.all_eq_true.1 hall t hm)⟩)
    (by kernel_rfl)
end Go.Proofs.YtikjodbboljhjaaGreatDoor.fnLegal
namespace Go.Proofs.YtikjodbboljhjaaGreatDoor
theorem fnLegal_holds : Rows.FnLegalCardSaid := fnLegal.carded
end Go.Proofs.YtikjodbboljhjaaGreatDoor
