/-
  The law FnScene answers true at every code (the program's table lying as its text lays it), and leaves it as it was.
-/
import Derived.Test.YtcofhmikdkkigaaGreatDoorRows
import Derived.Test.YtcofhmikdkkigaaGreatDoorCards
import Derived.Test.YtcofhmikdkkigaaGreatDoorTie
import Derived.Test.YtcofhmikdkkigaaGreatDoorPfAN
import Derived.Test.YtcofhmikdkkigaaGreatDoorScDrwD
import Derived.Test.YtcofhmikdkkigaaGreatDoorPfBA
import Derived.Test.YtcofhmikdkkigaaGreatDoorPfAS
import Derived.Test.YtcofhmikdkkigaaGreatDoorPfAR
import Derived.Test.YtcofhmikdkkigaaGreatDoorPfBC
import Derived.Deep.Cut
import Derived.WalkKit
import Derived.ProofKit
import Derived.OpenShut
import Derived.LaidMore
import Derived.Stop.Joined
import Derived.OpenVars
import Derived.SevenTiedAt
namespace Go.Proofs.YtcofhmikdkkigaaGreatDoor.fnScene
open Go.ChangeShapes Go.WideShapes Go.ChangeAt Go.RowKit
set_option linter.unusedVariables false

def IsRow (k : IntKind) (w : World) (a : Option Addr) (len cap : Nat) (zs : List Int) : Prop :=
  (a = none ∧ len = 0 ∧ cap = 0 ∧ zs = []) ∨
  ∃ x, a = some x ∧ len ≤ cap ∧ cap ≤ maxLen ∧ zs.length = cap ∧ (∀ i, i < zs.length → w.cell? (x.add i) = some (.int k (zs.getD i 0))) ∧ ∀ n ∈ zs, (Lit.int k n).wf = true

set_option maxHeartbeats 4000000 in
set_option maxRecDepth 20000 in
theorem walk (a0 : Option Addr) (len0 cap0 : Nat) (z0 : List Int) (w : World) (w0 : IsRow .u8 w a0 len0 cap0 z0) (hs : Shapes w) :
    Calls Tryz.prog 3 #[.slice a0 len0 cap0] w fun e w' => e = .returned (.bool true) ∧ Below w.heap.size w w' := by
  have hcap : len0 ≤ 9223372036854775807 := by
    rcases w0 with ⟨_, e, _⟩ | ⟨x, _, h1, h2, _⟩
    · omega
    · unfold maxLen at h2; omega
  by_cases hbig : (4096 : Int) < (len0 : Int)
  · have hd : decide ((4096 : Int) < (len0 : Int)) = true := decide_eq_true hbig
    go_enter Tryz.func3, Tryz.ntmps3
    go_wp2_with fail
    refine (big_any _ _ _ _ hcap).mono ?_
    rintro e u1 ⟨rfl, rfl⟩
    go_wp2_with fail
    go_ret
    exact ⟨rfl, Below.refl _ _⟩
  · have hd : decide ((4096 : Int) < (len0 : Int)) = false := decide_eq_false hbig
    have hr := bytes_of_row w0
    have hl : len0 ≤ 4096 := by omega
    clear hbig
    go_enter Tryz.func3, Tryz.ntmps3
    go_wp2_with fail
    refine (big_any _ _ _ _ hcap).mono ?_
    rintro e u1 ⟨rfl, rfl⟩
    go_wp2_with fail
    refine (drawDone_any _ _ _ _ hr (by omega)).mono ?_
    rintro e u2 ⟨⟨sg, lo, ll, lc, co, cl, cc, no, nl, nc, oo, ol, oc⟩, m, ⟨k, gr, o, wi, l, sz, f, t⟩, B, rfl, ie, S2, B2, f2⟩
    clear w0 hd hr hcap hl
    have fA := Fr.alloc u2 (.cells #[.int .i64 sg, .slice lo ll lc, .slice co cl cc, .slice no nl nc, .slice oo ol oc] 29)
    have fB := Fr.alloc (u2.alloc (.cells #[.int .i64 sg, .slice lo ll lc, .slice co cl cc, .slice no nl nc, .slice oo ol oc] 29)) (.cells #[.int .i64 k, .int .i64 gr, .int .i64 o, .int .i64 wi, .int .i64 l, .int .i64 sz, .int .i64 f, .int .i64 t] 31)
    have kS := (ScK.new u2 ⟨sg, lo, ll, lc, co, cl, cc, no, nl, nc, oo, ol, oc⟩).fr fB
    have kE := EvB.new (u2.alloc (.cells #[.int .i64 sg, .slice lo ll lc, .slice co cl cc, .slice no nl nc, .slice oo ol oc] 29)) ⟨k, gr, o, wi, l, sz, f, t⟩
    simp only [World.size_alloc] at kS kE
    go_upto_region 4 with fail
    obtain ⟨V, hV⟩ : ∃ V, V = (u2.alloc (.cells #[.int .i64 sg, .slice lo ll lc, .slice co cl cc, .slice no nl nc, .slice oo ol oc] 29)).alloc (.cells #[.int .i64 k, .int .i64 gr, .int .i64 o, .int .i64 wi, .int .i64 l, .int .i64 sz, .int .i64 f, .int .i64 t] 31) := ⟨_, rfl⟩
    have fV := fA.trans fB
    rw [← hV] at kS kE fV ⊢
    obtain ⟨sb, hsb⟩ : ∃ r, r = u2.heap.size := ⟨_, rfl⟩
    rw [← hsb] at kS kE ⊢
    clear hV hsb fA fB
    have FV := f2.trans fV
    have hsv := hs.fr FV
    have SV := S2.fr fV
    have hzV := fV.size
    have hoi : I64 o := ie.2.2.1
    have BV : ∀ b, B b → b < V.heap.size := fun b q => by have := B2 b q; omega
    clear S2 B2 f2 fV ie hs
    have cD := fun u (q : Fr V u) => implDone_any ⟨sg, lo, ll, lc, co, cl, cc, no, nl, nc, oo, ol, oc⟩ m ⟨k, gr, o, wi, l, sz, f, t⟩ u (SV.fr q) (fun b hb => by have := BV b hb; have := q.size; omega) (hsv.fr q)
    have cA := fun u (q : Fr V u) => codeIn_all ⟨sg, lo, ll, lc, co, cl, cc, no, nl, nc, oo, ol, oc⟩ m ⟨k, gr, o, wi, l, sz, f, t⟩ u (SV.fr q)
    have cI := fun u (q : Fr V u) => implCode_any ⟨sg, lo, ll, lc, co, cl, cc, no, nl, nc, oo, ol, oc⟩ m ⟨k, gr, o, wi, l, sz, f, t⟩ u (SV.fr q) (hsv.fr q) hoi
    have cO := fun u (q : Fr V u) => sceneOk_any ⟨sg, lo, ll, lc, co, cl, cc, no, nl, nc, oo, ol, oc⟩ m u (SV.fr q)
    have HQ : Hid (∀ u, Fr V u → ScB u sb ⟨sg, lo, ll, lc, co, cl, cc, no, nl, nc, oo, ol, oc⟩ ∧ EvAt u (sb + 1) ⟨k, gr, o, wi, l, sz, f, t⟩) := fun u q => ⟨(kS.fr q).at, kE.at.fr q⟩
    have HSG : Hid (sg = m.g) := SV.g
    have HSV : Hid _ := SV
    have HB1 : Hid (scB m = false → doneS m ⟨k, gr, o, wi, l, sz, f, t⟩ = ⟨0, [], [], [], []⟩ ∧ codeIn m ⟨k, gr, o, wi, l, sz, f, t⟩ = 1) := done_bad
    have HB2 : Hid (scB m = true → codeIn m ⟨k, gr, o, wi, l, sz, f, t⟩ ≠ 0 → doneS m ⟨k, gr, o, wi, l, sz, f, t⟩ = m) := done_not
    have HB3 : Hid (scB m = true → codeIn m ⟨k, gr, o, wi, l, sz, f, t⟩ = 0 → scB (doneS m ⟨k, gr, o, wi, l, sz, f, t⟩) = true ∧ m.g ≤ (doneS m ⟨k, gr, o, wi, l, sz, f, t⟩).g) := done_yes
    obtain ⟨C, hC⟩ : ∃ C, C = codeIn m ⟨k, gr, o, wi, l, sz, f, t⟩ := ⟨_, rfl⟩
    obtain ⟨D, hD⟩ : ∃ D, D = doneS m ⟨k, gr, o, wi, l, sz, f, t⟩ := ⟨_, rfl⟩
    simp only [← hC, ← hD] at cD cA cI HB1 HB2 HB3
    clear hC hD SV kS kE hsv BV hoi hzV
    obtain ⟨⟨s0, s1, s2, s3, s4⟩, ⟨e0, e1, e2, e3, e4, e5, e6, e7⟩⟩ := HQ.out _ (Fr.refl V)
    simp only at s0 s1 s2 s3 s4 e0 e1 e2 e3 e4 e5 e6 e7 cD cA cI
    go_wp2_with fail
    refine (cD _ (Fr.refl V)).mono ?_
    rintro x u3 ⟨⟨xg, xlo, xll, xlc, xco, xcl, xcc, xno, xnl, xnc, xoo, xol, xoc⟩, rfl, S3, f3, -⟩
    clear cD s0 s1 s2 s3 s4 e0 e1 e2 e3 e4 e5 e6 e7
    have fX := Fr.alloc u3 (.cells #[.int .i64 xg, .slice xlo xll xlc, .slice xco xcl xcc, .slice xno xnl xnc, .slice xoo xol xoc] 29)
    have kX := ScK.new u3 ⟨xg, xlo, xll, xlc, xco, xcl, xcc, xno, xnl, xnc, xoo, xol, xoc⟩
    simp only at kX
    go_upto_region 5 with fail
    obtain ⟨X, hX⟩ : ∃ X, X = u3.alloc (.cells #[.int .i64 xg, .slice xlo xll xlc, .slice xco xcl xcc, .slice xno xnl xnc, .slice xoo xol xoc] 29) := ⟨_, rfl⟩
    rw [← hX] at kX fX ⊢
    obtain ⟨xb, hxb⟩ : ∃ r, r = u3.heap.size := ⟨_, rfl⟩
    rw [← hxb] at kX ⊢
    clear hX hxb
    have SX := S3.fr fX
    have FX := f3.trans fX
    have HXG : Hid (xg = D.g) := SX.g
    have HQX : Hid (∀ u, Fr X u → ScB u xb ⟨xg, xlo, xll, xlc, xco, xcl, xcc, xno, xnl, xnc, xoo, xol, xoc⟩) := fun u q => (kX.fr q).at
    have cOX := fun u (q : Fr X u) => sceneOk_any ⟨xg, xlo, xll, xlc, xco, xcl, xcc, xno, xnl, xnc, xoo, xol, xoc⟩ D u (SX.fr q)
    have cIX := fun u (q : Fr X u) => implScene_any ⟨xg, xlo, xll, xlc, xco, xcl, xcc, xno, xnl, xnc, xoo, xol, xoc⟩ D u (SX.fr q)
    have HSX : Hid _ := SX
    clear S3 f3 fX kX SX
    obtain ⟨⟨s0, s1, s2, s3, s4⟩, ⟨e0, e1, e2, e3, e4, e5, e6, e7⟩⟩ := HQ.out _ FX
    simp only at s0 s1 s2 s3 s4 e0 e1 e2 e3 e4 e5 e6 e7
    go_wp2_with fail
    refine (cA _ FX).mono ?_
    rintro x u4 ⟨rfl, f4⟩
    have F4 := FX.trans f4
    clear cA s0 s1 s2 s3 s4 e0 e1 e2 e3 e4 e5 e6 e7
    obtain ⟨⟨s0, s1, s2, s3, s4⟩, ⟨e0, e1, e2, e3, e4, e5, e6, e7⟩⟩ := HQ.out _ F4
    simp only at s0 s1 s2 s3 s4 e0 e1 e2 e3 e4 e5 e6 e7
    go_wp2_with fail
    refine (cI _ F4).mono ?_
    rintro x u5 ⟨rfl, f5⟩
    have G5 := f4.trans f5
    have F5 := FX.trans G5
    clear cI s0 s1 s2 s3 s4 e0 e1 e2 e3 e4 e5 e6 e7 f4 f5 F4
    obtain ⟨⟨s0, s1, s2, s3, s4⟩, -⟩ := HQ.out _ F5
    simp only at s0 s1 s2 s3 s4
    go_wp2_with fail
    refine (cO _ F5).mono ?_
    rintro x u6 ⟨rfl, f6⟩
    have G6 := G5.trans f6
    have F6 := F5.trans f6
    clear cO s0 s1 s2 s3 s4 G5 F5 f6
    obtain ⟨⟨s0, s1, s2, s3, s4⟩, -⟩ := HQ.out _ F6
    obtain ⟨x0, x1, x2, x3, x4⟩ := HQX.out _ G6
    simp only at s0 s1 s2 s3 s4 x0 x1 x2 x3 x4
    obtain ⟨b, hb⟩ : ∃ b, b = scB m := ⟨_, rfl⟩
    rw [← hb] at HB1 HB2 HB3 ⊢
    clear hb
    cases b
    · obtain ⟨h1, h2⟩ := HB1.out rfl
      have hg0 : xg = 0 := by rw [HXG.out, h1]
      subst hg0 h2
      clear h1 HB1 HB2 HB3 HXG
      go_wp2_with fail
      go_ret
      exact ⟨rfl, (FV.trans F6).below⟩
    · by_cases hc : C = 0
      · obtain ⟨h1, h2⟩ := HB3.out rfl hc
        have hge : sg ≤ xg := by rw [HXG.out, HSG.out]; exact h2
        subst hc
        simp only [h1] at cOX cIX
        clear h1 h2 HB1 HB2 HB3
        go_wp2_with fail
        refine (cIX _ G6).mono ?_
        rintro x u7 ⟨rfl, f7⟩
        have G7 := G6.trans f7
        have F7 := F6.trans f7
        clear s0 s1 s2 s3 s4 x0 x1 x2 x3 x4
        obtain ⟨x0, x1, x2, x3, x4⟩ := HQX.out _ G7
        simp only at x0 x1 x2 x3 x4
        go_wp2_with fail
        refine (cOX _ G7).mono ?_
        rintro x u8 ⟨rfl, f8⟩
        have G8 := G7.trans f8
        have F8 := F7.trans f8
        clear x0 x1 x2 x3 x4
        obtain ⟨⟨s0, s1, s2, s3, s4⟩, -⟩ := HQ.out _ F8
        obtain ⟨x0, x1, x2, x3, x4⟩ := HQX.out _ G8
        simp only at s0 s1 s2 s3 s4 x0 x1 x2 x3 x4
        go_wp2_with fail
        go_ret
        exact ⟨rfl, (FV.trans F8).below⟩
      · have hcb : (C != 0) = true := by simpa using hc
        have h1 := HB2.out rfl hc
        have SD := HSX.out
        rw [h1] at SD
        have cL := likeScene_same ⟨xg, xlo, xll, xlc, xco, xcl, xcc, xno, xnl, xnc, xoo, xol, xoc⟩ ⟨sg, lo, ll, lc, co, cl, cc, no, nl, nc, oo, ol, oc⟩ m u6 (SD.fr G6) (HSV.out.fr F6)
        clear h1 SD HB1 HB2 HB3 hc HXG HSG
        go_wp2_with fail
        refine cL.mono ?_
        rintro x u7 ⟨rfl, f7⟩
        go_wp2_with fail
        go_ret
        exact ⟨rfl, (FV.trans (F6.trans f7)).below⟩

theorem own : ownKnob Tryz.prog.godebug = none := by kernel_rfl
theorem laidOut : laidOutB Tryz.prog = true := by kernel_rfl
theorem met (os : Os) (args : Array Value) : laidMetH Tryz.prog Rows.fnSceneRow.laid ((World.doorLaid Tryz.prog 400 os).forCall (fun _ _ => 0) ⟨#[], args, []⟩).memory :=
  laidMetH_of_parts3 (fuel := 8) (laidMet_of_run' 8 (by kernel_rfl) (by kernel_rfl)) (by kernel_rfl) (by kernel_rfl)
theorem tables {W : World} (h : laidMetH Tryz.prog Rows.fnSceneRow.laid W) : Shapes W := by
  rw [MakeChecks.laidMetH_plain _ _ _ (by kernel_rfl)] at h
  obtain ⟨ps, hl, -⟩ := h
  exact shapes_of hl

set_option maxRecDepth 100000 in
theorem lifted (os : Os) (started : os.Started) (H : Type) (enc : TypeId × Value → H) :
    ReturnsInHanded {} Tryz.checked os 3 .any (fun w args => (Rows.fnSceneSpec.pre enc Tryz.prog Tryz.f3 [] false w args ∧ laidMetH Tryz.prog Rows.fnSceneRow.laid w) ∧ sizedMet enc Tryz.prog Tryz.f3 (OpenSpec.ofChange Rows.fnSceneSpec) false w args)
      (Rows.fnSceneSpec.post enc Tryz.prog Tryz.f3 false true false false) := by
  refine returnsInHanded_of_change_and (C := Tryz.checked) (X := fun w _ => laidMetH Tryz.prog Rows.fnSceneRow.laid w) (fun _ _ _ hh h => h.of_heap hh) own started (by kernel_rfl) Tryz.func3
    (ChangeSpec.witness_shaped (enc := enc) (C := Tryz.checked) (os := os) (X := fun w _ => laidMetH Tryz.prog Rows.fnSceneRow.laid w) false (World.doorLaid Tryz.prog 400 os) #[.slice none 0 0] 8 rfl (World.shaped_of_RefB (by kernel_rfl) (by kernel_rfl)) (by kernel_rfl) (by kernel_rfl) (by kernel_rfl) (met os _)) ?_
  intro W base args ds gs before hval0 hW _ _ hL _
  have hval : ∀ (j : Nat) t v, Tryz.f3.params[j]? = some t → args[j]? = some v → Value.okWide Tryz.prog W .any base t v := hval0
  have hW' := hW
  obtain ⟨p, q, hA0, hV, rfl, hfz, hnd⟩ := hW
  have hA : DataW.TrodAll enc Tryz.prog W 0 (fun _ => true) true Tryz.f3.params.toList args.toList ds p := hA0
  rw [Tryz.params3] at hA hval
  obtain ⟨v0, vs0, d0, ds0, p0, q0, hargs, rfl, rfl, h0, r0⟩ := trodAll_cons hA
  obtain ⟨rfl, rfl, rfl⟩ := trodAll_nil r0
  obtain rfl : args = #[v0] := by cases args; simp_all
  have k0 := h0
  have lt0 : ∀ x ∈ p0, x.block < W.heap.size := by obtain ⟨m, hm⟩ := k0; exact DataW.trod_lt m _ _ _ hm
  obtain ⟨a0, len0, cap0, rfl⟩ := okWide_slice Tryz.underlying22 (hval 0 22 v0 rfl rfl)
  obtain ⟨z0, w0⟩ : ∃ zs, IsRow .u8 W a0 len0 cap0 zs := by
    obtain ⟨fuel, hf⟩ := h0
    rcases open_ints Tryz.underlying22 Tryz.underlying5 (by kernel_rfl) hf with ⟨hcs, _⟩ | ⟨x, l, c, zs, hcs, _, hl, hm, hz, _, hcell, hwz⟩
    · simp [Value.cells] at hcs
      obtain ⟨rfl, rfl, rfl⟩ := hcs
      exact ⟨[], .inl ⟨rfl, rfl, rfl, rfl⟩⟩
    · simp [Value.cells] at hcs
      obtain ⟨rfl, rfl, rfl⟩ := hcs
      exact ⟨zs, .inr ⟨_, rfl, hl, hm, by simpa using hz, hcell, hwz⟩⟩
  clear hA0 hval0
  refine (walk a0 len0 cap0 z0 W w0 (tables hL)).mono fun e W' ⟨he, bel⟩ => ?_
  subst he
  match gs, hV with
  | [g1], hV =>
    exact ⟨_, rfl, _, _, _, [], _, _, hW', trodAll_mk1 (shut_bool Tryz.underlying4 _), (trodAll_cons_mk (Below.trod laidOut (by kernel_rfl) (of_decide_eq_true (by kernel_rfl)) k0 bel lt0) trodAll_mk0), Below.trodVars laidOut bel (by kernel_rfl) hV, bel.frame _, fun h => by cases h⟩

theorem over : Rows.fnSceneRow.holds Tryz.pinned (OpenSpec.ofChange Rows.fnSceneSpec) :=
  OpenClaim.holds_of_wide 3 Tryz.f3 rfl rfl rfl rfl rfl rfl rfl ⟨rfl, rfl, rfl, rfl, rfl⟩ rfl rfl rfl rfl rfl (by kernel_rfl) Tryz.func3 (by kernel_rfl)
    (of_decide_eq_true (by kernel_rfl)) (by unfold Func.isWrapper; first | (rw [if_pos (by decide +kernel)]; kernel_rfl) | (rw [if_neg (by decide +kernel)]; exact ⟨rfl, rfl⟩))
    (fun os started H enc _ => lifted os started H enc)

theorem carded : Rows.FnSceneCardSaid :=
  Claim7.holds_tied_plain_at .later [] [.data] true (true, "7639dd462047ea84c6becf31013f2a594706809ba1d62cbc5edc796178d488a3") false
    over (fun _ h => by cases h) (by kernel_rfl) (fun _ h => by cases h) fnScene_row_tie rfl ⟨rfl, rfl⟩ (by kernel_rfl) rfl
    (fun f fn hf hfn => by
      obtain rfl : f = 3 := Option.some.inj ((show Tryz.prog.funcNamed "loop.example/g00720/laws.FnScene" = some 3 by kernel_rfl).symm.trans hf) |>.symm
      obtain rfl : fn = Tryz.f3 := (Option.some.inj (Tryz.func3.symm.trans hfn)).symm
      exact ⟨by kernel_rfl, fun j t ht => by
        rw [Tryz.params3] at ht
        have hm : t ∈ [22] := by simpa using Array.mem_of_getElem? ht
        have hall : ([22].all fun u => !Tryz.prog.wantsStandIn u) = true := by kernel_rfl
        exact (show Tryz.prog.wantsStandIn t = false by simpa using List.all_eq_true.1 hall t hm)⟩)
    (by kernel_rfl)
end Go.Proofs.YtcofhmikdkkigaaGreatDoor.fnScene
namespace Go.Proofs.YtcofhmikdkkigaaGreatDoor
theorem fnScene_holds : Rows.FnSceneCardSaid := fnScene.carded
end Go.Proofs.YtcofhmikdkkigaaGreatDoor
