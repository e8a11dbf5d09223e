/-
  The law FnExactCodeIn answers true at every scene and every event (the program's table lying as its text lays it), and leaves its arguments as they were.
-/
import Derived.Test.YtpdakokmckmbgaaDoorRows
import Derived.Test.YtpdakokmckmbgaaDoorCards
import Derived.Test.YtpdakokmckmbgaaDoorTie
import Derived.Test.YtpdakokmckmbgaaDoorDoor
import Derived.Test.YtpdakokmckmbgaaDoorArgSc
import Derived.Test.YtpdakokmckmbgaaDoorScTo3
import Derived.Test.YtpdakokmckmbgaaDoorScImplC
import Derived.Test.YtpdakokmckmbgaaDoorScEq
import Derived.Test.YtpdakokmckmbgaaDoorScSz
import Derived.Test.YtpdakokmckmbgaaDoorEvTo
import Derived.WalkKit
import Derived.ProofKit
import Derived.OpenShut
import Derived.LaidMore
import Derived.Stop.Joined
import Derived.OpenVars
import Derived.SevenTiedAt
namespace Go.Proofs.YtpdakokmckmbgaaDoor.fnExactCodeIn
open Go.ChangeShapes Go.WideShapes Go.ChangeAt Go.RowKit
set_option linter.unusedVariables false

set_option maxHeartbeats 8000000 in
set_option maxRecDepth 20000 in
theorem walk (s0 : Sv) (e1 : Ev) (w : World) (i0 : InSc w s0) (i1 : EvI e1) (hs : Shapes w) :
    Calls Tryd.prog 3 #[.agg #[.int .i64 s0.g, .slice s0.lo s0.ll s0.lc, .slice s0.co s0.cl s0.cc, .slice s0.no s0.nl s0.nc, .slice s0.oo s0.ol s0.oc], .agg #[.int .i64 e1.k, .int .i64 e1.g, .int .i64 e1.o, .int .i64 e1.w, .int .i64 e1.l, .int .i64 e1.s, .int .i64 e1.f, .int .i64 e1.t]] w fun e w' => e = .returned (.bool true) ∧ Below w.heap.size w w' := by
  have f01 := Fr.alloc w (.cells #[.int .i64 s0.g, .slice s0.lo s0.ll s0.lc, .slice s0.co s0.cl s0.cc, .slice s0.no s0.nl s0.nc, .slice s0.oo s0.ol s0.oc] 27)
  have f02 := Fr.alloc (w.alloc (.cells #[.int .i64 s0.g, .slice s0.lo s0.ll s0.lc, .slice s0.co s0.cl s0.cc, .slice s0.no s0.nl s0.nc, .slice s0.oo s0.ol s0.oc] 27)) (.cells #[.int .i64 e1.k, .int .i64 e1.g, .int .i64 e1.o, .int .i64 e1.w, .int .i64 e1.l, .int .i64 e1.s, .int .i64 e1.f, .int .i64 e1.t] 29)
  have ka := (argB w s0).keep f02 (by simp)
  have kb := EvAt.new (w.alloc (.cells #[.int .i64 s0.g, .slice s0.lo s0.ll s0.lc, .slice s0.co s0.cl s0.cc, .slice s0.no s0.nl s0.nc, .slice s0.oo s0.ol s0.oc] 27)) e1 29
  have fW := f01.trans f02
  simp only [World.size_alloc] at kb
  clear f01 f02
  have cz := szScene_any s0 _ (i0.fr fW)
  have ho : I64 e1.o := i1.2.2.1
  clear i0 i1
  have cT2 := fun u => toEvent_any e1 u
  have cS := fun u t (B : Nat → Prop) m (h : ScR B u t m) => codeIn_any t m e1 u ho h
  have cI := fun u t (B : Nat → Prop) m (h : ScR B u t m) (f : Fr w u) => implCode_any t m e1 u h (hs.fr f) ho
  clear ho hs
  obtain ⟨k, gr, o, wi, l, sz, f, t⟩ := e1
  obtain ⟨sg, lo, ll, lc, co, cl, cc, no, nl, nc, oo, ol, oc⟩ := s0
  simp only at fW ka kb cz cT2 cS cI ⊢
  go_enter Tryd.func3, Tryd.ntmps3
  go_wp2_with fail
  obtain ⟨W, hW⟩ : ∃ W, W = (w.alloc (.cells #[.int .i64 sg, .slice lo ll lc, .slice co cl cc, .slice no nl nc, .slice oo ol oc] 27)).alloc (.cells #[.int .i64 k, .int .i64 gr, .int .i64 o, .int .i64 wi, .int .i64 l, .int .i64 sz, .int .i64 f, .int .i64 t] 29) := ⟨_, rfl⟩
  rw [← hW] at fW ka kb cz ⊢
  clear hW
  refine cz.mono ?_
  rintro x u1 ⟨r, rfl, hr, f1⟩
  clear cz
  rcases hr with rfl | ⟨r0, m, R⟩
  · go_wp2_with fail
    go_ret
    exact ⟨rfl, (fW.trans f1).below⟩
  have cT := fun u (f : Fr W u) => toScene_any ⟨sg, lo, ll, lc, co, cl, cc, no, nl, nc, oo, ol, oc⟩ m u (R.fr f)
  simp only at cT
  clear R
  obtain ⟨A, hA⟩ : ∃ A, A = w.heap.size := ⟨_, rfl⟩
  rw [← hA] at ka kb ⊢
  have HA : Hid (A = w.heap.size) := hA
  clear hA
  have HQ : Hid (∀ u, Fr W u → ScB u A ⟨sg, lo, ll, lc, co, cl, cc, no, nl, nc, oo, ol, oc⟩ ∧ EvAt u (A + 1) ⟨k, gr, o, wi, l, sz, f, t⟩) := fun u f => ⟨ka.keep f (by simp), kb.fr f⟩
  clear ka kb
  obtain ⟨⟨a0, a1, a2, a3, a4⟩, c0, c1, c2, c3, c4, c5, c6, c7⟩ := HQ.out u1 f1
  simp only at a0 a1 a2 a3 a4 c0 c1 c2 c3 c4 c5 c6 c7
  have gD := f1.trans (Fr.drew u1)
  go_wp2_with fail
  go_region_held3 (fun u => u.cell? ⟨A, 0, none⟩ = some (.int .i64 sg) ∧ u.cell? ⟨A, 1, none⟩ = some (.slice lo ll lc) ∧ u.cell? ⟨A, 2, none⟩ = some (.slice co cl cc) ∧ u.cell? ⟨A, 3, none⟩ = some (.slice no nl nc) ∧ u.cell? ⟨A, 4, none⟩ = some (.slice oo ol oc) ∧ u.cell? ⟨A + 1, 0, none⟩ = some (.int .i64 k) ∧ u.cell? ⟨A + 1, 1, none⟩ = some (.int .i64 gr) ∧ u.cell? ⟨A + 1, 2, none⟩ = some (.int .i64 o) ∧ u.cell? ⟨A + 1, 3, none⟩ = some (.int .i64 wi) ∧ u.cell? ⟨A + 1, 4, none⟩ = some (.int .i64 l) ∧ u.cell? ⟨A + 1, 5, none⟩ = some (.int .i64 sz) ∧ u.cell? ⟨A + 1, 6, none⟩ = some (.int .i64 f) ∧ u.cell? ⟨A + 1, 7, none⟩ = some (.int .i64 t)) (go_keep)
    (first | (go_at_call 6; refine (cT _ gD).mono ?_; rintro x u2 ⟨t1, rfl, T1, f2⟩; have g2 := gD.trans f2; obtain ⟨⟨p0, p1, p2, p3, p4⟩, q0, q1, q2, q3, q4, q5, q6, q7⟩ := HQ.out _ g2; simp only at p0 p1 p2 p3 p4 q0 q1 q2 q3 q4 q5 q6 q7) | (go_at_call 7; refine (cT2 _).mono ?_; rintro x u3 ⟨rfl, f3⟩; have g3 := g2.trans f3; obtain ⟨⟨v0, v1, v2, v3, v4⟩, y0, y1, y2, y3, y4, y5, y6, y7⟩ := HQ.out _ g3; simp only at v0 v1 v2 v3 v4 y0 y1 y2 y3 y4 y5 y6 y7) | (go_at_call 5; refine (cS _ t1 _ m (T1.fr f3)).mono ?_; rintro x u4 ⟨rfl, f4⟩; have g4 := g3.trans f4; obtain ⟨⟨b0, b1, b2, b3, b4⟩, d0, d1, d2, d3, d4, d5, d6, d7⟩ := HQ.out _ g4; simp only at b0 b1 b2 b3 b4 d0 d1 d2 d3 d4 d5 d6 d7))
  clear a0 a1 a2 a3 a4 c0 c1 c2 c3 c4 c5 c6 c7 p0 p1 p2 p3 p4 q0 q1 q2 q3 q4 q5 q6 q7 v0 v1 v2 v3 v4 y0 y1 y2 y3 y4 y5 y6 y7 d0 d1 d2 d3 d4 d5 d6 d7 T1 f2 f3 f4 g2 g3 gD f1 cS
  go_wp2_with fail
  refine (cT u4 g4).mono ?_
  rintro e u5 ⟨t2, rfl, T2, f5⟩
  clear b0 b1 b2 b3 b4
  have f6 := Fr.alloc u5 (.cells #[.int .i64 t2.g, .slice t2.lo t2.ll t2.lc, .slice t2.co t2.cl t2.cc, .slice t2.no t2.nl t2.nc, .slice t2.oo t2.ol t2.oc] 36)
  have k2 := ScK.new u5 t2
  have T2 := T2.fr f6
  have F5 := g4.trans (f5.trans f6)
  clear f5 f6 g4
  go_wp2_with fail
  obtain ⟨V, hV⟩ : ∃ V, V = u5.alloc (.cells #[.int .i64 t2.g, .slice t2.lo t2.ll t2.lc, .slice t2.co t2.cl t2.cc, .slice t2.no t2.nl t2.nc, .slice t2.oo t2.ol t2.oc] 36) := ⟨_, rfl⟩
  rw [← hV] at k2 T2 F5 ⊢
  clear hV
  obtain ⟨A2, hA⟩ : ∃ A2, A2 = u5.heap.size := ⟨_, rfl⟩
  rw [← hA] at k2 ⊢
  clear hA
  have cI := fun u (f : Fr V u) => cI u t2 _ m (T2.fr f) (fW.trans (F5.trans f))
  obtain ⟨C, hC⟩ : ∃ C, C = codeIn m ⟨k, gr, o, wi, l, sz, f, t⟩ := ⟨_, rfl⟩
  simp only [← hC] at cI ⊢
  clear hC
  obtain ⟨g2, lo2, ll2, lc2, co2, cl2, cc2, no2, nl2, nc2, oo2, ol2, oc2⟩ := t2
  have HK : Hid (∀ u, Fr V u → ScB u A2 ⟨g2, lo2, ll2, lc2, co2, cl2, cc2, no2, nl2, nc2, oo2, ol2, oc2⟩) := fun u (f : Fr V u) => (k2.fr f).at
  have cE := fun u (f : Fr V u) B' t (h : ScR B' u t m) => eqScene_same (B' := B') ⟨g2, lo2, ll2, lc2, co2, cl2, cc2, no2, nl2, nc2, oo2, ol2, oc2⟩ t m u (T2.fr f) h
  simp only at cI cE ⊢
  clear k2 T2
  obtain ⟨⟨a0, a1, a2, a3, a4⟩, c0, c1, c2, c3, c4, c5, c6, c7⟩ := HQ.out V F5
  simp only at a0 a1 a2 a3 a4 c0 c1 c2 c3 c4 c5 c6 c7
  obtain ⟨x0, x1, x2, x3, x4⟩ := HK.out V (Fr.refl V)
  simp only at x0 x1 x2 x3 x4
  go_region_held3 (fun u => u.cell? ⟨A + 1, 0, none⟩ = some (.int .i64 k) ∧ u.cell? ⟨A + 1, 1, none⟩ = some (.int .i64 gr) ∧ u.cell? ⟨A + 1, 2, none⟩ = some (.int .i64 o) ∧ u.cell? ⟨A + 1, 3, none⟩ = some (.int .i64 wi) ∧ u.cell? ⟨A + 1, 4, none⟩ = some (.int .i64 l) ∧ u.cell? ⟨A + 1, 5, none⟩ = some (.int .i64 sz) ∧ u.cell? ⟨A + 1, 6, none⟩ = some (.int .i64 f) ∧ u.cell? ⟨A + 1, 7, none⟩ = some (.int .i64 t) ∧ u.cell? ⟨A2, 0, none⟩ = some (.int .i64 g2) ∧ u.cell? ⟨A2, 1, none⟩ = some (.slice lo2 ll2 lc2) ∧ u.cell? ⟨A2, 2, none⟩ = some (.slice co2 cl2 cc2) ∧ u.cell? ⟨A2, 3, none⟩ = some (.slice no2 nl2 nc2) ∧ u.cell? ⟨A2, 4, none⟩ = some (.slice oo2 ol2 oc2)) (go_keep)
    (first | (go_at_call 7; refine (cT2 _).mono ?_; rintro x u6 ⟨rfl, f6⟩; have g6 := (Fr.drew V).trans f6; obtain ⟨⟨v0, v1, v2, v3, v4⟩, y0, y1, y2, y3, y4, y5, y6, y7⟩ := HQ.out _ (F5.trans g6); simp only at v0 v1 v2 v3 v4 y0 y1 y2 y3 y4 y5 y6 y7; obtain ⟨m0, m1, m2, m3, m4⟩ := HK.out _ g6; simp only at m0 m1 m2 m3 m4) | (go_at_call 8; refine (cI _ g6).mono ?_; rintro x u7 ⟨rfl, f7⟩; have g7 := g6.trans f7; obtain ⟨⟨b0, b1, b2, b3, b4⟩, d0, d1, d2, d3, d4, d5, d6, d7⟩ := HQ.out _ (F5.trans g7); simp only at b0 b1 b2 b3 b4 d0 d1 d2 d3 d4 d5 d6 d7; obtain ⟨n0, n1, n2, n3, n4⟩ := HK.out _ g7; simp only at n0 n1 n2 n3 n4))
  clear a0 a1 a2 a3 a4 c0 c1 c2 c3 c4 c5 c6 c7 v0 v1 v2 v3 v4 y0 y1 y2 y3 y4 y5 y6 y7 d0 d1 d2 d3 d4 d5 d6 d7 m0 m1 m2 m3 m4 x0 x1 x2 x3 x4 cI cT2 g6
  have hne : (C != C) = false := by simp
  go_wp2_with fail
  go_region_held3 (fun u => u.cell? ⟨A, 0, none⟩ = some (.int .i64 sg) ∧ u.cell? ⟨A, 1, none⟩ = some (.slice lo ll lc) ∧ u.cell? ⟨A, 2, none⟩ = some (.slice co cl cc) ∧ u.cell? ⟨A, 3, none⟩ = some (.slice no nl nc) ∧ u.cell? ⟨A, 4, none⟩ = some (.slice oo ol oc) ∧ u.cell? ⟨A2, 0, none⟩ = some (.int .i64 g2) ∧ u.cell? ⟨A2, 1, none⟩ = some (.slice lo2 ll2 lc2) ∧ u.cell? ⟨A2, 2, none⟩ = some (.slice co2 cl2 cc2) ∧ u.cell? ⟨A2, 3, none⟩ = some (.slice no2 nl2 nc2) ∧ u.cell? ⟨A2, 4, none⟩ = some (.slice oo2 ol2 oc2)) (go_keep)
    (first | (go_at_call 6; refine (cT _ ((F5.trans g7).trans (Fr.drew u7))).mono ?_; rintro x u8 ⟨t3, rfl, T3, f8⟩; have g8 := g7.trans ((Fr.drew u7).trans f8); obtain ⟨⟨p0, p1, p2, p3, p4⟩, -⟩ := HQ.out _ (F5.trans g8); simp only at p0 p1 p2 p3 p4; obtain ⟨m0, m1, m2, m3, m4⟩ := HK.out _ g8; simp only at m0 m1 m2 m3 m4) | (go_at_call 9; refine (cE _ g8 _ t3 T3).mono ?_; rintro x u9 ⟨rfl, f9⟩; have g9 := g8.trans f9; obtain ⟨⟨q0, q1, q2, q3, q4⟩, -⟩ := HQ.out _ (F5.trans g9); simp only at q0 q1 q2 q3 q4; obtain ⟨z0, z1, z2, z3, z4⟩ := HK.out _ g9; simp only at z0 z1 z2 z3 z4))
  go_wp2_with fail
  go_ret
  exact ⟨rfl, (fW.trans (F5.trans g9)).below⟩

theorem own : ownKnob Tryd.prog.godebug = none := by kernel_rfl
theorem laidOut : laidOutB Tryd.prog = true := by kernel_rfl
theorem met (os : Os) (args : Array Value) : laidMetH Tryd.prog Rows.fnExactCodeInRow.laid ((World.doorLaid Tryd.prog 400 os).forCall (fun _ _ => 0) ⟨#[], args, []⟩).memory :=
  laidMetH_of_parts3 (fuel := 8) (laidMet_of_run' 8 (by kernel_rfl) (by kernel_rfl)) (by kernel_rfl) (by kernel_rfl)
theorem tables {W : World} (h : laidMetH Tryd.prog Rows.fnExactCodeInRow.laid W) : Shapes W := by
  rw [MakeChecks.laidMetH_plain _ _ _ (by kernel_rfl)] at h
  obtain ⟨ps, hl, -⟩ := h
  exact shapes_of hl

set_option maxRecDepth 100000 in
theorem lifted (os : Os) (started : os.Started) (H : Type) (enc : TypeId × Value → H) :
    ReturnsInHanded {} Tryd.checked os 3 .any (fun w args => (Rows.fnExactCodeInSpec.pre enc Tryd.prog Tryd.f3 [] false w args ∧ laidMetH Tryd.prog Rows.fnExactCodeInRow.laid w) ∧ sizedMet enc Tryd.prog Tryd.f3 (OpenSpec.ofChange Rows.fnExactCodeInSpec) false w args)
      (Rows.fnExactCodeInSpec.post enc Tryd.prog Tryd.f3 false true false false) := by
  refine returnsInHanded_of_change_and (C := Tryd.checked) (X := fun w _ => laidMetH Tryd.prog Rows.fnExactCodeInRow.laid w) (fun _ _ _ hh h => h.of_heap hh) own started (by kernel_rfl) Tryd.func3
    (ChangeSpec.witness_shaped (enc := enc) (C := Tryd.checked) (os := os) (X := fun w _ => laidMetH Tryd.prog Rows.fnExactCodeInRow.laid w) false (World.doorLaid Tryd.prog 400 os) #[.agg #[.int .i64 0, .slice none 0 0, .slice none 0 0, .slice none 0 0, .slice none 0 0], .agg #[.int .i64 0, .int .i64 0, .int .i64 0, .int .i64 0, .int .i64 0, .int .i64 0, .int .i64 0, .int .i64 0]] 8 rfl (World.shaped_of_RefB (by kernel_rfl) (by kernel_rfl)) (by kernel_rfl) (by kernel_rfl) (by kernel_rfl) (met os _)) ?_
  intro W base args ds gs before hval0 hW _ _ hL _
  have hval : ∀ (j : Nat) t v, Tryd.f3.params[j]? = some t → args[j]? = some v → Value.okWide Tryd.prog W .any base t v := hval0
  have hW' := hW
  obtain ⟨p, q, hA0, hV, rfl, hfz, hnd⟩ := hW
  have hA : DataW.TrodAll enc Tryd.prog W 0 (fun _ => true) true Tryd.f3.params.toList args.toList ds p := hA0
  rw [Tryd.params3] at hA hval
  obtain ⟨v0, vs0, d0, ds0, p0, q0, hargs, rfl, rfl, h0, r0⟩ := trodAll_cons hA
  obtain ⟨v1, vs1, d1, ds1, p1, q1, rfl, rfl, rfl, h1, r1⟩ := trodAll_cons r0
  obtain ⟨rfl, rfl, rfl⟩ := trodAll_nil r1
  obtain rfl : args = #[v0, v1] := by cases args; simp_all
  have k0 := h0
  have lt0 : ∀ x ∈ p0, x.block < W.heap.size := by obtain ⟨m, hm⟩ := k0; exact DataW.trod_lt m _ _ _ hm
  have k1 := h1
  have lt1 : ∀ x ∈ p1, x.block < W.heap.size := by obtain ⟨m, hm⟩ := k1; exact DataW.trod_lt m _ _ _ hm
  obtain ⟨s0, rfl, i0⟩ := sc_of_arg (hval 0 27 v0 rfl rfl) h0
  obtain ⟨e1, rfl, i1⟩ := ev_of_arg (hval 1 29 v1 rfl rfl) h1
  clear hA0 hval0
  refine (walk s0 e1 W i0 i1 (tables hL)).mono fun e W' ⟨he, bel⟩ => ?_
  subst he
  match gs, hV with
  | [g1], hV =>
    exact ⟨_, rfl, _, _, _, [], _, _, hW', trodAll_mk1 (shut_bool Tryd.underlying4 _), (trodAll_cons_mk (Below.trod laidOut (by kernel_rfl) (of_decide_eq_true (by kernel_rfl)) k0 bel lt0) (trodAll_cons_mk (Below.trod laidOut (by kernel_rfl) (of_decide_eq_true (by kernel_rfl)) k1 bel lt1) trodAll_mk0)), Below.trodVars laidOut bel (by kernel_rfl) hV, bel.frame _, fun h => by cases h⟩

theorem over : Rows.fnExactCodeInRow.holds Tryd.pinned (OpenSpec.ofChange Rows.fnExactCodeInSpec) :=
  OpenClaim.holds_of_wide 3 Tryd.f3 rfl rfl rfl rfl rfl rfl rfl ⟨rfl, rfl, rfl, rfl, rfl⟩ rfl rfl rfl rfl rfl (by kernel_rfl) Tryd.func3 (by kernel_rfl)
    (of_decide_eq_true (by kernel_rfl)) (by unfold Func.isWrapper; first | (rw [if_pos (by decide +kernel)]; kernel_rfl) | (rw [if_neg (by decide +kernel)]; exact ⟨rfl, rfl⟩))
    (fun os started H enc _ => lifted os started H enc)

theorem carded : Rows.FnExactCodeInCardSaid :=
  Claim7.holds_tied_plain_at .later [] [.data] true (true, "daaa499d8a344ff4ef713bce37aea0b60aadb5914f99555e21632bb2c6407674") false
    over (fun _ h => by cases h) (by kernel_rfl) (fun _ h => by cases h) fnExactCodeIn_row_tie rfl ⟨rfl, rfl⟩ (by kernel_rfl) rfl
    (fun f fn hf hfn => by
      obtain rfl : f = 3 := Option.some.inj ((show Tryd.prog.funcNamed "loop.example/g00720/laws.FnExactCodeIn" = some 3 by kernel_rfl).symm.trans hf) |>.symm
      obtain rfl : fn = Tryd.f3 := (Option.some.inj (Tryd.func3.symm.trans hfn)).symm
      exact ⟨by kernel_rfl, fun j t ht => by
        rw [Tryd.params3] at ht
        have hm : t ∈ [27, 29] := by simpa using Array.mem_of_getElem? ht
        have hall : ([27, 29].all fun u => !Tryd.prog.wantsStandIn u) = true := by kernel_rfl
        exact (show Tryd.prog.wantsStandIn t = false by simpa using List.all_eq_true.1 hall t hm)⟩)
    (by kernel_rfl)
end Go.Proofs.YtpdakokmckmbgaaDoor.fnExactCodeIn
namespace Go.Proofs.YtpdakokmckmbgaaDoor
theorem fnExactCodeIn_holds : Rows.FnExactCodeInCardSaid := fnExactCodeIn.carded
end Go.Proofs.YtpdakokmckmbgaaDoor
