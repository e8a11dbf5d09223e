/-
  Is a sampler right: the specification's SamplerOk.
-/
import Derived.Test.YtkfcchapfklpgaaOwK
import Derived.Test.YtkfcchapfklpgaaBrs5
namespace Go.Proofs.Ytkfcchapfklpgaa
open Go.RowKit

theorem gorSp_any (x : Int) (w : World) :
    Calls Try.prog 24 #[.int .i64 x] w fun e w' => e = .returned (.bool (inB 0 15 x)) ∧ w' = w := by
  go_enter Try.func24, Try.ntmps24
  go_wp2_with (go_at_call 23; refine (l1In_any _ _ _ _).mono ?_; rintro e w' ⟨rfl, rfl⟩)
  go_ret
  exact ⟨rfl, rfl⟩
theorem ahead_any (o : Ow) (g f : Int) (w : World) :
    Calls Try.prog 26 #[.agg #[.int .i64 o.g, .int .i64 o.f, .int .i64 o.b.l, .int .i64 o.b.s, .int .i64 o.b.g], .int .i64 g, .int .i64 f] w fun e w' => e = .returned (.bool (ahB o.g o.f g f)) ∧ Fr w w' := by
  obtain ⟨og, of, l, s, p⟩ := o
  simp only
  unfold ahB
  by_cases h1 : og < g
  · have d1 : decide (og < g) = true := decide_eq_true h1
    rw [d1, Bool.true_or]
    go_enter Try.func26, Try.ntmps26
    go_wp2_with fail
    go_ret
    exact ⟨rfl, Fr.alloc _ _⟩
  · have d1 : decide (og < g) = false := decide_eq_false h1
    rw [d1, Bool.false_or]
    by_cases h2 : og = g
    · have d2 : (og == g) = true := beq_iff_eq.2 h2
      rw [decide_eq_true h2, Bool.true_and]
      have HF : Hid (og = g) := h2
      clear h2
      by_cases h3 : of < f
      · have d3 : decide (of < f) = true := decide_eq_true h3
        rw [d3]
        go_enter Try.func26, Try.ntmps26
        go_wp2_with fail
        go_ret
        exact ⟨rfl, Fr.alloc _ _⟩
      · have d3 : decide (of < f) = false := decide_eq_false h3
        rw [d3]
        go_enter Try.func26, Try.ntmps26
        go_wp2_with fail
        go_ret
        exact ⟨rfl, Fr.alloc _ _⟩
    · have d2 : (og == g) = false := beq_eq_false_iff_ne.2 h2
      rw [decide_eq_false h2, Bool.false_and]
      clear h2
      go_enter Try.func26, Try.ntmps26
      go_wp2_with fail
      go_ret
      exact ⟨rfl, Fr.alloc _ _⟩
theorem smB_cut {c : Cf} {os : List Ow} {p u : Int} (h : 300 < os.length) : smB c ⟨os, p, u⟩ = false := by
  simp only [smB]
  rw [decide_eq_false (show ¬ os.length ≤ 300 by omega)]
  simp
theorem smB_0 {c : Cf} {os : List Ow} {p u : Int} (h : cfB c = false) : smB c ⟨os, p, u⟩ = false := by simp [smB, h]
theorem smB_1 {c : Cf} {os : List Ow} {p u : Int} (h : inB (-1) 300 p = false) : smB c ⟨os, p, u⟩ = false := by simp [smB, h]
theorem smB_2 {c : Cf} {os : List Ow} {p u : Int} (h : inB 0 c.q u = false) : smB c ⟨os, p, u⟩ = false := by simp [smB, h]
theorem smB_3 {c : Cf} {os : List Ow} {p u : Int} (h0 : cfB c = true) (h : ¬ 300 < os.length) (h1 : inB (-1) 300 p = true) (h2 : inB 0 c.q u = true) : smB c ⟨os, p, u⟩ = rowO c os := by
  simp [smB, h0, h1, h2]
  intro _
  omega

set_option maxRecDepth 20000 in
set_option maxHeartbeats 8000000 in
theorem smOk_spec (c : Cf) (ao : Option Addr) (n cap : Nat) (os : List Ow) (p v : Int) (W : World) (hn : os.length = n) (h : ReadsG LO W ao os) :
    Calls Try.prog 7 #[.agg #[.int .i64 c.r, .int .i64 c.s, .int .i64 c.b, .int .i64 c.m, .int .i64 c.q, .int .i64 c.c, .int .i64 c.w], .agg #[.slice ao n cap, .int .i64 p, .int .i64 v]] W fun e w' => e = .returned (.bool (smB c ⟨os, p, v⟩)) ∧ Fr W w' := by
  subst hn
  have hl := h.len
  have cC := fun u => cfOk_spec c u
  have cP := fun w => l1In_any p (-1) 300 w
  have cU := fun w => l1In_any v 0 c.q w
  have cB := fun x u => buOk_spec c x u
  have f1 := Fr.alloc W (.cells #[.int .i64 c.r, .int .i64 c.s, .int .i64 c.b, .int .i64 c.m, .int .i64 c.q, .int .i64 c.c, .int .i64 c.w] 29)
  have aC := CfAt.new W c 29
  have f2 := Fr.alloc (W.alloc (.cells #[.int .i64 c.r, .int .i64 c.s, .int .i64 c.b, .int .i64 c.m, .int .i64 c.q, .int .i64 c.c, .int .i64 c.w] 29)) (.cells #[.slice ao os.length cap, .int .i64 p, .int .i64 v] 33)
  have zS : KyZ ((W.alloc (.cells #[.int .i64 c.r, .int .i64 c.s, .int .i64 c.b, .int .i64 c.m, .int .i64 c.q, .int .i64 c.c, .int .i64 c.w] 29)).alloc (.cells #[.slice ao os.length cap, .int .i64 p, .int .i64 v] 33)) (W.alloc (.cells #[.int .i64 c.r, .int .i64 c.s, .int .i64 c.b, .int .i64 c.m, .int .i64 c.q, .int .i64 c.c, .int .i64 c.w] 29)).heap.size 33 #[.slice ao os.length cap, .int .i64 p, .int .i64 v] := heap_alloc_new _ _
  rw [World.size_alloc] at zS
  replace aC := aC.fr f2
  replace f1 := f1.trans f2
  clear f2
  have hR := h.fr f1
  have H0 : Hid (cfB c = false → smB c ⟨os, p, v⟩ = false) := smB_0
  have H1 : Hid (inB (-1) 300 p = false → smB c ⟨os, p, v⟩ = false) := smB_1
  have H2 : Hid (inB 0 c.q v = false → smB c ⟨os, p, v⟩ = false) := smB_2
  have HL : Hid (300 < os.length → smB c ⟨os, p, v⟩ = false) := smB_cut
  have H3 : Hid (cfB c = true → ¬ 300 < os.length → inB (-1) 300 p = true → inB 0 c.q v = true → smB c ⟨os, p, v⟩ = rowO c os) := smB_3
  obtain ⟨R, hR2⟩ : ∃ R, R = smB c ⟨os, p, v⟩ := ⟨_, rfl⟩
  rw [← hR2] at H0 H1 H2 HL H3 ⊢
  clear hR2 h
  generalize cfB c = B0 at cC H0 H3 ⊢
  generalize inB (-1) 300 p = B1 at cP H1 H3 ⊢
  generalize inB 0 c.q v = B2 at cU H2 H3 ⊢
  obtain ⟨Z, hZ⟩ : ∃ Z, Z = W.heap.size := ⟨_, rfl⟩
  obtain ⟨r, s, b, m, q, cc, cw⟩ := c
  simp only at cC cU cB aC f1 zS hR ⊢
  go_enter Try.func7, Try.ntmps7
  go_wp2_with fail
  obtain ⟨V, hV⟩ : ∃ V, V = (W.alloc (.cells #[.int .i64 r, .int .i64 s, .int .i64 b, .int .i64 m, .int .i64 q, .int .i64 cc, .int .i64 cw] 29)).alloc (.cells #[.slice ao os.length cap, .int .i64 p, .int .i64 v] 33) := ⟨_, rfl⟩
  rw [← hV] at aC f1 zS hR ⊢
  rw [← hZ] at aC zS ⊢
  clear hV hZ
  refine (cC _).mono ?_
  rintro e u1 ⟨rfl, k1⟩
  replace f1 := f1.trans k1
  replace aC := aC.fr k1
  replace zS := zS.fr k1
  replace hR := hR.fr k1
  clear k1
  cases B0
  · have HF : Hid (R = false) := H0.out (by trivial)
    go_wp2_with fail
    go_ret
    exact ⟨ret_bool HF.out.symm, f1⟩
  have HQ : Hid (∀ u, Fr u1 u → CfAt u Z 0 ⟨r, s, b, m, q, cc, cw⟩ ∧ KyZ u (Z + 1) 33 #[.slice ao os.length cap, .int .i64 p, .int .i64 v] ∧ ReadsG LO u ao os) := fun u k => ⟨aC.fr k, zS.fr k, hR.fr k⟩
  clear aC zS hR H0
  obtain ⟨⟨ak0, ak1, ak2, ak3, ak4, ak5, ak6⟩, zS, hR⟩ := HQ.out _ (Fr.refl _)
  simp only [Nat.zero_add] at ak0 ak1 ak2 ak3 ak4 ak5 ak6
  obtain ⟨z0, z1, z2⟩ := zS.c3
  clear zS hR
  by_cases hlong : 300 < os.length
  · have HF : Hid (R = false) := HL.out hlong
    go_wp2_with fail
    go_ret
    exact ⟨ret_bool HF.out.symm, f1⟩
  have hlong2 : decide ((300 : Int) < (os.length : Int)) = false := decide_eq_false (by omega)
  go_wp2_with fail
  refine (cP _).mono ?_
  rintro e u1 ⟨rfl, rfl⟩
  cases B1
  · have HF : Hid (R = false) := H1.out (by trivial)
    go_wp2_with fail
    go_ret
    exact ⟨ret_bool HF.out.symm, f1⟩
  go_wp2_with fail
  refine (cU _).mono ?_
  rintro e u1 ⟨rfl, rfl⟩
  cases B2
  · have HF : Hid (R = false) := H2.out (by trivial)
    go_wp2_with fail
    go_ret
    exact ⟨ret_bool HF.out.symm, f1⟩
  have HR : Hid (R = rowO ⟨r, s, b, m, q, cc, cw⟩ os) := H3.out (by trivial) hlong (by trivial) (by trivial)
  clear H1 H2 HL H3 ak0 ak1 ak2 ak3 ak4 ak5 ak6 z0 z1 z2 cP cU cC
  go_wp2_with fail
  go_loopw [5] (fun i wr => ∃ k : Nat, k ≤ os.length ∧ i = .int .i64 k ∧ Hid (∀ j, j < k → owAt ⟨r, s, b, m, q, cc, cw⟩ os j = true) ∧ Fr u1 wr) (fun i _ => os.length - (intOf i).toNat)
  case atStart => exact ⟨0, Nat.zero_le _, rfl, fun j hj => by omega, Fr.refl _⟩
  case round =>
    obtain ⟨k, hk, rfl, HA, fV⟩ := hrel
    obtain ⟨⟨ak0, ak1, ak2, ak3, ak4, ak5, ak6⟩, zS, hR⟩ := HQ.out _ fV
    simp only [Nat.zero_add] at ak0 ak1 ak2 ak3 ak4 ak5 ak6
    obtain ⟨z0, z1, z2⟩ := zS.c3
    clear zS
    by_cases hlt : k < os.length
    · obtain ⟨eb, off, rfl, d0, d1, d2, d3, d4⟩ := ow_at hR k hlt
      obtain ⟨x, hx⟩ : ∃ x, x = os[k] := ⟨_, rfl⟩
      have HX : Hid (x = os[k]) := hx
      rw [← hx] at d0 d1 d2 d3 d4
      clear hx hR
      have c1 := fun u => gorSp_any x.g u
      have c2 := fun u => l1In_any x.f 0 999 u
      have c3 := fun u => cB x.b u
      obtain ⟨B1, hB1⟩ : ∃ B1, B1 = inB 0 15 x.g := ⟨_, rfl⟩
      obtain ⟨B2, hB2⟩ : ∃ B2, B2 = inB 0 999 x.f := ⟨_, rfl⟩
      obtain ⟨B3, hB3⟩ : ∃ B3, B3 = bkB ⟨r, s, b, m, q, cc, cw⟩ x.b := ⟨_, rfl⟩
      have HO : Hid (owB ⟨r, s, b, m, q, cc, cw⟩ x = (B1 && B2 && B3)) := by rw [hB1, hB2, hB3]; rfl
      simp only [← hB1] at c1
      simp only [← hB2] at c2
      simp only [← hB3] at c3
      clear hB1 hB2 hB3
      obtain ⟨xg, xf, xl, xs, xp⟩ := x
      simp only at d0 d1 d2 d3 d4 c1 c2 c3
      have z3 : OwZ (wr.alloc (.cells #[.int .i64 xg, .int .i64 xf, .int .i64 xl, .int .i64 xs, .int .i64 xp] 53)) wr.heap.size #[.int .i64 xg, .int .i64 xf, .int .i64 xl, .int .i64 xs, .int .i64 xp] := heap_alloc_new wr _
      have fz := Fr.alloc wr (.cells #[.int .i64 xg, .int .i64 xf, .int .i64 xl, .int .i64 xs, .int .i64 xp] 53)
      go_wp2_with fail
      clear ak0 ak1 ak2 ak3 ak4 ak5 ak6 z0 z1 z2 d0 d1 d2 d3 d4
      obtain ⟨U, hU⟩ : ∃ U, U = wr.alloc (.cells #[.int .i64 xg, .int .i64 xf, .int .i64 xl, .int .i64 xs, .int .i64 xp] 53) := ⟨_, rfl⟩
      rw [← hU] at z3 fz ⊢
      clear hU
      have fU := fV.trans fz
      obtain ⟨O, hO⟩ : ∃ O, O = wr.heap.size := ⟨_, rfl⟩
      rw [← hO] at z3 ⊢
      clear hO fz
      obtain ⟨⟨ak0, ak1, ak2, ak3, ak4, ak5, ak6⟩, zS, hR⟩ := HQ.out _ fU
      simp only [Nat.zero_add] at ak0 ak1 ak2 ak3 ak4 ak5 ak6
      obtain ⟨z0, -, -⟩ := zS.c3
      obtain ⟨o0, o1, o2, o3, o4⟩ := z3.cs
      have p0 : ∀ s : Later U, s.u.cell? ⟨O, 0, none⟩ = some (.int .i64 xg) := fun s => s.fr.cell o0
      have p1 : ∀ s : Later U, s.u.cell? ⟨O, 1, none⟩ = some (.int .i64 xf) := fun s => s.fr.cell o1
      have p2 : ∀ s : Later U, s.u.cell? ⟨O, 2, none⟩ = some (.int .i64 xl) := fun s => s.fr.cell o2
      have p3 : ∀ s : Later U, s.u.cell? ⟨O, 3, none⟩ = some (.int .i64 xs) := fun s => s.fr.cell o3
      have p4 : ∀ s : Later U, s.u.cell? ⟨O, 4, none⟩ = some (.int .i64 xp) := fun s => s.fr.cell o4
      have := Later.some U
      clear zS z3 o0 o1 o2 o3 o4
      have HBAD : Hid ((B1 && B2 && B3) = false → R = false) := fun hb => by
        rw [HR.out]
        exact rowO_no hlt (owAt_bad hlt (by rw [← HX.out, HO.out]; exact hb))
      cases B1
      · have HF : Hid (R = false) := HBAD.out (by trivial)
        clear hR HBAD HO
        refine wp_region_grown (by kernel_rfl) (by kernel_rfl) ?_
        repeat (go_big_quiet_step (with_reducible exact Calls.grown_same (c1 _)))
        refine wpQuiet_nil ?_
        rintro _ ⟨s, rfl⟩
        go_wp2_with fail
        go_ret
        exact ⟨ret_bool HF.out.symm, f1.trans (fU.trans s.fr)⟩
      cases B2
      · have HF : Hid (R = false) := HBAD.out (by trivial)
        clear hR HBAD HO
        refine wp_region_grown (by kernel_rfl) (by kernel_rfl) ?_
        repeat (go_big_quiet_step (first | with_reducible exact Calls.grown_same (c1 _) | with_reducible exact Calls.grown_same (c2 _)))
        refine wpQuiet_nil ?_
        rintro _ ⟨s, rfl⟩
        go_wp2_with fail
        go_ret
        exact ⟨ret_bool HF.out.symm, f1.trans (fU.trans s.fr)⟩
      have q0 : ∀ s : Later U, s.u.cell? ⟨Z, 0, none⟩ = some (.int .i64 r) := fun s => s.fr.cell ak0
      have q1 : ∀ s : Later U, s.u.cell? ⟨Z, 1, none⟩ = some (.int .i64 _) := fun s => s.fr.cell ak1
      have q2 : ∀ s : Later U, s.u.cell? ⟨Z, 2, none⟩ = some (.int .i64 b) := fun s => s.fr.cell ak2
      have q3 : ∀ s : Later U, s.u.cell? ⟨Z, 3, none⟩ = some (.int .i64 m) := fun s => s.fr.cell ak3
      have q4 : ∀ s : Later U, s.u.cell? ⟨Z, 4, none⟩ = some (.int .i64 q) := fun s => s.fr.cell ak4
      have q5 : ∀ s : Later U, s.u.cell? ⟨Z, 5, none⟩ = some (.int .i64 cc) := fun s => s.fr.cell ak5
      have q6 : ∀ s : Later U, s.u.cell? ⟨Z, 6, none⟩ = some (.int .i64 cw) := fun s => s.fr.cell ak6
      have q7 : ∀ s : Later U, s.u.cell? ⟨Z + 1, 0, none⟩ = some (.slice (some ⟨eb, off, none⟩) os.length cap) := fun s => s.fr.cell z0
      clear ak0 ak1 ak2 ak3 ak4 ak5 ak6 z0
      cases B3
      · have HF : Hid (R = false) := HBAD.out (by trivial)
        clear hR HBAD HO
        refine wp_region_grown (by kernel_rfl) (by kernel_rfl) ?_
        repeat (go_big_quiet_step (first | with_reducible exact Calls.grown_same (c1 _) | with_reducible exact Calls.grown_same (c2 _) | with_reducible exact Calls.grown_of (c3 _)))
        refine wpQuiet_nil ?_
        rintro _ ⟨s, rfl⟩
        go_wp2_with fail
        go_ret
        exact ⟨ret_bool HF.out.symm, f1.trans (fU.trans s.fr)⟩
      clear HBAD
      cases k with
      | zero =>
        have HT : Hid (owAt ⟨r, s, b, m, q, cc, cw⟩ os 0 = true) := by
          show _ = true
          rw [owAt_zero hlt, ← HX.out, HO.out]; rfl
        have hd : decide ((0 : Int) < 0) = false := by decide
        clear HO HX hR
        refine wp_region_grown (by kernel_rfl) (by kernel_rfl) ?_
        repeat (go_big_quiet_step (first | with_reducible exact Calls.grown_same (c1 _) | with_reducible exact Calls.grown_same (c2 _) | with_reducible exact Calls.grown_of (c3 _)))
        refine wpQuiet_nil ?_
        rintro _ ⟨s, rfl⟩
        go_wp2_with fail
        go_roundw
        case rel => exact ⟨1, by omega, by go_num, rowO_next HA.out HT.out, fU.trans s.fr⟩
        case measure => simp [intOf]; omega
      | succ k =>
        obtain ⟨eb', off', e', t0, t1, t2, t3, t4⟩ := ow_at hR k (by omega)
        simp only [Option.some.injEq, Addr.mk.injEq, and_true] at e'
        obtain ⟨rfl, rfl⟩ := e'
        obtain ⟨y, hy⟩ : ∃ y, y = os[k] := ⟨_, rfl⟩
        have HY : Hid (y = os[k]) := hy
        rw [← hy] at t0 t1 t2 t3 t4
        clear hy hR
        have HM : Hid (owAt ⟨r, s, b, m, q, cc, cw⟩ os (k + 1) = ahB y.g y.f xg xf) := by
          show _ = _
          rw [owAt_succ hlt, ← HX.out, HO.out, ← HY.out]; rfl
        have cY := fun u => ahead_any y xg xf u
        obtain ⟨C, hC⟩ : ∃ C, C = ahB y.g y.f xg xf := ⟨_, rfl⟩
        simp only [← hC] at cY
        rw [← hC] at HM
        clear hC HX HO HY
        obtain ⟨yg, yf, yl, ys, yp⟩ := y
        simp only at t0 t1 t2 t3 t4 cY
        have g0 : ∀ s : Later U, s.u.cell? ⟨eb, off + k * 5, none⟩ = some (.int .i64 yg) := fun s => s.fr.cell t0
        have g1 : ∀ s : Later U, s.u.cell? ⟨eb, off + k * 5 + 1, none⟩ = some (.int .i64 yf) := fun s => s.fr.cell t1
        have g2 : ∀ s : Later U, s.u.cell? ⟨eb, off + k * 5 + 2, none⟩ = some (.int .i64 yl) := fun s => s.fr.cell t2
        have g3 : ∀ s : Later U, s.u.cell? ⟨eb, off + k * 5 + 3, none⟩ = some (.int .i64 ys) := fun s => s.fr.cell t3
        have g4 : ∀ s : Later U, s.u.cell? ⟨eb, off + k * 5 + 4, none⟩ = some (.int .i64 yp) := fun s => s.fr.cell t4
        clear t0 t1 t2 t3 t4
        have hwk : IntKind.i64.wrap (((k + 1 : Nat) : Int) - 1) = (k : Int) := by rw [IntKind.wrap_i64]; omega
        have hpos : decide (((k + 1 : Nat) : Int) > 0) = true := decide_eq_true (by omega)
        cases C
        · have HF : Hid (R = false) := by
            show R = false
            rw [HR.out]
            exact rowO_no hlt HM.out
          clear HM
          refine wp_region_grown (by kernel_rfl) (by kernel_rfl) ?_
          repeat (go_big_quiet_step (first | with_reducible exact Calls.grown_same (c1 _) | with_reducible exact Calls.grown_same (c2 _) | with_reducible exact Calls.grown_of (c3 _) | with_reducible exact Calls.grown_of (cY _)))
          refine wpQuiet_nil ?_
          rintro _ ⟨s, rfl⟩
          go_wp2_with fail
          go_ret
          exact ⟨ret_bool HF.out.symm, f1.trans (fU.trans s.fr)⟩
        · refine wp_region_grown (by kernel_rfl) (by kernel_rfl) ?_
          repeat (go_big_quiet_step (first | with_reducible exact Calls.grown_same (c1 _) | with_reducible exact Calls.grown_same (c2 _) | with_reducible exact Calls.grown_of (c3 _) | with_reducible exact Calls.grown_of (cY _)))
          refine wpQuiet_nil ?_
          rintro _ ⟨s, rfl⟩
          go_wp2_with fail
          go_roundw
          case rel => exact ⟨k + 2, by omega, by go_num, rowO_next HA.out HM.out, fU.trans s.fr⟩
          case measure => simp [intOf]; omega
    · have HT : Hid (R = true) := by
        show R = true
        rw [HR.out]
        exact rowO_yes fun j hj => HA.out j (by omega)
      clear hR ak0 ak1 ak2 ak3 ak4 ak5 ak6
      go_wp2_with fail
      go_ret
      exact ⟨ret_bool HT.out.symm, f1.trans fV⟩
end Go.Proofs.Ytkfcchapfklpgaa
