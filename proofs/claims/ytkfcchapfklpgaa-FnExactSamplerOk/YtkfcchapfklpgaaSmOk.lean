/-
  Is a sampler right: the program's SamplerOk.
-/
import Derived.Test.YtkfcchapfklpgaaCmpO
import Derived.Test.YtkfcchapfklpgaaOwK
import Derived.Test.YtkfcchapfklpgaaBrs5
namespace Go.Proofs.Ytkfcchapfklpgaa
open Go.RowKit Go.Sort

theorem cmpOwn_fr (g f h k : Int) (w : World) :
    Calls Try.prog 51 #[.agg #[.int .i64 g, .int .i64 f], .agg #[.int .i64 h, .int .i64 k]] w fun e w' => e = .returned (.int .i64 (cmpO g f h k)) ∧ Fr w w' := by
  refine (cmpOwn_any g f h k w).mono ?_
  rintro e w' ⟨rfl, q, os, rfl⟩
  refine ⟨rfl, ⟨rfl, rfl, rfl, by rw [size_grow]; exact Nat.le_add_right _ _, fun i hi _ => ?_⟩⟩
  show (w.heap ++ os)[i]? = _
  rw [Array.getElem?_append_left hi]
theorem ownsOk_long {c : Cf} {os : List Ow} (h : 300 < os.length) : (decide (os.length ≤ 300) && rowO c os) = false := by
  rw [decide_eq_false (by omega)]; rfl
theorem ownsOk_short {c : Cf} {os : List Ow} (h : os.length ≤ 300) : (decide (os.length ≤ 300) && rowO c os) = rowO c os := by
  rw [decide_eq_true h]; rfl

set_option maxRecDepth 20000 in
set_option maxHeartbeats 4000000 in
theorem ownsOk_any (c : Cf) (ao : Option Addr) (n cap : Nat) (os : List Ow) (W : World) (hn : os.length = n) (h : ReadsG LO W ao os) :
    Calls Try.prog 30 #[.agg #[.int .i64 c.r, .int .i64 c.s, .int .i64 c.b, .int .i64 c.m, .int .i64 c.q, .int .i64 c.c, .int .i64 c.w], .slice ao n cap] W fun e w' => e = .returned (.bool (decide (os.length ≤ 300) && rowO c os)) ∧ Fr W w' := by
  subst hn
  have hl := h.len
  have cB := fun x u => buOk_impl c x u
  have HB : Hid (∀ x, bkB c x = bkB c x) := fun _ => rfl
  have aC := CfAt.new W c 29
  have f0 := Fr.alloc W (.cells #[.int .i64 c.r, .int .i64 c.s, .int .i64 c.b, .int .i64 c.m, .int .i64 c.q, .int .i64 c.c, .int .i64 c.w] 29)
  have hR := h.fr f0
  have HW : Hid (∀ o : Ow, owB c o = (inB 0 15 o.g && inB 0 999 o.f && bkB c o.b)) := fun _ => rfl
  obtain ⟨R, hR2⟩ : ∃ R, R = rowO c os := ⟨_, rfl⟩
  have HR : Hid (R = rowO c os) := hR2
  by_cases h3 : 300 < os.length
  · rw [ownsOk_long h3]
    clear hR2 HR HW HB
    obtain ⟨r, s, b, m, q, cc, w⟩ := c
    go_enter Try.func30, Try.ntmps30
    go_wp2_with fail
    go_ret
    exact ⟨rfl, f0⟩
  rw [ownsOk_short (by omega), ← hR2]
  clear hR2
  have hc : ∃ cc : Cf, cc = c := ⟨c, rfl⟩
  obtain ⟨r, s, b, m, q, cq, cw⟩ := c
  simp only at f0 aC hR cB ⊢
  go_enter Try.func30, Try.ntmps30
  go_wp2_with fail
  obtain ⟨V, hV⟩ : ∃ V, V = W.alloc (.cells #[.int .i64 r, .int .i64 s, .int .i64 b, .int .i64 m, .int .i64 q, .int .i64 cq, .int .i64 cw] 29) := ⟨_, rfl⟩
  rw [← hV] at aC f0 hR ⊢
  clear hV
  obtain ⟨Z, hZ⟩ : ∃ Z, Z = W.heap.size := ⟨_, rfl⟩
  rw [← hZ] at aC ⊢
  clear hZ
  go_loopw [12] (fun i wr => ∃ k : Nat, k ≤ os.length ∧ i = .int .i64 k ∧ Hid (∀ j, j < k → owAt ⟨r, s, b, m, q, cq, cw⟩ os j = true) ∧ Fr V wr) (fun i _ => os.length - (intOf i).toNat)
  case atStart => exact ⟨0, Nat.zero_le _, rfl, fun j hj => by omega, Fr.refl _⟩
  case round =>
    obtain ⟨k, hk, rfl, HA, fV⟩ := hrel
    by_cases hlt : k < os.length
    · have HQ : Hid (∀ u, Fr V u → CfAt u Z 0 ⟨r, s, b, m, q, cq, cw⟩ ∧ ReadsG LO u ao os) := fun u k => ⟨aC.fr k, hR.fr k⟩
      clear aC hR
      obtain ⟨aC, hR⟩ := HQ.out _ fV
      obtain ⟨eb, off, rfl, d0, d1, d2, d3, d4⟩ := ow_at hR k hlt
      obtain ⟨x, hx⟩ : ∃ x, x = os[k] := ⟨_, rfl⟩
      have HX : Hid (x = os[k]) := hx
      rw [← hx] at d0 d1 d2 d3 d4
      clear hx
      have cW := fun u => owner_any x u
      have cK := fun u => kyOk_any x.g x.f u
      have cB := fun u => cB x.b u
      have cM := fun g f u => cmpOwn_fr g f x.g x.f u
      obtain ⟨B1, hB1⟩ : ∃ B1, B1 = (inB 0 15 x.g && inB 0 999 x.f) := ⟨_, rfl⟩
      obtain ⟨B2, hB2⟩ : ∃ B2, B2 = bkB ⟨r, s, b, m, q, cq, cw⟩ x.b := ⟨_, rfl⟩
      have HO : Hid (owB ⟨r, s, b, m, q, cq, cw⟩ x = (B1 && B2)) := by rw [hB1, hB2]; rfl
      simp only [← hB1] at cK
      simp only [← hB2] at cB
      clear hB1 hB2
      obtain ⟨xg, xf, xl, xs, xp⟩ := x
      simp only at d0 d1 d2 d3 d4 cW cK cB cM
      have z0 : OwZ (wr.alloc (.cells #[.int .i64 xg, .int .i64 xf, .int .i64 xl, .int .i64 xs, .int .i64 xp] 53)) wr.heap.size #[.int .i64 xg, .int .i64 xf, .int .i64 xl, .int .i64 xs, .int .i64 xp] := heap_alloc_new wr _
      have fz := Fr.alloc wr (.cells #[.int .i64 xg, .int .i64 xf, .int .i64 xl, .int .i64 xs, .int .i64 xp] 53)
      clear HB aC
      go_wp2_with fail
      refine (cW _).mono ?_
      rintro e u1 ⟨rfl, f1⟩
      go_wp2_with fail
      refine (cK _).mono ?_
      rintro e u2 ⟨rfl, f2⟩
      clear d0 d1 d2 d3 d4
      have fV2 := fV.trans (fz.trans (f1.trans f2))
      have z2 := z0.fr (f1.trans f2)
      clear z0 f1 f2 fz cK
      cases B1
      · have HF : Hid (R = false) := by
          show R = false
          rw [HR.out]
          refine rowO_no hlt (owAt_bad hlt ?_)
          rw [← HX.out, HO.out]; rfl
        clear HO
        go_wp2_with fail
        go_ret
        exact ⟨ret_bool HF.out.symm, f0.trans fV2⟩
      obtain ⟨ak0, ak1, ak2, ak3, ak4, ak5, ak6⟩ := (HQ.out _ fV2).1
      simp only [Nat.zero_add] at ak0 ak1 ak2 ak3 ak4 ak5 ak6
      obtain ⟨o0, o1, o2, o3, o4⟩ := z2.cs
      go_wp2_with fail
      refine (cB _).mono ?_
      rintro e u3 ⟨rfl, f3⟩
      clear ak0 ak1 ak2 ak3 ak4 ak5 ak6 o0 o1 o2 o3 o4
      have fV3 := fV2.trans f3
      have z3 := z2.fr f3
      clear z2 f3 cB fV2
      cases B2
      · have HF : Hid (R = false) := by
          show R = false
          rw [HR.out]
          refine rowO_no hlt (owAt_bad hlt ?_)
          rw [← HX.out, HO.out]; rfl
        clear HO
        go_wp2_with fail
        go_ret
        exact ⟨ret_bool HF.out.symm, f0.trans fV3⟩
      obtain ⟨o0, o1, o2, o3, o4⟩ := z3.cs
      have p0 : ∀ s : Later u3, s.u.cell? ⟨wr.heap.size, 0, none⟩ = some (.int .i64 xg) := fun s => s.fr.cell o0
      have p1 : ∀ s : Later u3, s.u.cell? ⟨wr.heap.size, 1, none⟩ = some (.int .i64 xf) := fun s => s.fr.cell o1
      have p2 : ∀ s : Later u3, s.u.cell? ⟨wr.heap.size, 2, none⟩ = some (.int .i64 xl) := fun s => s.fr.cell o2
      have p3 : ∀ s : Later u3, s.u.cell? ⟨wr.heap.size, 3, none⟩ = some (.int .i64 xs) := fun s => s.fr.cell o3
      have p4 : ∀ s : Later u3, s.u.cell? ⟨wr.heap.size, 4, none⟩ = some (.int .i64 xp) := fun s => s.fr.cell o4
      have := Later.some u3
      clear o0 o1 o2 o3 o4 z3
      cases k with
      | zero =>
        have HT : Hid (owAt ⟨r, s, b, m, q, cq, cw⟩ os 0 = true) := by
          show _ = true
          rw [owAt_zero hlt, ← HX.out, HO.out]; rfl
        have hd : decide ((0 : Int) < 0) = false := by decide
        clear HO HX hR cM cW p0 p1 p2 p3 p4
        go_wp2_with fail
        refine wp_region_grown (by kernel_rfl) (by kernel_rfl) ?_
        repeat (go_big_quiet_step (fail))
        refine wpQuiet_nil ?_
        rintro _ ⟨s, rfl⟩
        go_wp2_with fail
        go_roundw
        case rel => exact ⟨1, by omega, by go_num, rowO_next HA.out HT.out, fV3.trans s.fr⟩
        case measure => simp [intOf]; omega
      | succ k =>
        obtain ⟨eb', off', e', t0, t1, t2, t3, t4⟩ := ow_at (HQ.out _ fV3).2 k (by omega)
        simp only [Option.some.injEq, Addr.mk.injEq, and_true] at e'
        obtain ⟨rfl, rfl⟩ := e'
        obtain ⟨y, hy⟩ : ∃ y, y = os[k] := ⟨_, rfl⟩
        have HY : Hid (y = os[k]) := hy
        rw [← hy] at t0 t1 t2 t3 t4
        clear hy
        have HM : Hid (owAt ⟨r, s, b, m, q, cq, cw⟩ os (k + 1) = ahB y.g y.f xg xf) := by
          show _ = _
          rw [owAt_succ hlt, ← HX.out, HO.out, ← HY.out]; rfl
        have cY := fun u => owner_any y u
        have cM := fun u => cM y.g y.f u
        obtain ⟨C, hC⟩ : ∃ C, C = cmpO y.g y.f xg xf := ⟨_, rfl⟩
        have HC : Hid (decide (C ≥ 0) = !ahB y.g y.f xg xf) := by rw [hC]; exact cmpO_ge _ _ _ _
        simp only [← hC] at cM
        clear hC HX HO HY
        obtain ⟨yg, yf, yl, ys, yp⟩ := y
        simp only at t0 t1 t2 t3 t4 cY cM HM HC
        have q0 : ∀ s : Later u3, s.u.cell? ⟨eb, off + k * 5, none⟩ = some (.int .i64 yg) := fun s => s.fr.cell t0
        have q1 : ∀ s : Later u3, s.u.cell? ⟨eb, off + k * 5 + 1, none⟩ = some (.int .i64 yf) := fun s => s.fr.cell t1
        have q2 : ∀ s : Later u3, s.u.cell? ⟨eb, off + k * 5 + 2, none⟩ = some (.int .i64 yl) := fun s => s.fr.cell t2
        have q3 : ∀ s : Later u3, s.u.cell? ⟨eb, off + k * 5 + 3, none⟩ = some (.int .i64 ys) := fun s => s.fr.cell t3
        have q4 : ∀ s : Later u3, s.u.cell? ⟨eb, off + k * 5 + 4, none⟩ = some (.int .i64 yp) := fun s => s.fr.cell t4
        clear t0 t1 t2 t3 t4 hR
        have hwk : IntKind.i64.wrap (((k + 1 : Nat) : Int) - 1) = (k : Int) := by rw [IntKind.wrap_i64]; omega
        have hpos : decide (((k + 1 : Nat) : Int) > 0) = true := decide_eq_true (by omega)
        by_cases hge : 0 ≤ C
        · have HF : Hid (R = false) := by
            show R = false
            have h1 := HC.out
            rw [decide_eq_true hge] at h1
            rw [HR.out]
            refine rowO_no hlt ?_
            rw [HM.out]
            cases hh : ahB yg yf xg xf
            · rfl
            · rw [hh] at h1; cases h1
          clear HM HC
          go_wp2_with fail
          refine wp_region_grown (by kernel_rfl) (by kernel_rfl) ?_
          repeat (go_big_quiet_step (first | with_reducible exact Calls.grown_of (cY _) | with_reducible exact Calls.grown_of (cW _) | with_reducible exact Calls.grown_of (cM _)))
          refine wpQuiet_nil ?_
          rintro _ ⟨s, rfl⟩
          go_wp2_with fail
          go_ret
          exact ⟨ret_bool HF.out.symm, f0.trans (fV3.trans s.fr)⟩
        · have HT : Hid (owAt ⟨r, s, b, m, q, cq, cw⟩ os (k + 1) = true) := by
            show _ = true
            have h1 := HC.out
            rw [decide_eq_false hge] at h1
            rw [HM.out]
            cases hh : ahB yg yf xg xf
            · rw [hh] at h1; cases h1
            · rfl
          have hlt0 : C < 0 := by omega
          clear HM HC
          go_wp2_with fail
          refine wp_region_grown (by kernel_rfl) (by kernel_rfl) ?_
          repeat (go_big_quiet_step (first | with_reducible exact Calls.grown_of (cY _) | with_reducible exact Calls.grown_of (cW _) | with_reducible exact Calls.grown_of (cM _)))
          refine wpQuiet_nil ?_
          rintro _ ⟨s, rfl⟩
          go_wp2_with fail
          go_roundw
          case rel => exact ⟨k + 2, by omega, by go_num, rowO_next HA.out HT.out, fV3.trans s.fr⟩
          case measure => simp [intOf]; omega
    · have HT : Hid (R = true) := by
        show R = true
        rw [HR.out]
        exact rowO_yes fun j hj => HA.out j (by omega)
      go_wp2_with fail
      go_ret
      exact ⟨ret_bool HT.out.symm, f0.trans fV⟩
theorem smB_alt (c : Cf) (os : List Ow) (p u : Int) : smB c ⟨os, p, u⟩ = (cfB c && (inB (-1) 300 p && (inB 0 c.q u && (decide (os.length ≤ 300) && rowO c os)))) := by
  simp only [smB]
  cases cfB c <;> cases inB (-1) 300 p <;> cases inB 0 c.q u <;> cases rowO c os <;> simp
set_option maxRecDepth 20000 in
set_option maxHeartbeats 4000000 in
theorem smOk_impl (c : Cf) (ao : Option Addr) (n cap : Nat) (os : List Ow) (p u : Int) (W : World) (hn : os.length = n) (h : ReadsG LO W ao os) :
    Calls Try.prog 10 #[.agg #[.int .i64 c.r, .int .i64 c.s, .int .i64 c.b, .int .i64 c.m, .int .i64 c.q, .int .i64 c.c, .int .i64 c.w], .agg #[.slice ao n cap, .int .i64 p, .int .i64 u]] W fun e w' => e = .returned (.bool (smB c ⟨os, p, u⟩)) ∧ Fr W w' := by
  rw [smB_alt]
  have cC := fun u => cfOk_impl c u
  have cP := fun w => within_any p (-1) 300 w
  have cU := fun w => within_any u 0 c.q w
  have f1 := Fr.alloc W (.cells #[.int .i64 c.r, .int .i64 c.s, .int .i64 c.b, .int .i64 c.m, .int .i64 c.q, .int .i64 c.c, .int .i64 c.w] 29)
  have aC := CfAt.new W c 29
  have f2 := Fr.alloc (W.alloc (.cells #[.int .i64 c.r, .int .i64 c.s, .int .i64 c.b, .int .i64 c.m, .int .i64 c.q, .int .i64 c.c, .int .i64 c.w] 29)) (.cells #[.slice ao n cap, .int .i64 p, .int .i64 u] 33)
  have zS : KyZ ((W.alloc (.cells #[.int .i64 c.r, .int .i64 c.s, .int .i64 c.b, .int .i64 c.m, .int .i64 c.q, .int .i64 c.c, .int .i64 c.w] 29)).alloc (.cells #[.slice ao n cap, .int .i64 p, .int .i64 u] 33)) (W.alloc (.cells #[.int .i64 c.r, .int .i64 c.s, .int .i64 c.b, .int .i64 c.m, .int .i64 c.q, .int .i64 c.c, .int .i64 c.w] 29)).heap.size 33 #[.slice ao n cap, .int .i64 p, .int .i64 u] := heap_alloc_new _ _
  rw [World.size_alloc] at zS
  replace aC := aC.fr f2
  replace f1 := f1.trans f2
  clear f2
  have cO := fun w (k : Fr W w) => ownsOk_any c ao n cap os w hn (h.fr k)
  generalize cfB c = B0 at cC ⊢
  generalize inB (-1) 300 p = B1 at cP ⊢
  generalize inB 0 c.q u = B2 at cU ⊢
  generalize (decide (os.length ≤ 300) && rowO c os) = B3 at cO ⊢
  obtain ⟨r, s, b, m, q, cc, cw⟩ := c
  simp only at cC cU cO aC f1 zS ⊢
  go_enter Try.func10, Try.ntmps10
  go_wp2_with fail
  obtain ⟨V, hV⟩ : ∃ V, V = (W.alloc (.cells #[.int .i64 r, .int .i64 s, .int .i64 b, .int .i64 m, .int .i64 q, .int .i64 cc, .int .i64 cw] 29)).alloc (.cells #[.slice ao n cap, .int .i64 p, .int .i64 u] 33) := ⟨_, rfl⟩
  rw [← hV] at aC f1 zS ⊢
  clear hV
  refine (cC _).mono ?_
  rintro e u1 ⟨rfl, k1⟩
  replace f1 := f1.trans k1
  replace aC := aC.fr k1
  replace zS := zS.fr k1
  clear k1
  cases B0
  · go_wp2_with fail
    go_ret
    exact ⟨rfl, f1⟩
  obtain ⟨ak0, ak1, ak2, ak3, ak4, ak5, ak6⟩ := aC
  simp only [Nat.zero_add] at ak0 ak1 ak2 ak3 ak4 ak5 ak6
  obtain ⟨z0, z1, z2⟩ := zS.c3
  clear zS
  go_wp2_with fail
  refine (cP _).mono ?_
  rintro e u2 ⟨rfl, rfl⟩
  cases B1
  · go_wp2_with fail
    go_ret
    exact ⟨rfl, f1⟩
  go_wp2_with fail
  refine (cU _).mono ?_
  rintro e u2 ⟨rfl, rfl⟩
  cases B2
  · go_wp2_with fail
    go_ret
    exact ⟨rfl, f1⟩
  go_wp2_with fail
  refine (cO _ f1).mono ?_
  rintro e u3 ⟨rfl, k3⟩
  go_wp2_with fail
  go_ret
  exact ⟨rfl, f1.trans k3⟩
end Go.Proofs.Ytkfcchapfklpgaa
