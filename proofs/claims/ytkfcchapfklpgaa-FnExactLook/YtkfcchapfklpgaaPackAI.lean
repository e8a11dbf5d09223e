/-
  Owners: how two compare, whether one is right.
-/
import Derived.Test.YtkfcchapfklpgaaPackAB
import Derived.Test.YtkfcchapfklpgaaPackAC
import Derived.Sort.Grow
import Derived.Test.YtkfcchapfklpgaaPackAD
import Derived.Maps.OwnSet
import Derived.DeepKeys4
import Derived.Sort.KeysCollected
import Derived.Deep.MidRow
import Derived.Laws.EntriesVeiled
import Derived.BigQuiet
import Derived.Test.YtkfcchapfklpgaaPackAH
namespace Go.Proofs.Ytkfcchapfklpgaa
open Go.RowKit Go.Sort

def cmpI (x y : Int) : Int := if x < y then -1 else if y < x then 1 else 0
def cmpO (g f h k : Int) : Int := if cmpI g h ≠ 0 then cmpI g h else cmpI f k
theorem cmpI_lt {x y : Int} (h : x < y) : cmpI x y = -1 := by rw [cmpI, if_pos h]
theorem cmpI_gt {x y : Int} (h : y < x) : cmpI x y = 1 := by rw [cmpI, if_neg (by omega), if_pos h]
theorem cmpI_eq {x y : Int} (h : x = y) : cmpI x y = 0 := by rw [cmpI, if_neg (by omega), if_neg (by omega)]
theorem cmpO_ah (g f h k : Int) : decide (cmpO g f h k < 0) = ahB g f h k := by
  unfold cmpO ahB
  rcases Int.lt_trichotomy g h with a | a | a
  · rw [cmpI_lt a]; simp [a]
  · rw [cmpI_eq a]
    subst a
    rcases Int.lt_trichotomy f k with b | b | b
    · rw [cmpI_lt b]; simp [b]
    · rw [cmpI_eq b]; simp [b]
    · rw [cmpI_gt b]
      have : ¬ f < k := by omega
      simp [this]
  · rw [cmpI_gt a]
    have h1 : ¬ g < h := by omega
    have h2 : ¬ g = h := by omega
    simp [h1, h2]
theorem cmpO_ge (g f h k : Int) : decide (cmpO g f h k ≥ 0) = !ahB g f h k := by
  rw [← cmpO_ah]
  by_cases q : cmpO g f h k < 0
  · rw [decide_eq_true q, decide_eq_false (by omega)]; rfl
  · rw [decide_eq_false q, decide_eq_true (by omega)]; rfl

theorem isNaN_any (x : Int) (w : World) :
    Calls Try.prog 74 #[.int .i64 x] w fun e w' => e = .returned (.bool false) ∧ w' = w := by
  have hb : (x != x) = false := by simp
  go_enter Try.func74, Try.ntmps74
  go_wp2_with fail
  go_ret
  exact ⟨rfl, rfl⟩
theorem compare_any (x y : Int) (w : World) :
    Calls Try.prog 67 #[.int .i64 x, .int .i64 y] w fun e w' => e = .returned (.int .i64 (cmpI x y)) ∧ w' = w := by
  rcases Int.lt_trichotomy x y with a | a | a
  · rw [cmpI_lt a]
    go_enter Try.func67, Try.ntmps67
    go_wp2_with (go_at_call 74; refine (isNaN_any _ _).mono ?_; rintro e w' ⟨rfl, rfl⟩)
    go_ret
    exact ⟨rfl, rfl⟩
  · rw [cmpI_eq a]
    have h1 : ¬ x < y := by omega
    have h2 : ¬ y < x := by omega
    clear a
    go_enter Try.func67, Try.ntmps67
    go_wp2_with (go_at_call 74; refine (isNaN_any _ _).mono ?_; rintro e w' ⟨rfl, rfl⟩)
    go_ret
    exact ⟨rfl, rfl⟩
  · rw [cmpI_gt a]
    have h1 : ¬ x < y := by omega
    go_enter Try.func67, Try.ntmps67
    go_wp2_with (go_at_call 74; refine (isNaN_any _ _).mono ?_; rintro e w' ⟨rfl, rfl⟩)
    go_ret
    exact ⟨rfl, rfl⟩
theorem or_any (x y : Int) (b : Nat) (w : World) (h0 : w.cell? ⟨b, 0, none⟩ = some (.int .i64 x)) (h1 : w.cell? ⟨b, 1, none⟩ = some (.int .i64 y)) :
    Calls Try.prog 66 #[.slice (some ⟨b, 0, none⟩) 2 2] w fun e w' => e = .returned (.int .i64 (if x ≠ 0 then x else y)) ∧ w' = w := by
  by_cases hx : x = 0
  · have ex : (x != 0) = false := by simp [hx]
    rw [if_neg (fun q => q hx)]
    have HX : Hid (x = 0) := hx
    clear hx
    go_enter Try.func66, Try.ntmps66
    go_wp2
    go_loop [8] (fun i => i = .int .i64 0 ∨ i = .int .i64 1 ∨ i = .int .i64 2 ∧ Hid (y = 0)) (fun i => 2 - (intOf i).toNat)
    case atStart => exact .inl rfl
    case round =>
      rcases hrel with rfl | rfl | ⟨rfl, HY⟩
      · go_wp2
        go_round
        case rel => exact .inr (.inl rfl)
        case measure => simp [intOf]
      · by_cases hy : y = 0
        · have ey : (y != 0) = false := by simp [hy]
          have HY : Hid (y = 0) := hy
          clear hy
          go_wp2
          go_round
          case rel => exact .inr (.inr ⟨rfl, HY⟩)
          case measure => simp [intOf]
        · have ey : (y != 0) = true := by simp [hy]
          clear hy
          go_wp2
          go_ret
          exact ⟨rfl, rfl⟩
      · go_wp2
        go_ret
        exact ⟨ret_int HY.out.symm, rfl⟩
  · have ex : (x != 0) = true := by simp [hx]
    rw [if_pos hx]
    clear hx
    go_enter Try.func66, Try.ntmps66
    go_wp2
    go_loop [8] (fun i => i = .int .i64 0) (fun i => 2 - (intOf i).toNat)
    case atStart => rfl
    case round =>
      subst hrel
      go_wp2
      go_ret
      exact ⟨rfl, rfl⟩
structure Two where
  n : Nat
  m : Nat
set_option maxHeartbeats 2000000 in
theorem cmpOwn_any (g f h k : Int) (w : World) :
    Calls Try.prog 51 #[.agg #[.int .i64 g, .int .i64 f], .agg #[.int .i64 h, .int .i64 k]] w fun e w' => e = .returned (.int .i64 (cmpO g f h k)) ∧ ∃ q os, w' = grow (w.drewN q) os := by
  have cC := fun x y u => compare_any x y u
  have cO := fun x y b u h0 h1 => or_any x y b u h0 h1
  have HE : Hid (cmpO g f h k = if cmpI g h ≠ 0 then cmpI g h else cmpI f k) := rfl
  obtain ⟨C, hC⟩ : ∃ C, C = cmpO g f h k := ⟨_, rfl⟩
  obtain ⟨X, hX⟩ : ∃ X, X = cmpI g h := ⟨_, rfl⟩
  obtain ⟨Y, hY⟩ : ∃ Y, Y = cmpI f k := ⟨_, rfl⟩
  rw [← hC, ← hX, ← hY] at HE
  rw [← hC]
  have c1 := fun u => cC g h u
  have c2 := fun u => cC f k u
  rw [← hX] at c1
  rw [← hY] at c2
  clear cC hC hX hY
  have e0 : ((w.alloc (.cells #[.int .i64 g, .int .i64 f] 74)).alloc (.cells #[.int .i64 h, .int .i64 k] 74)).cell? ⟨w.heap.size, 0, none⟩ = some (.int .i64 g) := by go_simp
  have e1 : ((w.alloc (.cells #[.int .i64 g, .int .i64 f] 74)).alloc (.cells #[.int .i64 h, .int .i64 k] 74)).cell? ⟨w.heap.size, 1, none⟩ = some (.int .i64 f) := by go_simp
  have e2 : ((w.alloc (.cells #[.int .i64 g, .int .i64 f] 74)).alloc (.cells #[.int .i64 h, .int .i64 k] 74)).cell? ⟨w.heap.size + 1, 0, none⟩ = some (.int .i64 h) := by go_simp
  have e3 : ((w.alloc (.cells #[.int .i64 g, .int .i64 f] 74)).alloc (.cells #[.int .i64 h, .int .i64 k] 74)).cell? ⟨w.heap.size + 1, 1, none⟩ = some (.int .i64 k) := by go_simp
  have hs : ((w.alloc (.cells #[.int .i64 g, .int .i64 f] 74)).alloc (.cells #[.int .i64 h, .int .i64 k] 74)).heap.size = w.heap.size + 2 := by simp
  go_enter Try.func51, Try.ntmps51
  go_wp2_with fail
  obtain ⟨V, hV⟩ : ∃ V, V = (w.alloc (.cells #[.int .i64 g, .int .i64 f] 74)).alloc (.cells #[.int .i64 h, .int .i64 k] 74) := ⟨_, rfl⟩
  rw [← hV] at e0 e1 e2 e3 hs ⊢
  have HD : Hid (V = grow w #[.cells #[.int .i64 g, .int .i64 f] 74, .cells #[.int .i64 h, .int .i64 k] 74]) := by
    rw [hV, alloc_eq_grow, alloc_eq_grow, grow_grow]; rfl
  have HS : Hid (V.heap.size = w.heap.size + 2) := hs
  clear hV hs
  refine wp_region_pivot (C := fun w' => ∃ n, w' = V.drewN n) (C2 := fun w' => ∃ s : Two, w' = ((V.drewN s.n).alloc (.cells #[.int .i64 X, .int .i64 Y] 3)).drewN s.m) 10 (by kernel_rfl) (by kernel_rfl) ⟨1, rfl⟩ ?_
  simp only [List.take_succ_cons, List.take_zero, List.drop_succ_cons, List.drop_zero]
  repeat (go_big_quiet_step (first | with_reducible exact Calls.quiet_of_same (c1 _) | with_reducible exact Calls.quiet_of_same (c2 _)))
  refine wpQuiet_nil ?_
  rintro _ ⟨n, rfl⟩ o ho
  simp only [List.getElem?_cons_succ, List.getElem?_cons_zero, Option.some.injEq] at ho
  subst ho
  refine ⟨rfl, ?_⟩
  go_simp
  refine ⟨⟨⟨n, 0⟩, rfl⟩, ?_⟩
  have hb := fun n m => show (((V.drewN n).alloc (.cells #[.int .i64 X, .int .i64 Y] 3)).drewN m).heap[V.heap.size]? = some (.cells #[.int .i64 X, .int .i64 Y] 3 (0, 0)) from heap_alloc_new (V.drewN n) _
  have cO := fun n m => cO X Y V.heap.size (((V.drewN n).alloc (.cells #[.int .i64 X, .int .i64 Y] 3)).drewN m) (by rw [cell_of_row _ _ _ _ _ _ (hb n m)]; rfl) (by rw [cell_of_row _ _ _ _ _ _ (hb n m)]; rfl)
  clear hb
  simp only [← HE.out] at cO
  repeat (go_big_quiet_step (exact (cO _ _).mono fun _ _ h => ⟨h.1, Two.mk _ _, h.2⟩))
  refine wpQuiet_nil ?_
  rintro ⟨n, m⟩
  go_wp2_with fail
  go_ret
  refine ⟨rfl, n + m, #[.cells #[.int .i64 g, .int .i64 f] 74, .cells #[.int .i64 h, .int .i64 k] 74, .cells #[.int .i64 X, .int .i64 Y] 3], ?_⟩
  rw [HD.out, alloc_eq_grow]
  show World.drewN (grow (grow (w.drewN n) _) _) m = _
  rw [grow_grow]
  show grow ((w.drewN n).drewN m) _ = _
  rw [drew2]
  rfl
end Go.Proofs.Ytkfcchapfklpgaa
/-
  Is a sampler right: the program's SamplerOk.
-/
namespace Go.Proofs.Ytkfcchapfklpgaa
open Go.RowKit Go.Sort

theorem cmpOwn_fr (g f h k : Int) (w : World) :
    Calls Try.prog 51 #[.agg #[.int .i64 g, .int .i64 f], .agg #[.int .i64 h, .int .i64 k]] w fun e w' => e = .returned (.int .i64 (cmpO g f h k)) ∧ Fr w w' := by
  refine (cmpOwn_any g f h k w).mono ?_
  rintro e w' ⟨rfl, q, os, rfl⟩
  refine ⟨rfl, ⟨rfl, rfl, rfl, by rw [size_grow]; exact Nat.le_add_right _ _, fun i hi _ => ?_⟩⟩
  show (w.heap ++ os)[i]? = _
  rw [Array.getElem?_append_left hi]
theorem ownsOk_long {c : Cf} {os : List Ow} (h : 300 < os.length) : (decide (os.length ≤ 300) && rowO c os) = false := by
  rw [decide_eq_false (by omega)]; rfl
theorem ownsOk_short {c : Cf} {os : List Ow} (h : os.length ≤ 300) : (decide (os.length ≤ 300) && rowO c os) = rowO c os := by
  rw [decide_eq_true h]; rfl

set_option maxRecDepth 20000 in
set_option maxHeartbeats 4000000 in
theorem ownsOk_any (c : Cf) (ao : Option Addr) (n cap : Nat) (os : List Ow) (W : World) (hn : os.length = n) (h : ReadsG LO W ao os) :
    Calls Try.prog 30 #[.agg #[.int .i64 c.r, .int .i64 c.s, .int .i64 c.b, .int .i64 c.m, .int .i64 c.q, .int .i64 c.c, .int .i64 c.w], .slice ao n cap] W fun e w' => e = .returned (.bool (decide (os.length ≤ 300) && rowO c os)) ∧ Fr W w' := by
  subst hn
  have hl := h.len
  have cB := fun x u => buOk_impl c x u
  have HB : Hid (∀ x, bkB c x = bkB c x) := fun _ => rfl
  have aC := CfAt.new W c 29
  have f0 := Fr.alloc W (.cells #[.int .i64 c.r, .int .i64 c.s, .int .i64 c.b, .int .i64 c.m, .int .i64 c.q, .int .i64 c.c, .int .i64 c.w] 29)
  have hR := h.fr f0
  have HW : Hid (∀ o : Ow, owB c o = (inB 0 15 o.g && inB 0 999 o.f && bkB c o.b)) := fun _ => rfl
  obtain ⟨R, hR2⟩ : ∃ R, R = rowO c os := ⟨_, rfl⟩
  have HR : Hid (R = rowO c os) := hR2
  by_cases h3 : 300 < os.length
  · rw [ownsOk_long h3]
    clear hR2 HR HW HB
    obtain ⟨r, s, b, m, q, cc, w⟩ := c
    go_enter Try.func30, Try.ntmps30
    go_wp2_with fail
    go_ret
    exact ⟨rfl, f0⟩
  rw [ownsOk_short (by omega), ← hR2]
  clear hR2
  have hc : ∃ cc : Cf, cc = c := ⟨c, rfl⟩
  obtain ⟨r, s, b, m, q, cq, cw⟩ := c
  simp only at f0 aC hR cB ⊢
  go_enter Try.func30, Try.ntmps30
  go_wp2_with fail
  obtain ⟨V, hV⟩ : ∃ V, V = W.alloc (.cells #[.int .i64 r, .int .i64 s, .int .i64 b, .int .i64 m, .int .i64 q, .int .i64 cq, .int .i64 cw] 29) := ⟨_, rfl⟩
  rw [← hV] at aC f0 hR ⊢
  clear hV
  obtain ⟨Z, hZ⟩ : ∃ Z, Z = W.heap.size := ⟨_, rfl⟩
  rw [← hZ] at aC ⊢
  clear hZ
  go_loopw [12] (fun i wr => ∃ k : Nat, k ≤ os.length ∧ i = .int .i64 k ∧ Hid (∀ j, j < k → owAt ⟨r, s, b, m, q, cq, cw⟩ os j = true) ∧ Fr V wr) (fun i _ => os.length - (intOf i).toNat)
  case atStart => exact ⟨0, Nat.zero_le _, rfl, fun j hj => by omega, Fr.refl _⟩
  case round =>
    obtain ⟨k, hk, rfl, HA, fV⟩ := hrel
    by_cases hlt : k < os.length
    · have HQ : Hid (∀ u, Fr V u → CfAt u Z 0 ⟨r, s, b, m, q, cq, cw⟩ ∧ ReadsG LO u ao os) := fun u k => ⟨aC.fr k, hR.fr k⟩
      clear aC hR
      obtain ⟨aC, hR⟩ := HQ.out _ fV
      obtain ⟨eb, off, rfl, d0, d1, d2, d3, d4⟩ := ow_at hR k hlt
      obtain ⟨x, hx⟩ : ∃ x, x = os[k] := ⟨_, rfl⟩
      have HX : Hid (x = os[k]) := hx
      rw [← hx] at d0 d1 d2 d3 d4
      clear hx
      have cW := fun u => owner_any x u
      have cK := fun u => kyOk_any x.g x.f u
      have cB := fun u => cB x.b u
      have cM := fun g f u => cmpOwn_fr g f x.g x.f u
      obtain ⟨B1, hB1⟩ : ∃ B1, B1 = (inB 0 15 x.g && inB 0 999 x.f) := ⟨_, rfl⟩
      obtain ⟨B2, hB2⟩ : ∃ B2, B2 = bkB ⟨r, s, b, m, q, cq, cw⟩ x.b := ⟨_, rfl⟩
      have HO : Hid (owB ⟨r, s, b, m, q, cq, cw⟩ x = (B1 && B2)) := by rw [hB1, hB2]; rfl
      simp only [← hB1] at cK
      simp only [← hB2] at cB
      clear hB1 hB2
      obtain ⟨xg, xf, xl, xs, xp⟩ := x
      simp only at d0 d1 d2 d3 d4 cW cK cB cM
      have z0 : OwZ (wr.alloc (.cells #[.int .i64 xg, .int .i64 xf, .int .i64 xl, .int .i64 xs, .int .i64 xp] 53)) wr.heap.size #[.int .i64 xg, .int .i64 xf, .int .i64 xl, .int .i64 xs, .int .i64 xp] := heap_alloc_new wr _
      have fz := Fr.alloc wr (.cells #[.int .i64 xg, .int .i64 xf, .int .i64 xl, .int .i64 xs, .int .i64 xp] 53)
      clear HB aC
      go_wp2_with fail
      refine (cW _).mono ?_
      rintro e u1 ⟨rfl, f1⟩
      go_wp2_with fail
      refine (cK _).mono ?_
      rintro e u2 ⟨rfl, f2⟩
      clear d0 d1 d2 d3 d4
      have fV2 := fV.trans (fz.trans (f1.trans f2))
      have z2 := z0.fr (f1.trans f2)
      clear z0 f1 f2 fz cK
      cases B1
      · have HF : Hid (R = false) := by
          show R = false
          rw [HR.out]
          refine rowO_no hlt (owAt_bad hlt ?_)
          rw [← HX.out, HO.out]; rfl
        clear HO
        go_wp2_with fail
        go_ret
        exact ⟨ret_bool HF.out.symm, f0.trans fV2⟩
      obtain ⟨ak0, ak1, ak2, ak3, ak4, ak5, ak6⟩ := (HQ.out _ fV2).1
      simp only [Nat.zero_add] at ak0 ak1 ak2 ak3 ak4 ak5 ak6
      obtain ⟨o0, o1, o2, o3, o4⟩ := z2.cs
      go_wp2_with fail
      refine (cB _).mono ?_
      rintro e u3 ⟨rfl, f3⟩
      clear ak0 ak1 ak2 ak3 ak4 ak5 ak6 o0 o1 o2 o3 o4
      have fV3 := fV2.trans f3
      have z3 := z2.fr f3
      clear z2 f3 cB fV2
      cases B2
      · have HF : Hid (R = false) := by
          show R = false
          rw [HR.out]
          refine rowO_no hlt (owAt_bad hlt ?_)
          rw [← HX.out, HO.out]; rfl
        clear HO
        go_wp2_with fail
        go_ret
        exact ⟨ret_bool HF.out.symm, f0.trans fV3⟩
      obtain ⟨o0, o1, o2, o3, o4⟩ := z3.cs
      have p0 : ∀ s : Later u3, s.u.cell? ⟨wr.heap.size, 0, none⟩ = some (.int .i64 xg) := fun s => s.fr.cell o0
      have p1 : ∀ s : Later u3, s.u.cell? ⟨wr.heap.size, 1, none⟩ = some (.int .i64 xf) := fun s => s.fr.cell o1
      have p2 : ∀ s : Later u3, s.u.cell? ⟨wr.heap.size, 2, none⟩ = some (.int .i64 xl) := fun s => s.fr.cell o2
      have p3 : ∀ s : Later u3, s.u.cell? ⟨wr.heap.size, 3, none⟩ = some (.int .i64 xs) := fun s => s.fr.cell o3
      have p4 : ∀ s : Later u3, s.u.cell? ⟨wr.heap.size, 4, none⟩ = some (.int .i64 xp) := fun s => s.fr.cell o4
      have := Later.some u3
      clear o0 o1 o2 o3 o4 z3
      cases k with
      | zero =>
        have HT : Hid (owAt ⟨r, s, b, m, q, cq, cw⟩ os 0 = true) := by
          show _ = true
          rw [owAt_zero hlt, ← HX.out, HO.out]; rfl
        have hd : decide ((0 : Int) < 0) = false := by decide
        clear HO HX hR cM cW p0 p1 p2 p3 p4
        go_wp2_with fail
        refine wp_region_grown (by kernel_rfl) (by kernel_rfl) ?_
        repeat (go_big_quiet_step (fail))
        refine wpQuiet_nil ?_
        rintro _ ⟨s, rfl⟩
        go_wp2_with fail
        go_roundw
        case rel => exact ⟨1, by omega, by go_num, rowO_next HA.out HT.out, fV3.trans s.fr⟩
        case measure => simp [intOf]; omega
      | succ k =>
        obtain ⟨eb', off', e', t0, t1, t2, t3, t4⟩ := ow_at (HQ.out _ fV3).2 k (by omega)
        simp only [Option.some.injEq, Addr.mk.injEq, and_true] at e'
        obtain ⟨rfl, rfl⟩ := e'
        obtain ⟨y, hy⟩ : ∃ y, y = os[k] := ⟨_, rfl⟩
        have HY : Hid (y = os[k]) := hy
        rw [← hy] at t0 t1 t2 t3 t4
        clear hy
        have HM : Hid (owAt ⟨r, s, b, m, q, cq, cw⟩ os (k + 1) = ahB y.g y.f xg xf) := by
          show _ = _
          rw [owAt_succ hlt, ← HX.out, HO.out, ← HY.out]; rfl
        have cY := fun u => owner_any y u
        have cM := fun u => cM y.g y.f u
        obtain ⟨C, hC⟩ : ∃ C, C = cmpO y.g y.f xg xf := ⟨_, rfl⟩
        have HC : Hid (decide (C ≥ 0) = !ahB y.g y.f xg xf) := by rw [hC]; exact cmpO_ge _ _ _ _
        simp only [← hC] at cM
        clear hC HX HO HY
        obtain ⟨yg, yf, yl, ys, yp⟩ := y
        simp only at t0 t1 t2 t3 t4 cY cM HM HC
        have q0 : ∀ s : Later u3, s.u.cell? ⟨eb, off + k * 5, none⟩ = some (.int .i64 yg) := fun s => s.fr.cell t0
        have q1 : ∀ s : Later u3, s.u.cell? ⟨eb, off + k * 5 + 1, none⟩ = some (.int .i64 yf) := fun s => s.fr.cell t1
        have q2 : ∀ s : Later u3, s.u.cell? ⟨eb, off + k * 5 + 2, none⟩ = some (.int .i64 yl) := fun s => s.fr.cell t2
        have q3 : ∀ s : Later u3, s.u.cell? ⟨eb, off + k * 5 + 3, none⟩ = some (.int .i64 ys) := fun s => s.fr.cell t3
        have q4 : ∀ s : Later u3, s.u.cell? ⟨eb, off + k * 5 + 4, none⟩ = some (.int .i64 yp) := fun s => s.fr.cell t4
        clear t0 t1 t2 t3 t4 hR
        have hwk : IntKind.i64.wrap (((k + 1 : Nat) : Int) - 1) = (k : Int) := by rw [IntKind.wrap_i64]; omega
        have hpos : decide (((k + 1 : Nat) : Int) > 0) = true := decide_eq_true (by omega)
        by_cases hge : 0 ≤ C
        · have HF : Hid (R = false) := by
            show R = false
            have h1 := HC.out
            rw [decide_eq_true hge] at h1
            rw [HR.out]
            refine rowO_no hlt ?_
            rw [HM.out]
            cases hh : ahB yg yf xg xf
            · rfl
            · rw [hh] at h1; cases h1
          clear HM HC
          go_wp2_with fail
          refine wp_region_grown (by kernel_rfl) (by kernel_rfl) ?_
          repeat (go_big_quiet_step (first | with_reducible exact Calls.grown_of (cY _) | with_reducible exact Calls.grown_of (cW _) | with_reducible exact Calls.grown_of (cM _)))
          refine wpQuiet_nil ?_
          rintro _ ⟨s, rfl⟩
          go_wp2_with fail
          go_ret
          exact ⟨ret_bool HF.out.symm, f0.trans (fV3.trans s.fr)⟩
        · have HT : Hid (owAt ⟨r, s, b, m, q, cq, cw⟩ os (k + 1) = true) := by
            show _ = true
            have h1 := HC.out
            rw [decide_eq_false hge] at h1
            rw [HM.out]
            cases hh : ahB yg yf xg xf
            · rw [hh] at h1; cases h1
            · rfl
          have hlt0 : C < 0 := by omega
          clear HM HC
          go_wp2_with fail
          refine wp_region_grown (by kernel_rfl) (by kernel_rfl) ?_
          repeat (go_big_quiet_step (first | with_reducible exact Calls.grown_of (cY _) | with_reducible exact Calls.grown_of (cW _) | with_reducible exact Calls.grown_of (cM _)))
          refine wpQuiet_nil ?_
          rintro _ ⟨s, rfl⟩
          go_wp2_with fail
          go_roundw
          case rel => exact ⟨k + 2, by omega, by go_num, rowO_next HA.out HT.out, fV3.trans s.fr⟩
          case measure => simp [intOf]; omega
    · have HT : Hid (R = true) := by
        show R = true
        rw [HR.out]
        exact rowO_yes fun j hj => HA.out j (by omega)
      go_wp2_with fail
      go_ret
      exact ⟨ret_bool HT.out.symm, f0.trans fV⟩
theorem smB_alt (c : Cf) (os : List Ow) (p u : Int) : smB c ⟨os, p, u⟩ = (cfB c && (inB (-1) 300 p && (inB 0 c.q u && (decide (os.length ≤ 300) && rowO c os)))) := by
  simp only [smB]
  cases cfB c <;> cases inB (-1) 300 p <;> cases inB 0 c.q u <;> cases rowO c os <;> simp
set_option maxRecDepth 20000 in
set_option maxHeartbeats 4000000 in
theorem smOk_impl (c : Cf) (ao : Option Addr) (n cap : Nat) (os : List Ow) (p u : Int) (W : World) (hn : os.length = n) (h : ReadsG LO W ao os) :
    Calls Try.prog 10 #[.agg #[.int .i64 c.r, .int .i64 c.s, .int .i64 c.b, .int .i64 c.m, .int .i64 c.q, .int .i64 c.c, .int .i64 c.w], .agg #[.slice ao n cap, .int .i64 p, .int .i64 u]] W fun e w' => e = .returned (.bool (smB c ⟨os, p, u⟩)) ∧ Fr W w' := by
  rw [smB_alt]
  have cC := fun u => cfOk_impl c u
  have cP := fun w => within_any p (-1) 300 w
  have cU := fun w => within_any u 0 c.q w
  have f1 := Fr.alloc W (.cells #[.int .i64 c.r, .int .i64 c.s, .int .i64 c.b, .int .i64 c.m, .int .i64 c.q, .int .i64 c.c, .int .i64 c.w] 29)
  have aC := CfAt.new W c 29
  have f2 := Fr.alloc (W.alloc (.cells #[.int .i64 c.r, .int .i64 c.s, .int .i64 c.b, .int .i64 c.m, .int .i64 c.q, .int .i64 c.c, .int .i64 c.w] 29)) (.cells #[.slice ao n cap, .int .i64 p, .int .i64 u] 33)
  have zS : KyZ ((W.alloc (.cells #[.int .i64 c.r, .int .i64 c.s, .int .i64 c.b, .int .i64 c.m, .int .i64 c.q, .int .i64 c.c, .int .i64 c.w] 29)).alloc (.cells #[.slice ao n cap, .int .i64 p, .int .i64 u] 33)) (W.alloc (.cells #[.int .i64 c.r, .int .i64 c.s, .int .i64 c.b, .int .i64 c.m, .int .i64 c.q, .int .i64 c.c, .int .i64 c.w] 29)).heap.size 33 #[.slice ao n cap, .int .i64 p, .int .i64 u] := heap_alloc_new _ _
  rw [World.size_alloc] at zS
  replace aC := aC.fr f2
  replace f1 := f1.trans f2
  clear f2
  have cO := fun w (k : Fr W w) => ownsOk_any c ao n cap os w hn (h.fr k)
  generalize cfB c = B0 at cC ⊢
  generalize inB (-1) 300 p = B1 at cP ⊢
  generalize inB 0 c.q u = B2 at cU ⊢
  generalize (decide (os.length ≤ 300) && rowO c os) = B3 at cO ⊢
  obtain ⟨r, s, b, m, q, cc, cw⟩ := c
  simp only at cC cU cO aC f1 zS ⊢
  go_enter Try.func10, Try.ntmps10
  go_wp2_with fail
  obtain ⟨V, hV⟩ : ∃ V, V = (W.alloc (.cells #[.int .i64 r, .int .i64 s, .int .i64 b, .int .i64 m, .int .i64 q, .int .i64 cc, .int .i64 cw] 29)).alloc (.cells #[.slice ao n cap, .int .i64 p, .int .i64 u] 33) := ⟨_, rfl⟩
  rw [← hV] at aC f1 zS ⊢
  clear hV
  refine (cC _).mono ?_
  rintro e u1 ⟨rfl, k1⟩
  replace f1 := f1.trans k1
  replace aC := aC.fr k1
  replace zS := zS.fr k1
  clear k1
  cases B0
  · go_wp2_with fail
    go_ret
    exact ⟨rfl, f1⟩
  obtain ⟨ak0, ak1, ak2, ak3, ak4, ak5, ak6⟩ := aC
  simp only [Nat.zero_add] at ak0 ak1 ak2 ak3 ak4 ak5 ak6
  obtain ⟨z0, z1, z2⟩ := zS.c3
  clear zS
  go_wp2_with fail
  refine (cP _).mono ?_
  rintro e u2 ⟨rfl, rfl⟩
  cases B1
  · go_wp2_with fail
    go_ret
    exact ⟨rfl, f1⟩
  go_wp2_with fail
  refine (cU _).mono ?_
  rintro e u2 ⟨rfl, rfl⟩
  cases B2
  · go_wp2_with fail
    go_ret
    exact ⟨rfl, f1⟩
  go_wp2_with fail
  refine (cO _ f1).mono ?_
  rintro e u3 ⟨rfl, k3⟩
  go_wp2_with fail
  go_ret
  exact ⟨rfl, f1.trans k3⟩
end Go.Proofs.Ytkfcchapfklpgaa
/-
  Maps from owners.
-/
namespace Go.Proofs.Ytkfcchapfklpgaa
open Go.RowKit Go.Maps

theorem laidOutO : laidOutB Try.prog = true := by kernel_rfl
theorem rowsO : (74 : TypeId) < Try.prog.types.size := of_decide_eq_true (by kernel_rfl)
set_option maxRecDepth 20000 in
theorem keyAtO : Try.prog.keyTypeAt 3 74 = true := by kernel_rfl
theorem keyedO : Maps.Keyed Try.prog 74 := Maps.Keyed.of_law (deep_law_laid laidOutO (m := 3) (by omega) rowsO keyAtO (by kernel_rfl))
/-- An owner's value as a key. -/
def kyV (g f : Int) : Value := .agg #[.int .i64 g, .int .i64 f]
def kyL (g f : Int) : Lit := .string (keyBytes [.int .i64 g, .int .i64 f])
set_option maxRecDepth 20000 in
theorem keyTypeO : Try.prog.keyType 74 = true := by kernel_rfl
theorem cellsO : Try.prog.cellsOf 74 = 2 := by kernel_rfl
theorem cellsO64 : Try.prog.cellsOf 2 = 1 := by kernel_rfl
theorem sizeO2 : ∃ n, Try.prog.types.size = n + 2 := ⟨Try.prog.types.size - 2, by have : 2 ≤ Try.prog.types.size := of_decide_eq_true (by kernel_rfl); omega⟩
theorem litO {i : Int} (h : I64 i) : (Lit.int .i64 i).wf = true := by
  obtain ⟨h1, h2⟩ := h
  simp [Lit.wf, IntKind.min, IntKind.max, IntKind.signed, IntKind.bits]
  omega
theorem litO_inv {i : Int} (h : (Lit.int .i64 i).wf = true) : I64 i := by
  simp [Lit.wf, IntKind.min, IntKind.max, IntKind.signed, IntKind.bits] at h
  exact ⟨by omega, by omega⟩
theorem klO (d : Nat) {x : Int} (h : I64 x) : Try.prog.keyLits (d + 1) 2 [.int .i64 x] = some [.int .i64 x] := by
  unfold Program.keyLits
  simp only [Try.underlying2, litO h, and_self, if_true]
theorem klO_inv (d : Nat) {v : Value} {ls : List Lit} (h : Try.prog.keyLits (d + 1) 2 [v] = some ls) : ∃ x, v = .int .i64 x ∧ ls = [.int .i64 x] ∧ I64 x := by
  unfold Program.keyLits at h
  simp only [Try.underlying2] at h
  split at h
  all_goals first | (simp_all; done) | skip
  rename_i q q' n h1 h2
  split at h
  · rename_i hw
    obtain ⟨rfl, hw⟩ := hw
    simp only [Option.some.injEq, TypeDesc.int.injEq] at h1
    subst h1
    simp only [List.cons.injEq, and_true] at h2
    exact ⟨n, h2, by simpa using h.symm, litO_inv hw⟩
  · cases h
set_option maxHeartbeats 400000 in
theorem klOO (d : Nat) {g f : Int} (h1 : I64 g) (h2 : I64 f) : Try.prog.keyLits (d + 2) 74 [.int .i64 g, .int .i64 f] = some [.int .i64 g, .int .i64 f] := by
  have e1 := klO d h1
  have e2 := klO d h2
  unfold Program.keyLits
  simp only [Try.underlying74]
  rw [if_pos ⟨by rw [cellsO]; rfl, by simp⟩]
  simp [e1, e2, cellsO64]
theorem kyKey {g f : Int} (h1 : I64 g) (h2 : I64 f) : keyOf Try.prog 74 (kyV g f) = some (kyL g f) := by
  obtain ⟨n, hn⟩ := sizeO2
  have hf : (kyV g f).formed Try.prog 74 = true := by
    simp only [kyV, Value.formed, Try.underlying74, cellsO]
    rfl
  have hk := klOO (n + 1) h1 h2
  have hc : (kyV g f).cells.toList = [.int .i64 g, .int .i64 f] := rfl
  unfold keyOf
  simp only [Try.underlying74]
  rw [keyTypeO, hf, hn, hc, hk]
  rfl
set_option maxRecDepth 20000 in
set_option maxHeartbeats 400000 in
theorem kyInv {v : Value} {l : Lit} (h : keyOf Try.prog 74 v = some l) : ∃ g f, v = kyV g f ∧ l = kyL g f ∧ I64 g ∧ I64 f := by
  obtain ⟨n, hn⟩ := sizeO2
  unfold keyOf at h
  simp only [Try.underlying74, keyTypeO, Bool.true_and] at h
  split at h
  · rename_i hf
    cases v with
    | agg cs =>
      simp only [Value.formed, Try.underlying74, cellsO, beq_iff_eq] at hf
      obtain ⟨cs⟩ := cs
      match cs, hf with
      | [a, b], _ =>
        simp only [Value.cells, hn] at h
        unfold Program.keyLits at h
        simp only [Try.underlying74] at h
        rw [if_pos ⟨by rw [cellsO]; rfl, by simp⟩] at h
        simp [cellsO64] at h
        cases ha : Try.prog.keyLits (n + 2) 2 [a] with
        | none => rw [ha] at h; cases h
        | some la =>
          cases hb : Try.prog.keyLits (n + 2) 2 [b] with
          | none => rw [ha, hb] at h; cases h
          | some lb =>
            rw [ha, hb] at h
            obtain ⟨g, rfl, rfl, h1⟩ := klO_inv (n + 1) ha
            obtain ⟨f, rfl, rfl, h2⟩ := klO_inv (n + 1) hb
            exact ⟨g, f, rfl, by simpa [kyL] using h.symm, h1, h2⟩
    | _ => simp [Value.formed, Try.underlying74] at hf
  · cases h
theorem kyL_ne {a b a' b' : Int} (h1 : I64 a) (h2 : I64 b) (h1' : I64 a') (h2' : I64 b') (h : ¬ (a = a' ∧ b = b')) : kyL a b ≠ kyL a' b' := by
  intro e
  have := keyedO.inj (kyKey h1 h2) (e ▸ kyKey h1' h2')
  apply h
  simpa [kyV] using this
theorem kyL_same {a b a' b' : Int} : (kyL a b).sameKey (kyL a' b') = true ↔ kyL a b = kyL a' b' := by
  simp [kyL, Lit.sameKey]

/-- An element's value reads as itself. -/
def asIsO (v : Value) : Option (DataW Value × List MemPlace) := some (.held v, [])
/-- The keys of a list fit int64. -/
def InO (os : List Ow) : Prop := ∀ o ∈ os, I64 o.g ∧ I64 o.f
/-- Block b is a map of at most n entries: of whom the list tells, with the values V. -/
def MapO (w : World) (b n : Nat) (os : List Ow) (V : Int → Int → Value) : Prop :=
  ∃ D : DataW Value, w.ownsMap Try.prog 74 asIsO b n D ∧ ∀ g f z, I64 g → I64 f → D.atKey (kyL g f) z = if (getO os g f).isSome then .held (V g f) else z
theorem MapO.made (w : World) (V : Int → Int → Value) : MapO (w.alloc (.map #[] 0)) w.heap.size 0 [] V :=
  ⟨.map [], World.ownsMap_made w _ _ _, fun _ _ _ _ _ => rfl⟩
theorem MapO.keep {w w' : World} {b n : Nat} {os : List Ow} {V : Int → Int → Value} {row : Option Nat} (h : MapO w b n os V) (k : w.grownBy w' row) (hr : some b ≠ row) : MapO w' b n os V := by
  obtain ⟨D, h1, h2⟩ := h
  exact ⟨D, h1.kept k hr, h2⟩
theorem MapO.fr {w w' : World} {b n : Nat} {os : List Ow} {V : Int → Int → Value} (h : MapO w b n os V) (k : Fr w w') : MapO w' b n os V := h.keep k (by simp)
theorem MapO.lt {w : World} {b n : Nat} {os : List Ow} {V : Int → Int → Value} (h : MapO w b n os V) : b < w.heap.size := by
  obtain ⟨D, h1, _⟩ := h
  exact h1.lt
theorem MapO.mono {w : World} {b n m : Nat} {os : List Ow} {V : Int → Int → Value} (h : MapO w b n os V) (hm : n ≤ m) : MapO w b m os V := by
  obtain ⟨D, h1, h2⟩ := h
  obtain ⟨es, clock, hb, F, hs, hD⟩ := h1
  exact ⟨D, ⟨es, clock, hb, F, by omega, hD⟩, h2⟩
/-- What is not of cells is not that block. -/
theorem MapO.ne {w : World} {b n : Nat} {os : List Ow} {V : Int → Int → Value} (h : MapO w b n os V) {k : Nat} {cs : Array Value} {t : TypeId} {p : Nat × Nat} (hk : w.heap[k]? = some (.cells cs t p)) : k ≠ b := by
  obtain ⟨D, ⟨es, clock, hb, F, hs, hD⟩, h2⟩ := h
  rintro rfl
  rw [hb] at hk
  cases hk
theorem mapO_has {os : List Ow} {V : Int → Int → Value} {D : DataW Value} (h : ∀ g f z, I64 g → I64 f → D.atKey (kyL g f) z = if (getO os g f).isSome then .held (V g f) else z) {g f : Int} (hg : I64 g) (hf : I64 f) : Maps.has D (kyL g f) = (getO os g f).isSome := by
  cases hb : (getO os g f).isSome with
  | false => exact Maps.has_false_of_atKey fun z => by rw [h g f z hg hf, hb]; rfl
  | true => exact Maps.has_true_of_atKey (y := .held (V g f)) fun z => by rw [h g f z hg hf, hb]; rfl
/-- 'v, ok := m[k]'. -/
theorem MapO.look_ok {w : World} {b n : Nat} {os : List Ow} {V : Int → Int → Value} (h : MapO w b n os V) {t e : TypeId} (ht : Try.prog.underlying t = some (.map 74 e)) {z : Value} (hz : (zeroValue e).run Try.prog w = .ok z w) {g f : Int} (hg : I64 g) (hf : I64 f) :
    (Instr.lookup t (.map (some b)) (kyV g f) true).run Try.prog w = .ok (.tuple #[if (getO os g f).isSome then V g f else z, .bool (getO os g f).isSome]) w := by
  obtain ⟨D, h1, h2⟩ := h
  obtain ⟨v, ps, hrun, hv⟩ := h1.look_ok keyedO ht hz (zd := .held z) (zp := []) rfl (kyKey hg hf)
  rw [mapO_has h2 hg hf] at hrun
  simp only [asIsO, Option.some.injEq, Prod.mk.injEq] at hv
  have hv := hv.1
  rw [h2 g f _ hg hf] at hv
  have : v = if (getO os g f).isSome then V g f else z := by
    cases hb : (getO os g f).isSome with
    | false => rw [hb] at hv; simpa using hv
    | true => rw [hb] at hv; simpa using hv
  rw [hrun, this]
/-- 'm[k]'. -/
theorem MapO.look {w : World} {b n : Nat} {os : List Ow} {V : Int → Int → Value} (h : MapO w b n os V) {t e : TypeId} (ht : Try.prog.underlying t = some (.map 74 e)) {z : Value} (hz : (zeroValue e).run Try.prog w = .ok z w) {g f : Int} (hg : I64 g) (hf : I64 f) (hs : (getO os g f).isSome = true) :
    (Instr.lookup t (.map (some b)) (kyV g f) false).run Try.prog w = .ok (V g f) w := by
  obtain ⟨D, h1, h2⟩ := h
  obtain ⟨v, ps, hrun, hv⟩ := h1.lookup keyedO ht hz (zd := .held z) (zp := []) rfl (kyKey hg hf)
  simp only [asIsO, Option.some.injEq, Prod.mk.injEq] at hv
  have hv := hv.1
  rw [h2 g f _ hg hf, hs] at hv
  rw [hrun]
  simpa using hv
/-- 'm[k] = v'. -/
theorem MapO.put {w : World} {b n : Nat} {os os' : List Ow} {V : Int → Int → Value} (h : MapO w b n os V) {t e : TypeId} (ht : Try.prog.underlying t = some (.map 74 e)) (hn : n < maxLen) {g f : Int} (hg : I64 g) (hf : I64 f) (v : Value)
    (hos : ∀ i j, (getO os' i j).isSome = (decide (i = g ∧ j = f) || (getO os i j).isSome)) :
    ∃ w', (Instr.mapUpdate t (.map (some b)) (kyV g f) v).run Try.prog w = .ok () w' ∧ MapO w' b (n + 1) os' (fun i j => if i = g ∧ j = f then v else V i j) ∧ w.grownBy w' (some b) := by
  obtain ⟨D, h1, h2⟩ := h
  obtain ⟨w', hrun, h3, h4⟩ := h1.update keyedO ht hn (kyKey hg hf) (val := v) (d := .held v) (ps := []) rfl
  refine ⟨w', hrun, ⟨_, h3, fun i j z hi hj => ?_⟩, h4⟩
  rw [hos i j]
  by_cases e : i = g ∧ j = f
  · obtain ⟨rfl, rfl⟩ := e
    rw [Maps.atKey_put_same h1.isMap (keyedO.key (kyKey hg hf))]
    simp
  · rw [Maps.atKey_put_other (kyL_ne hi hj hg hf e), h2 i j z hi hj]
    simp [e]
/-- Its keys are those of the list. -/
theorem mapO_keys {w : World} {b n : Nat} {os : List Ow} {V : Int → Int → Value} {D : DataW Value} (h1 : w.ownsMap Try.prog 74 asIsO b n D) (h2 : ∀ g f z, I64 g → I64 f → D.atKey (kyL g f) z = if (getO os g f).isSome then .held (V g f) else z) (hr : RisO os) (hi : InO os) : ∃ es, D = .map es ∧ (es.map (·.1)).Perm (os.map fun o => kyL o.g o.f) := by
  obtain ⟨es, rfl, hpw, _⟩ := h1.entries keyedO
  obtain ⟨es', hD', hko⟩ := h1.keysOf
  obtain rfl : es = es' := by simpa using hD'
  refine ⟨es, rfl, (List.perm_ext_iff_of_nodup ?_ ?_).2 fun l => ?_⟩
  · exact List.pairwise_map.2 hpw
  · refine List.pairwise_map.2 (hr.imp_of_mem fun {p q} hp hq hh => ?_)
    rw [ahB_true] at hh
    exact kyL_ne (hi p hp).1 (hi p hp).2 (hi q hq).1 (hi q hq).2 (by omega)
  · rw [List.mem_map, List.mem_map]
    constructor
    · rintro ⟨p, hp, rfl⟩
      obtain ⟨v, hv⟩ := hko p hp
      obtain ⟨g, f, -, e, hg, hf⟩ := kyInv hv
      have hh : Maps.has (.map es) (kyL g f) = true := by
        rw [has_eq, List.any_eq_true]
        exact ⟨p, hp, by rw [e]; exact kyL_same.2 rfl⟩
      rw [mapO_has h2 hg hf] at hh
      obtain ⟨b', hb'⟩ := Option.isSome_iff_exists.1 hh
      exact ⟨_, getO_some hb', e.symm⟩
    · rintro ⟨o, ho, rfl⟩
      have hh := mapO_has h2 (hi o ho).1 (hi o ho).2
      rw [getO_mem hr ho, has_eq] at hh
      obtain ⟨p, hp, hs⟩ := List.any_eq_true.1 (hh.trans rfl)
      obtain ⟨v, hv⟩ := hko p hp
      obtain ⟨g, f, -, e, hg, hf⟩ := kyInv hv
      rw [e] at hs
      exact ⟨p, hp, by rw [e]; exact kyL_same.1 hs⟩
theorem mapO_size {w : World} {b n : Nat} {os : List Ow} {V : Int → Int → Value} {D : DataW Value} (h1 : w.ownsMap Try.prog 74 asIsO b n D) (h2 : ∀ g f z, I64 g → I64 f → D.atKey (kyL g f) z = if (getO os g f).isSome then .held (V g f) else z) (hr : RisO os) (hi : InO os) : Maps.size D = os.length := by
  obtain ⟨es, rfl, hp⟩ := mapO_keys h1 h2 hr hi
  have := hp.length_eq
  simp only [List.length_map] at this
  exact this
/-- 'len(m)'. -/
theorem MapO.len {w : World} {b n : Nat} {os : List Ow} {V : Int → Int → Value} (h : MapO w b n os V) (hr : RisO os) (hi : InO os) {t e : TypeId} (ht : Try.prog.underlying t = some (.map 74 e)) (ty : TypeId) : (Builtin.len_ #[t] ty #[.map (some b)]).run Try.prog w = .ok (.int .i64 os.length) w := by
  obtain ⟨D, h1, h2⟩ := h
  rw [h1.len ht ty, mapO_size h1 h2 hr hi]
end Go.Proofs.Ytkfcchapfklpgaa
/-
  A watch in memory; a burst that goes on.
-/
namespace Go.Proofs.Ytkfcchapfklpgaa
open Go.RowKit

/-- A step as a value; a burst that goes on. -/
def stpV (c : Cf) (p : Nat) : Value := .func (.func 75) #[.agg #[.pointer (some ⟨p, 0, none⟩), .int .i64 c.r, .int .i64 c.s, .int .i64 c.b, .int .i64 c.m, .int .i64 c.q, .int .i64 c.c, .int .i64 c.w]] #[]
def lbV (c : Cf) (p : Nat) : Value := .agg #[.pointer (some ⟨p, 0, none⟩), stpV c p]
/-- The block of a watch. -/
def WtZ (w : World) (wb : Nat) (c : Cf) (x m p u : Value) : Prop := w.heap[wb]? = some (.cells #[.int .i64 0, .int .i64 1, .int .i64 1, .int .i64 1, .int .i64 0, .int .i64 1, .int .i64 1, .int .i64 1000000, .int .i64 1000, .int .i64 1000, .int .i64 100000, .int .i64 100000, .int .i64 512, .int .i64 64, .int .i64 c.r, .int .i64 c.s, .int .i64 c.b, .int .i64 c.m, .int .i64 c.q, .int .i64 c.c, .int .i64 c.w, x, m, p, u] 90 (0, 0))
theorem WtZ.lt {w : World} {b : Nat} {c : Cf} {x m p u : Value} (h : WtZ w b c x m p u) : b < w.heap.size := (Array.getElem?_eq_some_iff.1 h).1
theorem WtZ.keep {w w' : World} {b : Nat} {c : Cf} {x m p u : Value} {row : Option Nat} (h : WtZ w b c x m p u) (k : w.grownBy w' row) (hr : row ≠ some b) : WtZ w' b c x m p u := (k.block b h.lt (fun q => hr q.symm)).trans h
theorem WtZ.fr {w w' : World} {b : Nat} {c : Cf} {x m p u : Value} (h : WtZ w b c x m p u) (k : Fr w w') : WtZ w' b c x m p u := h.keep k (by simp)
theorem WtZ.free {w : World} {b : Nat} {c : Cf} {x m p u : Value} (h : WtZ w b c x m p u) (i : Nat) : w.frozen? ⟨b, i, none⟩ = false := frozen_of_row w b i _ _ h
theorem WtZ.cf {w : World} {b : Nat} {c : Cf} {x m p u : Value} (h : WtZ w b c x m p u) : CfAt w b 14 c := by
  refine ⟨?_, ?_, ?_, ?_, ?_, ?_, ?_⟩ <;> rw [cell_of_row _ _ _ _ _ _ h] <;> rfl
theorem WtZ.cx {w : World} {b : Nat} {c : Cf} {x m p u : Value} (h : WtZ w b c x m p u) : w.cell? ⟨b, 21, none⟩ = some x := by rw [cell_of_row _ _ _ _ _ _ h]; rfl
theorem WtZ.cm {w : World} {b : Nat} {c : Cf} {x m p u : Value} (h : WtZ w b c x m p u) : w.cell? ⟨b, 22, none⟩ = some m := by rw [cell_of_row _ _ _ _ _ _ h]; rfl
theorem WtZ.cp {w : World} {b : Nat} {c : Cf} {x m p u : Value} (h : WtZ w b c x m p u) : w.cell? ⟨b, 23, none⟩ = some p := by rw [cell_of_row _ _ _ _ _ _ h]; rfl
theorem WtZ.cu {w : World} {b : Nat} {c : Cf} {x m p u : Value} (h : WtZ w b c x m p u) : w.cell? ⟨b, 24, none⟩ = some u := by rw [cell_of_row _ _ _ _ _ _ h]; rfl
theorem WtZ.setP {w : World} {b : Nat} {c : Cf} {x m p u : Value} (h : WtZ w b c x m p u) (v : Value) : WtZ (w.setCell ⟨b, 23, none⟩ v) b c x m v u := heap_setCell_same w b 23 _ _ v h
theorem WtZ.setU {w : World} {b : Nat} {c : Cf} {x m p u : Value} (h : WtZ w b c x m p u) (v : Value) : WtZ (w.setCell ⟨b, 24, none⟩ v) b c x m p v := heap_setCell_same w b 24 _ _ v h
/-- The limited config is loaded whole. -/
theorem WtZ.load {w : World} {b : Nat} {c : Cf} {x m p u : Value} (h : WtZ w b c x m p u) : (Instr.loadAt 71 (.pointer (some ⟨b, 0, none⟩))).run Try.prog w = .ok (.agg #[.int .i64 0, .int .i64 1, .int .i64 1, .int .i64 1, .int .i64 0, .int .i64 1, .int .i64 1, .int .i64 1000000, .int .i64 1000, .int .i64 1000, .int .i64 100000, .int .i64 100000, .int .i64 512, .int .i64 64, .int .i64 c.r, .int .i64 c.s, .int .i64 c.b, .int .i64 c.m, .int .i64 c.q, .int .i64 c.c, .int .i64 c.w]) w := by
  refine run_loadAt_mid w b 0 71 [.int .i64 0, .int .i64 1, .int .i64 1, .int .i64 1, .int .i64 0, .int .i64 1, .int .i64 1, .int .i64 1000000, .int .i64 1000, .int .i64 1000, .int .i64 100000, .int .i64 100000, .int .i64 512, .int .i64 64, .int .i64 c.r, .int .i64 c.s, .int .i64 c.b, .int .i64 c.m, .int .i64 c.q, .int .i64 c.c, .int .i64 c.w] _ ?_ Try.underlying71 rfl (by kernel_rfl)
  intro j v hj
  have hlt := (List.getElem?_eq_some_iff.1 hj).1
  rw [cell_of_row _ _ _ _ _ _ h, Nat.zero_add]
  have e : (#[.int .i64 0, .int .i64 1, .int .i64 1, .int .i64 1, .int .i64 0, .int .i64 1, .int .i64 1, .int .i64 1000000, .int .i64 1000, .int .i64 1000, .int .i64 100000, .int .i64 100000, .int .i64 512, .int .i64 64, .int .i64 c.r, .int .i64 c.s, .int .i64 c.b, .int .i64 c.m, .int .i64 c.q, .int .i64 c.c, .int .i64 c.w, x, m, p, u] : Array Value) = (([.int .i64 0, .int .i64 1, .int .i64 1, .int .i64 1, .int .i64 0, .int .i64 1, .int .i64 1, .int .i64 1000000, .int .i64 1000, .int .i64 1000, .int .i64 100000, .int .i64 100000, .int .i64 512, .int .i64 64, .int .i64 c.r, .int .i64 c.s, .int .i64 c.b, .int .i64 c.m, .int .i64 c.q, .int .i64 c.c, .int .i64 c.w] : List Value) ++ [x, m, p, u]).toArray := rfl
  rw [e, List.getElem?_toArray, List.getElem?_append_left hlt]
  exact hj

/-- A watch that stands at the sampler s. -/
structure WatW (lo : Nat) (w : World) (wb mb : Nat) (c : Cf) (x : Value) (s : Smp) (B : Int → Int → Nat) (N : Nat) : Prop where
  box : WtZ w wb c x (.map (some mb)) (.int .i64 s.p) (.int .i64 s.u)
  map : MapO w mb N s.os (fun g f => lbV c (B g f))
  bur : ∀ o ∈ s.os, BuZ w (B o.g o.f) #[.int .i64 o.b.l, .int .i64 o.b.s, .int .i64 o.b.g]
  inj : ∀ o ∈ s.os, ∀ q ∈ s.os, B o.g o.f = B q.g q.f → o.g = q.g ∧ o.f = q.f
  low : lo ≤ wb ∧ lo ≤ mb ∧ ∀ o ∈ s.os, lo ≤ B o.g o.f
theorem WatW.fr {lo : Nat} {w w' : World} {wb mb : Nat} {c : Cf} {x : Value} {s : Smp} {B : Int → Int → Nat} {N : Nat} (h : WatW lo w wb mb c x s B N) (k : Fr w w') : WatW lo w' wb mb c x s B N :=
  ⟨h.box.fr k, h.map.fr k, fun o ho => (h.bur o ho).fr k, h.inj, h.low⟩
theorem WatW.ne {lo : Nat} {w : World} {wb mb : Nat} {c : Cf} {x : Value} {s : Smp} {B : Int → Int → Nat} {N : Nat} (h : WatW lo w wb mb c x s B N) : wb ≠ mb ∧ ∀ o ∈ s.os, B o.g o.f ≠ wb ∧ B o.g o.f ≠ mb := by
  refine ⟨h.map.ne h.box, fun o ho => ⟨fun e => ?_, h.map.ne (h.bur o ho)⟩⟩
  have h1 := h.bur o ho
  have h2 := h.box
  unfold BuZ at h1
  unfold WtZ at h2
  rw [e, h2] at h1
  exact absurd (Obj.cells.inj (Option.some.inj h1)).2.1 (by decide)
/-- The period or what is used up is written. -/
theorem WatW.setP {lo : Nat} {w : World} {wb mb : Nat} {c : Cf} {x : Value} {s : Smp} {B : Int → Int → Nat} {N : Nat} (h : WatW lo w wb mb c x s B N) (v : Int) : WatW lo (w.setCell ⟨wb, 23, none⟩ (.int .i64 v)) wb mb c x ⟨s.os, v, s.u⟩ B N := by
  obtain ⟨n1, n2⟩ := h.ne
  have k := grown_set w wb 23 (.int .i64 v)
  exact ⟨h.box.setP _, h.map.keep k (by simp only [ne_eq, Option.some.injEq]; omega), fun o ho => (h.bur o ho).keep k (by have := (n2 o ho).1; simp only [ne_eq, Option.some.injEq]; omega), h.inj, h.low⟩
theorem WatW.setU {lo : Nat} {w : World} {wb mb : Nat} {c : Cf} {x : Value} {s : Smp} {B : Int → Int → Nat} {N : Nat} (h : WatW lo w wb mb c x s B N) (v : Int) : WatW lo (w.setCell ⟨wb, 24, none⟩ (.int .i64 v)) wb mb c x ⟨s.os, s.p, v⟩ B N := by
  obtain ⟨n1, n2⟩ := h.ne
  have k := grown_set w wb 24 (.int .i64 v)
  exact ⟨h.box.setU _, h.map.keep k (by simp only [ne_eq, Option.some.injEq]; omega), fun o ho => (h.bur o ho).keep k (by have := (n2 o ho).1; simp only [ne_eq, Option.some.injEq]; omega), h.inj, h.low⟩

/-- A whole row of cells is written. -/
theorem store_rowK {ops : Array Oper} {rest : List Oper} {o : Oper} {a : Act} {w : World} {Q : Exit → Act → World → Prop} {b : Nat} {t : TypeId} {old : Array Value} (hgd : o.guard = none) (ty : TypeId) (x y : Operand) (ho : o.op = .store ty x y) (cells : Array Value) (hx : a.eval x = .pointer (some ⟨b, 0, none⟩)) (hy : a.eval y = .agg cells)
    (hg : KyZ w b t old) (hi : (Try.prog.info? ty).map (·.size) = some cells.size) (hold : old.size = cells.size) (h1 : cells.all (·.oneCell') = true) (k : wpList Try.prog ops Q rest (a.put o.dst undef) (w.setRow b cells)) : wpList Try.prog ops Q (o :: rest) a w :=
  wpList_store_row hgd ty x y ho b cells hx hy t old hg hi hold h1 k
theorem KyZ.setRow {w : World} {b : Nat} {t : TypeId} {c d : Array Value} (h : KyZ w b t c) : KyZ (w.setRow b d) b t d := by
  unfold KyZ at *
  simp only [World.setRow, Array.getElem?_modify, if_true, h, Option.map_some]
set_option maxHeartbeats 1000000 in
theorem longBurst_any (c : Cf) (b : Bu) (w : World) :
    Calls Try.prog 58 #[.agg #[.int .i64 c.r, .int .i64 c.s, .int .i64 c.b, .int .i64 c.m, .int .i64 c.q, .int .i64 c.c, .int .i64 c.w], .agg #[.int .i64 b.l, .int .i64 b.s, .int .i64 b.g]] w fun e w' => ∃ p, e = .returned (lbV c p) ∧ BuZ w' p #[.int .i64 b.l, .int .i64 b.s, .int .i64 b.g] ∧ w.heap.size ≤ p ∧ Fr w w' := by
  have cF := fun u => stepsOf_any c (w.heap.size + 1) u
  suffices H : Calls Try.prog 58 #[.agg #[.int .i64 c.r, .int .i64 c.s, .int .i64 c.b, .int .i64 c.m, .int .i64 c.q, .int .i64 c.c, .int .i64 c.w], .agg #[.int .i64 b.l, .int .i64 b.s, .int .i64 b.g]] w fun e w' => e = .returned (.agg #[.pointer (some ⟨w.heap.size + 1, 0, none⟩), stpV c (w.heap.size + 1)]) ∧ BuZ w' (w.heap.size + 1) #[.int .i64 b.l, .int .i64 b.s, .int .i64 b.g] ∧ Fr w w' by
    refine H.mono ?_
    rintro e w' ⟨rfl, h1, h2⟩
    exact ⟨_, rfl, h1, by omega, h2⟩
  unfold stpV
  obtain ⟨SA, hSA⟩ : ∃ SA : Array Value, SA = #[.agg #[.pointer (some ⟨w.heap.size + 1, 0, none⟩), .int .i64 c.r, .int .i64 c.s, .int .i64 c.b, .int .i64 c.m, .int .i64 c.q, .int .i64 c.c, .int .i64 c.w]] := ⟨_, rfl⟩
  simp only [← hSA] at cF
  rw [← hSA]
  clear hSA
  obtain ⟨r, s, bb, m, q, cc, k⟩ := c
  obtain ⟨xl, xs, xg⟩ := b
  simp only at cF ⊢
  have aC := CfAt.new w ⟨r, s, bb, m, q, cc, k⟩ 29
  have f1 := Fr.alloc w (.cells #[.int .i64 r, .int .i64 s, .int .i64 bb, .int .i64 m, .int .i64 q, .int .i64 cc, .int .i64 k] 29)
  obtain ⟨V, hV⟩ : ∃ V, V = w.alloc (.cells #[.int .i64 r, .int .i64 s, .int .i64 bb, .int .i64 m, .int .i64 q, .int .i64 cc, .int .i64 k] 29) := ⟨_, rfl⟩
  have hs : V.heap.size = w.heap.size + 1 := by rw [hV]; simp
  have aX : BuZ (V.alloc (.cells #[.int .i64 xl, .int .i64 xs, .int .i64 xg] 51)) V.heap.size #[.int .i64 xl, .int .i64 xs, .int .i64 xg] := heap_alloc_new _ _
  have f2 := Fr.alloc V (.cells #[.int .i64 xl, .int .i64 xs, .int .i64 xg] 51)
  rw [← hV] at aC f1
  have hs2 : (V.alloc (.cells #[.int .i64 xl, .int .i64 xs, .int .i64 xg] 51)).heap.size = w.heap.size + 1 + 1 := by simp [hs]
  rw [hs] at aX
  have zR : KyZ ((V.alloc (.cells #[.int .i64 xl, .int .i64 xs, .int .i64 xg] 51)).alloc (.cells #[.pointer none, .nilFunc] 93)) (V.alloc (.cells #[.int .i64 xl, .int .i64 xs, .int .i64 xg] 51)).heap.size 93 #[.pointer none, .nilFunc] := heap_alloc_new _ _
  have f3 := Fr.alloc (V.alloc (.cells #[.int .i64 xl, .int .i64 xs, .int .i64 xg] 51)) (.cells #[.pointer none, .nilFunc] 93)
  rw [hs2] at zR
  replace aC := (aC.fr f2).fr f3
  replace aX := aX.fr f3
  replace f1 := (f1.trans f2).trans f3
  rw [hV] at aC aX zR f1
  clear f2 f3 hs hs2 hV V
  go_enter Try.func58, Try.ntmps58
  go_wp2_with fail
  obtain ⟨U, hU⟩ : ∃ U, U = ((w.alloc (.cells #[.int .i64 r, .int .i64 s, .int .i64 bb, .int .i64 m, .int .i64 q, .int .i64 cc, .int .i64 k] 29)).alloc (.cells #[.int .i64 xl, .int .i64 xs, .int .i64 xg] 51)).alloc (.cells #[.pointer none, .nilFunc] 93) := ⟨_, rfl⟩
  rw [← hU] at aC aX zR f1 ⊢
  clear hU
  refine (cF _).mono ?_
  rintro e u1 ⟨rfl, k1⟩
  replace aX := aX.fr k1
  replace zR := zR.fr k1
  replace f1 := f1.trans k1
  clear k1 aC cF
  have y0 := zR.c0
  have y1 := zR.c1
  have yf := fun i => zR.free i
  have z : KyZ (u1.setRow (w.heap.size + 1 + 1) #[.pointer (some ⟨w.heap.size + 1, 0, none⟩), .func (.func 75) SA #[]]) (w.heap.size + 1 + 1) 93 #[.pointer (some ⟨w.heap.size + 1, 0, none⟩), .func (.func 75) SA #[]] := zR.setRow
  have g := LcZ.grown u1 (w.heap.size + 1 + 1) #[.pointer (some ⟨w.heap.size + 1, 0, none⟩), .func (.func 75) SA #[]]
  go_wp2_with (refine store_rowK rfl 93 (.tmp 4) (.tmp 7) rfl #[.pointer (some ⟨w.heap.size + 1, 0, none⟩), .func (.func 75) SA #[]] rfl rfl zR (by kernel_rfl) rfl (by simp [Value.oneCell']) ?_)
  obtain ⟨Y, hY⟩ : ∃ Y, Y = u1.setRow (w.heap.size + 1 + 1) #[.pointer (some ⟨w.heap.size + 1, 0, none⟩), .func (.func 75) SA #[]] := ⟨_, rfl⟩
  rw [← hY] at z g ⊢
  clear hY y0 y1 yf
  have z0 := z.c0
  have z1 := z.c1
  refine bodyPost_ret (v := .agg #[.pointer (some ⟨w.heap.size + 1, 0, none⟩), .func (.func 75) SA #[]]) (by simp [results, Try.results58, go_sem, z0, z1]) rfl ⟨rfl, aX.keep g (by simp), ?_⟩
  exact f1.then g (by intro j hj; cases hj; omega)
end Go.Proofs.Ytkfcchapfklpgaa
/-
  A region that draws its order: what stands ahead is quiet in one class of worlds; then some operations come one behind the other, whatever they do; what stands behind them is quiet in another class.
-/
namespace Go.Proofs.Ytkfcchapfklpgaa
open Go.RowKit

/-- An operation that yields one value in every world of the class. -/
theorem quiet_run {P : Program} {ops : Array Oper} {C : World → Prop} {L : Act → Prop} {rest : List Oper} {o : Oper} {a : Act} (hw : Region.wanted o (yielded ops a.tmps) = true) (v : Value) (h : ∀ w, C w → (execOp a.eval o).run P w = .ok (.value v) w) (k : wpQuiet P ops C L rest (a.put o.dst v)) : wpQuiet P ops C L (o :: rest) a := by
  refine wpQuiet_step fun K hK => ?_
  rw [if_pos hw]
  refine ⟨v, fun w hc => ?_, hK _ k⟩
  unfold Oper.quietAt
  rw [h w hc]
  exact ⟨rfl, rfl⟩
theorem quiet_load {P : Program} {ops : Array Oper} {C : World → Prop} {L : Act → Prop} {rest : List Oper} {o : Oper} {a : Act} (hw : Region.wanted o (yielded ops a.tmps) = true) (ty : TypeId) (x : Operand) (v : Value) (ho : o.op = .load ty x)
    (h : ∀ w, C w → (Instr.loadAt ty (a.eval x)).run P w = .ok v w) (k : wpQuiet P ops C L rest (a.put o.dst v)) : wpQuiet P ops C L (o :: rest) a := by
  refine quiet_run hw v (fun w hc => ?_) k
  unfold execOp
  simp only [ho, Sem.run_bind, h w hc, Result.andThen_ok, Sem.run_pure]

section
variable {P : Program} {md : Region.Mode} {ops : Array Oper} {C C2 : World → Prop}

def forceB (md : Region.Mode) (ops : Array Oper) : Nat → Nat → Array Bool → Bool
  | 0, k, listed => Region.lexFrom md ops (ops.size - k) k listed
  | f + 1, k, listed => decide (k < ops.size) && decide (Region.ready md ops listed = [k]) && forceB md ops f (k + 1) (listed.setIfInBounds k true)
def headF (md : Region.Mode) (ops : Array Oper) (f : Nat) : Nat → Nat → Array Bool → Bool
  | 0, k, listed => forceB md ops (f + 1) k listed
  | h + 1, k, listed => (Region.ready md ops listed).contains k && Region.free md ops listed k && headF md ops f h (k + 1) (listed.setIfInBounds k true)
def pivotF (md : Region.Mode) (ops : Array Oper) (n f : Nat) : Bool :=
  Region.noSelect ops && decide (n < ops.size) && Region.sinkB md ops n && behindB md ops n && headF md ops f n 0 (Array.replicate ops.size false)
/-- Operations one behind the other; then what is quiet. -/
def wpForce (P : Program) (ops : Array Oper) (C2 : World → Prop) (Q : Exit → Act → World → Prop) : Nat → List Oper → Act → World → Prop
  | 0, rest, a, u => C2 u ∧ wpQuiet P ops C2 (fun a' => ∀ w', C2 w' → Q .normal a' w') rest a
  | _ + 1, [], _, _ => False
  | f + 1, o :: rest, a, u => Region.wanted o (yielded ops a.tmps) = true ∧ o.wp P a u (fun a2 u2 => wpForce P ops C2 Q f rest a2 u2) Q

theorem hd_lexF {n f : Nat} {Lq : Act → Prop} (hsel : Region.noSelect ops = true) (hs : Region.sinkB md ops n = true) (hb : behindB md ops n = true) :
    ∀ (l : List Oper) (k : Nat) (listed : Array Bool) (a : Act), (∀ j, j < l.length → l[j]? = ops[k + j]?) → k + l.length = n → HeadInv md ops n listed →
    headF md ops f l.length k listed = true → wpQuiet P ops C Lq l a →
    wpHd P md ops C n (fun listed' a' => forceB md ops (f + 1) n listed' = true ∧ Lq a') l.length listed a
  | [], k, listed, a, _, hk, _, hB, h => by
    have : k = n := by simpa using hk
    subst this
    exact ⟨hB, h⟩
  | o :: l, k, listed, a, hl, hk, inv, hB, h => by
    have h0 : ops[k]? = some o := by simpa using (hl 0 (by simp)).symm
    simp only [List.length_cons, headF, Bool.and_eq_true] at hB
    obtain ⟨⟨hr, hf⟩, hB'⟩ := hB
    have hkn : k < n := by simp only [List.length_cons] at hk; omega
    have hr' : k ∈ Region.ready md ops listed := by simpa using hr
    have hst : qOp P ops C k (wpQuiet P ops C Lq l) a := by unfold qOp; simp only [h0]; exact h
    obtain ⟨v, hy, hK⟩ := yieldsIn_of_qOp h0 hst
    refine hd_first h0 hsel hs hb hkn (fun listed' a' hL j hj => ?_) l.length listed a inv (Region.free_spec h0 hf) hr' hy
      (hd_lexF hsel hs hb l (k + 1) _ _ (fun j hj => by have := hl (j + 1) (by simpa using hj); simpa [Nat.add_assoc, Nat.add_comm 1 j] using this) (by simp only [List.length_cons] at hk; omega) (inv.set hr' hkn) hB' hK)
    have h1 := hL.1
    simp only [forceB, Bool.and_eq_true, decide_eq_true_eq] at h1
    rw [h1.1.2] at hj
    simp only [List.mem_singleton] at hj
    omega

theorem force_any {Q : Exit → Act → World → Prop} (hsel : Region.noSelect ops = true) : ∀ (f k : Nat) (rest : List Oper) (listed : Array Bool) (a : Act) (u : World), (∀ j, rest[j]? = ops[k + j]?) → rest.length = ops.size - k →
    forceB .any ops f k listed = true → wpForce P ops C2 Q f rest a u → wpAny P .any ops Q (ops.size - k) listed a u
  | 0, k, rest, listed, a, u, hr, hl, hB, h => by
    obtain ⟨hC, hq⟩ := h
    unfold forceB at hB
    have hq2 := wpAnyQ_lex (P := P) (C := C2) (md := .any) hsel rest k _ a hr (by rw [hl]; exact hB) hq
    rw [hl] at hq2
    exact wpAny_of_quiet (fun a' w' hw' h' => h' w' hw') _ _ _ _ hC hq2
  | f + 1, k, [], listed, a, u, hr, hl, hB, h => h.elim
  | f + 1, k, o :: rest, listed, a, u, hr, hl, hB, h => by
    simp only [forceB, Bool.and_eq_true, decide_eq_true_eq] at hB
    obtain ⟨⟨hk, hrd⟩, hB'⟩ := hB
    obtain ⟨hw, hwp⟩ := h
    have hoA : ops[k]? = some o := by have := hr 0; simpa using this.symm
    have e : ops.size - k = (ops.size - (k + 1)) + 1 := by omega
    rw [e]
    refine ⟨fun h0 => (by rw [hrd] at h0; cases h0), fun i hi => ?_⟩
    rw [hrd] at hi
    simp only [List.mem_singleton] at hi
    subst hi
    unfold wpOp
    simp only [hoA]
    rw [if_pos hw]
    refine .inl (Oper.wp_mono (fun a2 u2 hq => ?_) hwp)
    exact force_any hsel f (i + 1) rest _ a2 u2 (fun j => by have := hr (j + 1); simpa [Nat.add_assoc, Nat.add_comm 1 j] using this) (by simp only [List.length_cons] at hl; omega) hB' hq

theorem wp_region_force {id : Nat} {Q : Exit → Act → World → Prop} {a : Act} {w : World} {l : List Oper} (n f : Nat) (hm : P.follows .mixedOrders = true) (hB : pivotF .any l.toArray n f = true) (hC : C w.drew)
    (h : wpQuiet P l.toArray C (fun a1 => ∀ u, C u → wpForce P l.toArray C2 Q (f + 1) (l.drop n) a1 u) (l.take n) a) : (Code.region id l.toArray true).wp P Q a w := by
  simp only [pivotF, Bool.and_eq_true, decide_eq_true_eq] at hB
  obtain ⟨⟨⟨⟨hsel, hn⟩, hs⟩, hb⟩, hh⟩ := hB
  have hn' : n < l.length := by simpa using hn
  have htl : (l.take n).length = n := by simp; omega
  have inv0 : HeadInv .any l.toArray n (Array.replicate l.toArray.size false) :=
    ⟨by simp, fun j oj _ hl => (by rw [getD_replicate_false] at hl; cases hl), fun t _ ht => getD_in (by simpa using ht) (getD_replicate_false _ _)⟩
  have H := hd_lexF (P := P) (C := C) (md := .any) (f := f) hsel hs hb (l.take n) 0 (Array.replicate l.toArray.size false) a (fun j hj => by
    have hj' : j < n := by rw [htl] at hj; exact hj
    simp [hj']) (by simpa using htl) inv0 (by rw [htl]; exact hh) h
  refine wp_region_any hm ?_
  have hgo := wpAny_of_hd (P := P) (C := C) (md := .any) (Q' := Q) (g := l.toArray.size - n) (fun listed a1 u hu hL => ?_) _ _ _ w.drew hC H
  · rw [htl] at hgo
    have e : n + (l.toArray.size - n) = l.toArray.size := by omega
    rw [e] at hgo
    exact hgo
  · obtain ⟨h1, h2⟩ := hL
    exact force_any hsel (f + 1) n (l.drop n) listed a1 u (fun j => by simp [List.getElem?_drop]) (by simp) h1 (h2 u hu)
end
end Go.Proofs.Ytkfcchapfklpgaa
