/-
  Periods: the specification's functions.
-/
import Derived.Test.YtpmloeneffolpaaPrd4
namespace Go.Proofs.Ytpmloeneffolpaa
open Go.RowKit

set_option maxHeartbeats 1000000 in
theorem dwOk_spec (ao : Option Addr) (n cap : Nat) (xs : List Int) (w : World) (hn : xs.length = n) (h : Reads w ao xs) :
    Calls Try.prog 11 #[.slice ao n cap] w fun e w' => e = .returned (.bool (dwB xs)) ∧ w' = w := by
  subst hn
  have hl := h.len
  go_enter Try.func11, Try.ntmps11
  go_wp2
  go_loop [3] (fun i => ∃ k : Nat, k ≤ xs.length ∧ i = .int .i64 k ∧ Hid (∀ j, j < k → inB 0 999999 (xs.getD j 0) = true)) (fun i => xs.length - (intOf i).toNat)
  case atStart => exact ⟨0, Nat.zero_le _, rfl, fun j hj => by omega⟩
  case round =>
    obtain ⟨k, hk, rfl, HA⟩ := hrel
    by_cases hlt : k < xs.length
    · obtain ⟨b, off, rfl, hc⟩ := h.at_ k hlt
      have hck := hc k hlt
      rw [getD_at hlt] at hck
      clear hc
      cases hin : inB 0 999999 xs[k]
      · go_wp2_with (go_at_call 28; refine (l1In_any _ _ _ _).mono ?_; rintro e w' ⟨rfl, rfl⟩)
        go_ret
        exact ⟨ret_bool (dwB_bad hlt hin).symm, rfl⟩
      · go_wp2_with (go_at_call 28; refine (l1In_any _ _ _ _).mono ?_; rintro e w' ⟨rfl, rfl⟩)
        go_round
        case rel =>
          refine ⟨k + 1, by omega, by go_num, fun j hj => ?_⟩
          by_cases e : j = k
          · subst e; rw [getD_at hlt]; exact hin
          · exact HA.out j (by omega)
        case measure => simp [intOf]; omega
    · have e : dwB xs = decide ((xs.length : Int) ≤ 300) := by
        by_cases h3 : xs.length ≤ 300
        · rw [dwB_mk h3 fun j hj => HA.out j (by omega)]; exact (decide_eq_true (by omega)).symm
        · rw [dwB_long (by omega)]; exact (decide_eq_false (by omega)).symm
      have HE : Hid (dwB xs = decide ((xs.length : Int) ≤ 300)) := e
      clear e
      go_wp2
      go_ret
      exact ⟨ret_bool HE.out.symm, rfl⟩

set_option maxRecDepth 20000 in
set_option maxHeartbeats 2000000 in
theorem onAt_spec (c : Cf) (ao : Option Addr) (N cap : Nat) (xs : List Int) (n : Int) (W : World) (hn : xs.length = N) (h : Reads W ao xs) (hI : n ≤ 9223372036854775807) :
    Calls Try.prog 20 #[.agg #[.int .i64 c.r, .int .i64 c.s, .int .i64 c.b, .int .i64 c.m, .int .i64 c.q, .int .i64 c.c, .int .i64 c.w], .slice ao N cap, .int .i64 n] W fun e w' => e = .returned (.bool (onAtB c xs n)) ∧ Fr W w' := by
  subst hn
  have cA := fun u => cfOk_spec c u
  have cD := fun u (k : Fr W u) => dwOk_spec ao xs.length cap xs u rfl (h.fr k)
  have kb := CfAt.new W c 25
  have f := Fr.alloc W (.cells #[.int .i64 c.r, .int .i64 c.s, .int .i64 c.b, .int .i64 c.m, .int .i64 c.q, .int .i64 c.c, .int .i64 c.w] 25)
  have hno := fun hq => onAtB_no (c := c) (xs := xs) (n := n) hq
  have hyes := fun h0 hq => onAtB_yes (c := c) (xs := xs) (n := n) h0 hq
  have hcf := cfB_in (c := c)
  have hdw := dwB_len (xs := xs)
  unfold onB at hyes
  unfold stB at hno hyes
  obtain ⟨r, s, b, m, q, c, w⟩ := c
  generalize onAtB ⟨r, s, b, m, q, c, w⟩ xs n = G at hno hyes ⊢
  generalize cfB ⟨r, s, b, m, q, c, w⟩ = A at cA hno hyes hcf
  generalize dwB xs = D at cD hno hyes hdw
  simp only at cA cD f kb hyes hcf ⊢
  cases A
  · have e : G = false := hno (.inr rfl)
    subst e
    clear hno hyes cD hcf hdw
    go_enter Try.func20, Try.ntmps20
    go_wp2_with fail
    refine (cA _).mono ?_
    rintro e u1 ⟨rfl, f1⟩
    go_wp2_with fail
    go_ret
    exact ⟨rfl, f.trans f1⟩
  cases D
  · have e : G = false := hno (.inr rfl)
    subst e
    clear hno hyes hcf hdw
    go_enter Try.func20, Try.ntmps20
    go_wp2_with fail
    refine (cA _).mono ?_
    rintro e u1 ⟨rfl, f1⟩
    go_wp2_with fail
    refine (cD _ (f.trans f1)).mono ?_
    rintro e u2 ⟨rfl, rfl⟩
    go_wp2_with fail
    go_ret
    exact ⟨rfl, f.trans f1⟩
  by_cases h0 : n < 0
  · have e : G = false := hno (.inl h0)
    subst e
    clear hno hyes hcf hdw
    go_enter Try.func20, Try.ntmps20
    go_wp2_with fail
    refine (cA _).mono ?_
    rintro e u1 ⟨rfl, f1⟩
    go_wp2_with fail
    refine (cD _ (f.trans f1)).mono ?_
    rintro e u2 ⟨rfl, rfl⟩
    go_wp2_with fail
    go_ret
    exact ⟨rfl, f.trans f1⟩
  have h0' : 0 ≤ n := by omega
  have hs := (hcf rfl).2.1.1
  have hl := hdw rfl
  have e := hyes h0' rfl
  clear hno hyes hcf hdw h0
  subst e
  have hq0 : 0 ≤ n / s := Int.ediv_nonneg h0' (by omega)
  have hle := Int.ediv_le_self s h0'
  have HQ : Hid (∀ u, Fr (W.alloc (.cells #[.int .i64 r, .int .i64 s, .int .i64 b, .int .i64 m, .int .i64 q, .int .i64 c, .int .i64 w] 25)) u → CfAt u W.heap.size 0 ⟨r, s, b, m, q, c, w⟩) := fun u k => kb.fr k
  clear kb
  by_cases hp : n / s < (xs.length : Int)
  · obtain ⟨p, hpe⟩ : ∃ p : Nat, n / s = (p : Int) := ⟨(n / s).toNat, by omega⟩
    have hlt : p < xs.length := by omega
    rw [hpe, Int.toNat_natCast]
    obtain ⟨z, hz⟩ : ∃ z, z = xs.getD p 0 := ⟨_, rfl⟩
    obtain ⟨bb, off, rfl, hc⟩ := h.at_ p hlt
    have hck := hc p hlt
    rw [← hz] at hck ⊢
    have hd : decide ((p : Int) < (xs.length : Int)) = true := decide_eq_true (by omega)
    rw [hd, Bool.true_and]
    clear hz hc hd h
    go_enter Try.func20, Try.ntmps20
    go_wp2_with fail
    refine (cA _).mono ?_
    rintro e u1 ⟨rfl, f1⟩
    obtain ⟨k0, k1, k2, k3, k4, k5, k6⟩ := HQ.out _ f1
    simp only [Nat.zero_add] at k0 k1 k2 k3 k4 k5 k6
    replace f1 := f.trans f1
    go_wp2_with fail
    refine (cD _ f1).mono ?_
    rintro e u2 ⟨rfl, rfl⟩
    have hck := f1.cell hck
    go_wp2_with fail
    rw [hpe]
    have hd : decide ((p : Int) < (xs.length : Int)) = true := decide_eq_true (by omega)
    go_quiet (fail)
    go_wp2
    go_ret
    exact ⟨rfl, f1.trans (Fr.drewN _ _)⟩
  · have hd : decide (n / s < (xs.length : Int)) = false := decide_eq_false hp
    rw [hd, Bool.false_and]
    clear h
    go_enter Try.func20, Try.ntmps20
    go_wp2_with fail
    refine (cA _).mono ?_
    rintro e u1 ⟨rfl, f1⟩
    obtain ⟨k0, k1, k2, k3, k4, k5, k6⟩ := HQ.out _ f1
    simp only [Nat.zero_add] at k0 k1 k2 k3 k4 k5 k6
    replace f1 := f.trans f1
    go_wp2_with fail
    refine (cD _ f1).mono ?_
    rintro e u2 ⟨rfl, rfl⟩
    go_wp2_with fail
    go_quiet (fail)
    go_wp2
    go_ret
    exact ⟨rfl, f1.trans (Fr.drewN _ _)⟩

set_option maxRecDepth 20000 in
set_option maxHeartbeats 2000000 in
theorem opAt_spec (c : Cf) (ao : Option Addr) (N cap : Nat) (xs : List Int) (n : Int) (W : World) (hn : xs.length = N) (h : Reads W ao xs) (hI : n ≤ 9223372036854775807) :
    Calls Try.prog 24 #[.agg #[.int .i64 c.r, .int .i64 c.s, .int .i64 c.b, .int .i64 c.m, .int .i64 c.q, .int .i64 c.c, .int .i64 c.w], .slice ao N cap, .int .i64 n] W fun e w' => e = .returned (.bool (opAtB c xs n)) ∧ Fr W w' := by
  have cO := fun u (k : Fr W u) => onAt_spec c ao N cap xs n u hn (h.fr k) hI
  have kb := CfAt.new W c 25
  have f := Fr.alloc W (.cells #[.int .i64 c.r, .int .i64 c.s, .int .i64 c.b, .int .i64 c.m, .int .i64 c.q, .int .i64 c.c, .int .i64 c.w] 25)
  rw [opAtB_on]
  have hin : onAtB c xs n = true → 0 ≤ n ∧ 1 ≤ c.s := fun e => by
    have e2 := e
    simp only [onAtB, stB, Bool.and_eq_true, decide_eq_true_eq] at e2
    exact ⟨e2.1.1, (cfB_in e2.1.2.1).2.1.1⟩
  obtain ⟨r, s, b, m, q, c, w⟩ := c
  generalize onAtB ⟨r, s, b, m, q, c, w⟩ xs n = B at cO hin ⊢
  simp only at cO f kb hin ⊢
  have HQ : Hid (∀ u, Fr (W.alloc (.cells #[.int .i64 r, .int .i64 s, .int .i64 b, .int .i64 m, .int .i64 q, .int .i64 c, .int .i64 w] 25)) u → CfAt u W.heap.size 0 ⟨r, s, b, m, q, c, w⟩) := fun u k => kb.fr k
  clear kb h
  cases B
  · clear hin
    go_enter Try.func24, Try.ntmps24
    go_wp2_with fail
    refine (cO _ f).mono ?_
    rintro e u1 ⟨rfl, f1⟩
    go_wp2_with fail
    go_ret
    exact ⟨rfl, f.trans f1⟩
  obtain ⟨h0, hs⟩ := hin rfl
  by_cases hz : n % s = 0
  · go_enter Try.func24, Try.ntmps24
    go_wp2_with fail
    refine (cO _ f).mono ?_
    rintro e u1 ⟨rfl, f1⟩
    obtain ⟨k0, k1, k2, k3, k4, k5, k6⟩ := HQ.out _ f1
    simp only [Nat.zero_add] at k0 k1 k2 k3 k4 k5 k6
    go_wp2_with fail
    go_ret
    exact ⟨ret_bool (by simp [hz]), f.trans f1⟩
  · go_enter Try.func24, Try.ntmps24
    go_wp2_with fail
    refine (cO _ f).mono ?_
    rintro e u1 ⟨rfl, f1⟩
    obtain ⟨k0, k1, k2, k3, k4, k5, k6⟩ := HQ.out _ f1
    simp only [Nat.zero_add] at k0 k1 k2 k3 k4 k5 k6
    go_wp2_with fail
    go_ret
    exact ⟨ret_bool (by simp [hz]), f.trans f1⟩

set_option maxRecDepth 20000 in
set_option maxHeartbeats 4000000 in
theorem opV_spec (c : Cf) (ao : Option Addr) (N cap : Nat) (xs : List Int) (n : Int) (W : World) (hn : xs.length = N) (h : Reads W ao xs) :
    Calls Try.prog 25 #[.agg #[.int .i64 c.r, .int .i64 c.s, .int .i64 c.b, .int .i64 c.m, .int .i64 c.q, .int .i64 c.c, .int .i64 c.w], .slice ao N cap, .int .i64 n] W fun e w' => e = .returned (.int .i64 (opV c xs n)) ∧ Fr W w' := by
  have cA := fun u => cfOk_spec c u
  have cD := fun u (k : Fr W u) => dwOk_spec ao N cap xs u hn (h.fr k)
  have cW := fun u => l1In_any n 0 300 u
  have cN : Hid (∀ u (i : Nat), Fr W u → (cfB c && dwB xs) = true → i ≤ 300 → Calls Try.prog 24 #[.agg #[.int .i64 c.r, .int .i64 c.s, .int .i64 c.b, .int .i64 c.m, .int .i64 c.q, .int .i64 c.c, .int .i64 c.w], .slice ao N cap, .int .i64 (i : Int)] u fun e w' => e = .returned (.bool (opB c xs (i : Int))) ∧ Fr u w') := fun u i k hs h0 => by
    rw [← opAtB_yes (by omega) hs]
    exact opAt_spec c ao N cap xs (i : Int) u hn (h.fr k) (by omega)
  have kb := CfAt.new W c 25
  have f := Fr.alloc W (.cells #[.int .i64 c.r, .int .i64 c.s, .int .i64 c.b, .int .i64 c.m, .int .i64 c.q, .int .i64 c.c, .int .i64 c.w] 25)
  have hno := fun hq => opV_no (c := c) (xs := xs) (n := n) hq
  have hyes := fun h0 hq => opV_yes (c := c) (xs := xs) (n := n) h0 hq
  have HZ : Hid (∀ k : Nat, opN c xs (k + 1) = opN c xs k + if opB c xs (k : Int) then 1 else 0) := fun k => rfl
  have HZ0 : Hid (opN c xs 0 = 0) := rfl
  have HZB : Hid (∀ k : Nat, 0 ≤ opN c xs k ∧ opN c xs k ≤ k) := fun k => opN_in c xs k
  clear h
  unfold stB at hno hyes
  obtain ⟨r, s, b, m, q, c, w⟩ := c
  generalize opV ⟨r, s, b, m, q, c, w⟩ xs n = G at hno hyes ⊢
  generalize opN ⟨r, s, b, m, q, c, w⟩ xs = Z at HZ HZ0 HZB hyes
  generalize opB ⟨r, s, b, m, q, c, w⟩ xs = B at cN HZ
  generalize cfB ⟨r, s, b, m, q, c, w⟩ = A at cA hno hyes cN
  generalize dwB xs = D at cD hno hyes cN
  generalize hI : inB 0 300 n = I at cW hno hyes
  simp only at cA cD cN f kb ⊢
  have HQ : Hid (∀ u, Fr (W.alloc (.cells #[.int .i64 r, .int .i64 s, .int .i64 b, .int .i64 m, .int .i64 q, .int .i64 c, .int .i64 w] 25)) u → CfAt u W.heap.size 0 ⟨r, s, b, m, q, c, w⟩) := fun u k => kb.fr k
  clear kb
  cases A
  · have e : G = -1 := hno (.inl rfl)
    subst e
    clear hno hyes cN cD
    go_enter Try.func25, Try.ntmps25
    go_wp2_with fail
    refine (cA _).mono ?_
    rintro e u1 ⟨rfl, f1⟩
    go_wp2_with fail
    go_ret
    exact ⟨rfl, f.trans f1⟩
  cases D
  · have e : G = -1 := hno (.inl rfl)
    subst e
    clear hno hyes cN
    go_enter Try.func25, Try.ntmps25
    go_wp2_with fail
    refine (cA _).mono ?_
    rintro e u1 ⟨rfl, f1⟩
    go_wp2_with fail
    refine (cD _ (f.trans f1)).mono ?_
    rintro e u2 ⟨rfl, rfl⟩
    go_wp2_with fail
    go_ret
    exact ⟨rfl, f.trans f1⟩
  cases I
  · have e : G = -1 := hno (.inr rfl)
    subst e
    clear hno hyes cN
    go_enter Try.func25, Try.ntmps25
    go_wp2_with fail
    refine (cA _).mono ?_
    rintro e u1 ⟨rfl, f1⟩
    go_wp2_with fail
    refine (cD _ (f.trans f1)).mono ?_
    rintro e u2 ⟨rfl, rfl⟩
    go_wp2_with fail
    refine (cW _).mono ?_
    rintro e u3 ⟨rfl, rfl⟩
    go_wp2_with fail
    go_ret
    exact ⟨rfl, f.trans f1⟩
  have hI := inB_true hI
  obtain ⟨K, rfl⟩ : ∃ K : Nat, n = (K : Int) := ⟨n.toNat, by omega⟩
  have hK : K ≤ 300 := by omega
  have HN := fun u i k hi => cN.out u i k rfl hi
  have e : G = Z K := by have := hyes rfl rfl; rwa [Int.toNat_natCast] at this
  subst e
  clear hno hyes hI cN
  go_enter Try.func25, Try.ntmps25
  go_wp2_with fail
  refine (cA _).mono ?_
  rintro e u1 ⟨rfl, f1⟩
  have F1 := f.trans f1
  go_wp2_with fail
  refine (cD _ F1).mono ?_
  rintro e u2 ⟨rfl, rfl⟩
  go_wp2_with fail
  refine (cW _).mono ?_
  rintro e V ⟨rfl, rfl⟩
  have HQ : Hid (∀ u, Fr V u → CfAt u W.heap.size 0 ⟨r, s, b, m, q, c, w⟩) := fun u k => HQ.out u (f1.trans k)
  clear cA cD cW f f1
  go_wp2_with fail
  go_loopw [7, 8] (fun o i wr => ∃ k : Nat, k ≤ K ∧ o = .int .i64 (Z k) ∧ i = .int .i64 k ∧ Fr V wr) (fun _ i _ => K - (intOf i).toNat)
  case atStart => exact ⟨0, Nat.zero_le _, by rw [HZ0.out], rfl, Fr.refl _⟩
  case round =>
    obtain ⟨k, hk, rfl, rfl, hF⟩ := hrel
    by_cases hlt : k < K
    · obtain ⟨k0, k1, k2, k3, k4, k5, k6⟩ := HQ.out _ hF
      simp only [Nat.zero_add] at k0 k1 k2 k3 k4 k5 k6
      have cO := HN wr k (F1.trans hF) (by omega)
      have hz := HZ.out k
      have hb := HZB.out k
      obtain ⟨z, ez⟩ : ∃ z, z = Z k := ⟨_, rfl⟩
      rw [← ez] at hz hb ⊢
      clear ez
      cases hB : B (k : Int)
      · rw [hB] at cO hz
        have hz : Z (k + 1) = z := by simpa using hz
        have HE : Hid (Z (k + 1) = z) := hz
        clear hz hB
        go_wp2_with fail
        refine cO.mono ?_
        rintro e x ⟨rfl, fx⟩
        go_wp2_with fail
        go_roundw
        case rel => exact ⟨k + 1, by omega, by rw [HE.out], by go_num, hF.trans fx⟩
        case measure => simp [intOf]; omega
      · rw [hB] at cO hz
        have hz : Z (k + 1) = z + 1 := by simpa using hz
        have HE : Hid (Z (k + 1) = z + 1) := hz
        clear hz hB
        go_wp2_with fail
        refine cO.mono ?_
        rintro e x ⟨rfl, fx⟩
        go_wp2_with fail
        go_roundw
        case rel => exact ⟨k + 1, by omega, by rw [HE.out], by go_num, hF.trans fx⟩
        case measure => simp [intOf]; omega
    · have e : k = K := by omega
      subst e
      go_wp2
      go_ret
      exact ⟨rfl, F1.trans hF⟩
end Go.Proofs.Ytpmloeneffolpaa
