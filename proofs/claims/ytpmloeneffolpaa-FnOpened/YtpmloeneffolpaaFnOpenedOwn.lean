/-
  The law FnOpened answers true at every code (no condition), and leaves it as it was.
-/
import Derived.Test.YtpmloeneffolpaaRows
import Derived.Test.YtpmloeneffolpaaLks
import Derived.Test.YtpmloeneffolpaaPrd4
import Derived.Test.YtpmloeneffolpaaGrown
import Derived.BigQuiet
import Derived.WalkKit
import Derived.ProofKit
import Derived.OpenShut
import Derived.LaidMore
import Derived.Stop.Joined
import Derived.OpenVars
namespace Go.Proofs.Ytpmloeneffolpaa.fnOpened
open Go.ChangeShapes Go.WideShapes Go.ChangeAt Go.RowKit
set_option linter.unusedVariables false

def IsRow (k : IntKind) (w : World) (a : Option Addr) (len cap : Nat) (zs : List Int) : Prop :=
  (a = none ∧ len = 0 ∧ cap = 0 ∧ zs = []) ∨
  ∃ x, a = some x ∧ len ≤ cap ∧ cap ≤ maxLen ∧ zs.length = cap ∧ (∀ i, i < zs.length → w.cell? (x.add i) = some (.int k (zs.getD i 0))) ∧ ∀ n ∈ zs, (Lit.int k n).wf = true

def onK (c : Cf) (xs : List Int) (n : Int) : Nat → Int
  | 0 => 0
  | k + 1 => onK c xs n k + if ((k : Int) * c.s < n ∧ xs.getD k 0 < c.r) then 1 else 0
theorem onK_in (c : Cf) (xs : List Int) (n : Int) (k : Nat) : 0 ≤ onK c xs n k ∧ onK c xs n k ≤ k := by
  induction k with
  | zero => simp [onK]
  | succ k ih => unfold onK; split <;> omega
theorem onK_zero {c : Cf} {xs : List Int} (hs : 1 ≤ c.s) (k : Nat) : onK c xs 0 k = 0 := by
  induction k with
  | zero => rfl
  | succ k ih =>
    have := Int.mul_nonneg (show 0 ≤ (k : Int) by omega) (show 0 ≤ c.s by omega)
    unfold onK
    rw [ih, if_neg (by omega)]
    rfl
theorem onK_step {c : Cf} {xs : List Int} (hs : 1 ≤ c.s) (n k : Nat) :
    onK c xs ((n + 1 : Nat) : Int) k = onK c xs (n : Int) k + if ((n : Int) % c.s = 0 ∧ (n : Int) / c.s < k ∧ xs.getD ((n : Int) / c.s).toNat 0 < c.r) then 1 else 0 := by
  induction k with
  | zero =>
    have := Int.ediv_nonneg (show 0 ≤ (n : Int) by omega) (show 0 ≤ c.s by omega)
    rw [if_neg (by omega)]
    rfl
  | succ k ih =>
    unfold onK
    rw [ih]
    by_cases he : (k : Int) * c.s = n
    · have e1 : (n : Int) % c.s = 0 := by rw [← he]; exact Int.mul_emod_left _ _
      have e2 : (n : Int) / c.s = k := by rw [← he]; exact Int.mul_ediv_cancel _ (by omega)
      rw [e1, e2, Int.toNat_natCast, he]
      have h1 : ¬ ((0 : Int) = 0 ∧ (k : Int) < (k : Int) ∧ xs.getD k 0 < c.r) := by omega
      have h3 : ¬ ((n : Int) < (n : Int) ∧ xs.getD k 0 < c.r) := by omega
      rw [if_neg h1, if_neg h3]
      by_cases hx : xs.getD k 0 < c.r
      · have h2 : ((n : Int) < ((n + 1 : Nat) : Int) ∧ xs.getD k 0 < c.r) := ⟨by omega, hx⟩
        have h4 : ((0 : Int) = 0 ∧ (k : Int) < ((k + 1 : Nat) : Int) ∧ xs.getD k 0 < c.r) := ⟨rfl, by omega, hx⟩
        rw [if_pos h2, if_pos h4]
      · have h2 : ¬ ((n : Int) < ((n + 1 : Nat) : Int) ∧ xs.getD k 0 < c.r) := fun q => hx q.2
        have h4 : ¬ ((0 : Int) = 0 ∧ (k : Int) < ((k + 1 : Nat) : Int) ∧ xs.getD k 0 < c.r) := fun q => hx q.2.2
        rw [if_neg h2, if_neg h4]
    · have e3 : ((k : Int) * c.s < ((n + 1 : Nat) : Int)) ↔ ((k : Int) * c.s < (n : Int)) := by omega
      have e4 : (n : Int) % c.s = 0 → (n : Int) / c.s ≠ (k : Int) := fun h1 h2 => by
        have := Int.mul_ediv_add_emod (n : Int) c.s
        rw [h1, h2, Int.mul_comm] at this
        omega
      have e5 : ((n : Int) % c.s = 0 ∧ (n : Int) / c.s < ((k + 1 : Nat) : Int) ∧ xs.getD ((n : Int) / c.s).toNat 0 < c.r) ↔ ((n : Int) % c.s = 0 ∧ (n : Int) / c.s < (k : Int) ∧ xs.getD ((n : Int) / c.s).toNat 0 < c.r) := by
        constructor
        · rintro ⟨h1, h2, h3⟩
          have := e4 h1
          exact ⟨h1, by omega, h3⟩
        · rintro ⟨h1, h2, h3⟩
          exact ⟨h1, by omega, h3⟩
      simp only [e3, e5]
      omega
theorem opN_onK {c : Cf} {xs : List Int} (hs : 1 ≤ c.s) (n : Nat) : opN c xs n = onK c xs (n : Int) xs.length := by
  induction n with
  | zero => exact (onK_zero hs _).symm
  | succ n ih =>
    rw [onK_step hs, ← ih]
    show opN c xs n + (if opB c xs (n : Int) then 1 else 0) = _
    congr 1
    have : opB c xs (n : Int) = decide ((n : Int) % c.s = 0 ∧ (n : Int) / c.s < xs.length ∧ xs.getD ((n : Int) / c.s).toNat 0 < c.r) := by
      simp only [opB, onB, Bool.decide_and]
      rw [Bool.and_comm]
    rw [this]
    simp only [decide_eq_true_eq]
theorem op_at {c : Cf} {xs : List Int} (hs : 1 ≤ c.s) {k : Nat} (hk : k < xs.length) : opB c xs ((k : Int) * c.s) = decide (xs.getD k 0 < c.r) := by
  have e2 : (k : Int) * c.s / c.s = k := Int.mul_ediv_cancel _ (by omega)
  have e1 : (k : Int) * c.s % c.s = 0 := Int.mul_emod_left _ _
  have e3 : decide ((k : Int) < xs.length) = true := decide_eq_true (by omega)
  simp only [opB, onB, e1, e2, e3, Int.toNat_natCast]
  simp
theorem op_next {c : Cf} {xs : List Int} {k : Nat} (hs : 1 < c.s) : opB c xs ((k : Int) * c.s + 1) = false := by
  have e1 : ((k : Int) * c.s + 1) % c.s = 1 := by
    rw [Int.add_comm, Int.add_mul_emod_self_right]
    exact Int.emod_eq_of_lt (by omega) hs
  simp [opB, e1]

set_option maxHeartbeats 4000000 in
set_option maxRecDepth 20000 in
theorem walk (a0 : Option Addr) (len0 cap0 : Nat) (z0 : List Int) (w : World) (w0 : IsRow .u8 w a0 len0 cap0 z0)  :
    Calls Try.prog 4 #[.slice a0 len0 cap0] w fun e w' => e = .returned (.bool true) ∧ Below w.heap.size w w' := by
  have hcap : len0 ≤ 9223372036854775807 := by
    rcases w0 with ⟨_, e, _⟩ | ⟨x, _, h1, h2, _⟩
    · omega
    · unfold maxLen at h2; omega
  by_cases hbig : (4096 : Int) < (len0 : Int)
  · have hd : decide ((4096 : Int) < (len0 : Int)) = true := decide_eq_true hbig
    go_enter Try.func4, Try.ntmps4
    go_wp2_with fail
    refine (big_any _ _ _ _ hcap).mono ?_
    rintro e u1 ⟨rfl, rfl⟩
    go_wp2_with fail
    go_ret
    exact ⟨rfl, Below.refl _ _⟩
  · have hd : decide ((4096 : Int) < (len0 : Int)) = false := decide_eq_false hbig
    have hr := bytes_of_row w0
    have hl : len0 ≤ 4096 := by omega
    clear hbig
    go_enter Try.func4, Try.ntmps4
    go_wp2_with fail
    refine (big_any _ _ _ _ hcap).mono ?_
    rintro e u1 ⟨rfl, rfl⟩
    clear w0 hd hcap
    go_wp2_with fail
    refine (roll_any _ _ _ _ _ hr (by omega)).mono ?_
    rintro e u2 ⟨d, hh, rfl, D2, hd2, f2⟩
    have X2 := roll_dx hr D2 hd2 f2
    have hbq := bytes_below hr
    have hz2 := f2.size
    have hdz := D2.lt
    have hb2 : 0 < len0 → ∀ q, blk a0 = some q → q < u2.heap.size := fun q p hp => by have := hbq q p hp; omega
    go_wp2_with fail
    refine (looks_any X2 (by omega) (by omega) hb2).mono ?_
    rintro e u3 ⟨c, v, xs, rfl, hL, o3, D3⟩
    clear X2 D2 hr hbq
    obtain ⟨g, cv, rfl, o3⟩ := o3
    have hg3 := (o3.1.lt g rfl).1
    have F3 := f2.then D3.g (fun j hj => by simp only [Option.some.injEq] at hj; omega)
    have hrd := o3.reads
    have hok := hL.ok
    have hdw := hL.dw
    have hlen := hL.len
    have hS := hL.fs
    have hsN : 1 ≤ c.s := hS.1
    have hN := fun n => opN_onK (xs := xs) hsN n
    have hO := fun (k : Nat) hk => op_at (xs := xs) hsN (k := k) hk
    have hO2 := fun (k : Nat) h1 => op_next (xs := xs) (c := c) (k := k) h1
    have HK : Hid (∀ n (k : Nat), onK c xs n (k + 1) = onK c xs n k + if ((k : Int) * c.s < n ∧ xs.getD k 0 < c.r) then 1 else 0) := fun n k => rfl
    have HKB : Hid (∀ n (k : Nat), 0 ≤ onK c xs n k ∧ onK c xs n k ≤ k) := fun n k => onK_in c xs n k
    have HK0 : Hid (∀ n, onK c xs n 0 = 0) := fun n => rfl
    have hst : stB c xs = true := by simp [stB, hok, hdw]
    have cA := fun n u (f : Fr u3 u) (hI : n ≤ 9223372036854775807) => opAt_impl c (some ⟨g, 0, none⟩) xs.length cv xs n u rfl (hrd.fr f) hI
    have cV := fun n u (f : Fr u3 u) => opV_impl c (some ⟨g, 0, none⟩) xs.length cv xs n u rfl (hrd.fr f)
    have HV : Hid (∀ n : Nat, n ≤ 300 → opV c xs (n : Int) = onK c xs (n : Int) xs.length) := fun n hn => by
      rw [opV_yes hst (inB_mk (by omega) (by omega)), Int.toNat_natCast, hN]
    have HV1 : Hid (opV c xs (-1) = -1) := opV_no (.inr rfl)
    have HA : Hid (∀ k : Nat, k < xs.length → opAtB c xs ((k : Int) * c.s) = decide (xs.getD k 0 < c.r)) := fun k hk => by
      rw [opAtB_yes (Int.mul_nonneg (by omega) (by omega)) hst]; exact hO k hk
    have HA2 : Hid (∀ k : Nat, 1 < c.s → opAtB c xs ((k : Int) * c.s + 1) = false) := fun k h1 => by
      have := Int.mul_nonneg (show 0 ≤ (k : Int) by omega) (show 0 ≤ c.s by omega)
      rw [opAtB_yes (by omega) hst]; exact hO2 k h1
    have hR := hL.fr
    clear hok hdw hst hN hO hO2 hL hsN
    obtain ⟨r, s, b, m, q, cc, k⟩ := c
    simp only at hR hS
    subst hR
    simp only at HK HA HA2 cA cV
    have fA := Fr.alloc u3 (.cells #[.int .i64 500000, .int .i64 s, .int .i64 b, .int .i64 m, .int .i64 q, .int .i64 cc, .int .i64 k] 25)
    have K3 : CfZ (u3.alloc (.cells #[.int .i64 500000, .int .i64 s, .int .i64 b, .int .i64 m, .int .i64 q, .int .i64 cc, .int .i64 k] 25)) u3.heap.size #[.int .i64 500000, .int .i64 s, .int .i64 b, .int .i64 m, .int .i64 q, .int .i64 cc, .int .i64 k] := heap_alloc_new u3 _
    have hz3 := D3.g.size
    go_wp2_with fail
    refine (belowX (D3.fr fA) (by omega) 300 (by omega) (by omega)).mono ?_
    rintro e u5 ⟨n, rfl, n0, n1, g5, -⟩
    clear D3
    obtain ⟨N, rfl⟩ : ∃ N : Nat, n = (N : Int) := ⟨n.toNat, by omega⟩
    have hN3 : N < 300 := by omega
    have F5 := (F3.trans fA).then g5 (fun j hj => by simp only [Option.some.injEq] at hj; omega)
    have kE := K3.keep g5 (by simp only [ne_eq, Option.some.injEq]; omega)
    have hrd5 := (hrd.fr fA).keep g5 (.inr (by simp only [blk, Option.map_some, ne_eq, Option.some.injEq]; omega))
    have hz5 := g5.size
    have G5 : Hid (∀ u, Fr u5 u → True) := fun _ _ => trivial
    replace cA := fun n u (f : Fr u5 u) (hI : n ≤ 9223372036854775807) => opAt_impl ⟨500000, s, b, m, q, cc, k⟩ (some ⟨g, 0, none⟩) xs.length cv xs n u rfl (hrd5.fr f) hI
    replace cV := fun n u (f : Fr u5 u) => opV_impl ⟨500000, s, b, m, q, cc, k⟩ (some ⟨g, 0, none⟩) xs.length cv xs n u rfl (hrd5.fr f)
    have HQ : Hid (∀ u, Fr u5 u → CfAt u u3.heap.size 0 ⟨500000, s, b, m, q, cc, k⟩) := fun u f => (kE.fr f).at
    have HR : Hid (∀ u, Fr u5 u → Reads u (some ⟨g, 0, none⟩) xs) := fun u f => hrd5.fr f
    obtain ⟨E, hE⟩ : ∃ E, E = u3.heap.size := ⟨_, rfl⟩
    simp only at cA cV HV HV1
    rw [← hE] at HQ ⊢
    clear hrd hrd5 kE K3 g5 fA G5 hE F3 hz3 hz5 o3 hg3 hb2 hz2 hdz hd2 f2
    have HZ : Hid (∀ p : Nat, onK ⟨500000, s, b, m, q, cc, k⟩ xs (N : Int) (p + 1) = onK ⟨500000, s, b, m, q, cc, k⟩ xs (N : Int) p + if ((p : Int) * s < (N : Int) ∧ xs.getD p 0 < 500000) then 1 else 0) := fun p => HK.out (N : Int) p
    have HZB : Hid (∀ p : Nat, 0 ≤ onK ⟨500000, s, b, m, q, cc, k⟩ xs (N : Int) p ∧ onK ⟨500000, s, b, m, q, cc, k⟩ xs (N : Int) p ≤ p) := fun p => HKB.out (N : Int) p
    have HZ0 : Hid (onK ⟨500000, s, b, m, q, cc, k⟩ xs (N : Int) 0 = 0) := HK0.out (N : Int)
    have HVN : Hid (opV ⟨500000, s, b, m, q, cc, k⟩ xs (N : Int) = onK ⟨500000, s, b, m, q, cc, k⟩ xs (N : Int) xs.length) := HV.out N (by omega)
    clear HK HKB HK0 HV
    generalize onK ⟨500000, s, b, m, q, cc, k⟩ xs (N : Int) = Z at HZ HZB HZ0 HVN
    go_wp2_with fail
    go_loopw [7, 8] (fun o i wr => ∃ p : Nat, p ≤ xs.length ∧ o = .int .i64 (Z p) ∧ i = .int .i64 p ∧ Fr u5 wr) (fun _ i _ => xs.length - (intOf i).toNat)
    case atStart => exact ⟨0, Nat.zero_le _, by rw [HZ0.out], rfl, Fr.refl _⟩
    case round =>
      obtain ⟨p, hp, rfl, rfl, hF⟩ := hrel
      by_cases hlt : p < xs.length
      · obtain ⟨k0, k1, k2, k3, k4, k5, k6⟩ := HQ.out _ hF
        simp only [Nat.zero_add] at k0 k1 k2 k3 k4 k5 k6
        obtain ⟨b', off, e, hc⟩ := (HR.out _ hF).at_ p hlt
        cases e
        have hck := hc p hlt
        simp only [Nat.zero_add] at hck
        clear hc
        have hz1 := HZ.out p
        have hzb := HZB.out p
        have hA := HA.out p hlt
        have hA2 := HA2.out p
        obtain ⟨z, ez⟩ : ∃ z, z = xs.getD p 0 := ⟨_, rfl⟩
        obtain ⟨o, eo⟩ : ∃ o, o = Z p := ⟨_, rfl⟩
        have hM0 : 0 ≤ (p : Int) * s := Int.mul_nonneg (by omega) (by omega)
        have hM1 : (p : Int) * s ≤ 29 * 9 := Int.mul_le_mul (by omega) (by omega) (by omega) (by omega)
        obtain ⟨M, eM⟩ : ∃ M, M = (p : Int) * s := ⟨_, rfl⟩
        have hw : wrap64 ((p : Int) * s) = M := by rw [← eM, IntWalk.wrap64_in _ ⟨by omega, by omega⟩]
        have hw2 : IntKind.i64.wrap ((p : Int) * s) = M := by rw [IntKind.wrap_i64, ← eM]; omega
        rw [← ez] at hck hz1 hA
        rw [← eo] at hz1 hzb ⊢
        rw [← eM] at hz1 hA hA2 hM0 hM1
        have c1 := fun (a : Nat) (σ : Later (wr.drewN a)) => cA M σ.u (hF.trans ((Fr.drewN wr a).trans σ.fr)) (by omega)
        have c2 := fun (a : Nat) (σ : Later (wr.drewN a)) => cA (M + 1) σ.u (hF.trans ((Fr.drewN wr a).trans σ.fr)) (by omega)
        rw [hA] at c1
        generalize opAtB ⟨500000, s, b, m, q, cc, k⟩ xs (M + 1) = B2 at c2 hA2
        have d0 : ∀ (a : Nat) (σ : Later (wr.drewN a)), σ.u.cell? ⟨E, 0, none⟩ = some (.int .i64 500000) := fun a σ => ((Fr.drewN wr a).trans σ.fr).cell k0
        have d1 : ∀ (a : Nat) (σ : Later (wr.drewN a)), σ.u.cell? ⟨E, 1, none⟩ = some (.int .i64 s) := fun a σ => ((Fr.drewN wr a).trans σ.fr).cell k1
        have d2 : ∀ (a : Nat) (σ : Later (wr.drewN a)), σ.u.cell? ⟨E, 2, none⟩ = some (.int .i64 b) := fun a σ => ((Fr.drewN wr a).trans σ.fr).cell k2
        have d3 : ∀ (a : Nat) (σ : Later (wr.drewN a)), σ.u.cell? ⟨E, 3, none⟩ = some (.int .i64 m) := fun a σ => ((Fr.drewN wr a).trans σ.fr).cell k3
        have d4 : ∀ (a : Nat) (σ : Later (wr.drewN a)), σ.u.cell? ⟨E, 4, none⟩ = some (.int .i64 q) := fun a σ => ((Fr.drewN wr a).trans σ.fr).cell k4
        have d5 : ∀ (a : Nat) (σ : Later (wr.drewN a)), σ.u.cell? ⟨E, 5, none⟩ = some (.int .i64 cc) := fun a σ => ((Fr.drewN wr a).trans σ.fr).cell k5
        have d6 : ∀ (a : Nat) (σ : Later (wr.drewN a)), σ.u.cell? ⟨E, 6, none⟩ = some (.int .i64 k) := fun a σ => ((Fr.drewN wr a).trans σ.fr).cell k6
        have d7 : ∀ (a : Nat) (σ : Later (wr.drewN a)), σ.u.cell? ⟨g, p, none⟩ = some (.int .i64 z) := fun a σ => ((Fr.drewN wr a).trans σ.fr).cell hck
        have hne : ∀ a : Nat, Nonempty (Later (wr.drewN a)) := fun a => Later.some _
        have HZ1 : Hid (Z (p + 1) = o + if (M < (N : Int) ∧ z < 500000) then 1 else 0) := hz1
        have HF : Hid (Fr u5 wr) := hF
        clear hz1 hA ez eo eM hF
        by_cases hq : M < (N : Int)
        · have dq : decide (M < (N : Int)) = true := decide_eq_true hq
          by_cases hz : z < 500000
          · have dz : decide (z < 500000) = true := decide_eq_true hz
            rw [dz] at c1
            have HE : Hid (Z (p + 1) = o + 1) := by
              show Z (p + 1) = _
              rw [HZ1.out, if_pos ⟨hq, hz⟩]
            clear HZ1
            go_wp2_with fail
            go_quiet (fail)
            go_wp2_with fail
            refine wp_region_grown (by kernel_rfl) (by kernel_rfl) ?_
            cases B2
            · repeat (go_big_quiet_step (first | with_reducible exact Calls.grown_of (c1 _ _) | with_reducible exact Calls.grown_of (c2 _ _)))
              refine wpQuiet_nil ?_
              rintro _ ⟨σ, rfl⟩
              have fσ := (Fr.drewN wr _).trans σ.fr
              go_wp2_with fail
              go_roundw
              case rel => exact ⟨p + 1, by omega, by rw [HE.out], by go_num, HF.out.trans fσ⟩
              case measure => simp [intOf]; omega
            · have ds : decide (1 < s) = false := decide_eq_false (fun h => by cases hA2 h)
              repeat (go_big_quiet_step (first | with_reducible exact Calls.grown_of (c1 _ _) | with_reducible exact Calls.grown_of (c2 _ _)))
              refine wpQuiet_nil ?_
              rintro _ ⟨σ, rfl⟩
              have fσ := (Fr.drewN wr _).trans σ.fr
              go_wp2_with fail
              go_roundw
              case rel => exact ⟨p + 1, by omega, by rw [HE.out], by go_num, HF.out.trans fσ⟩
              case measure => simp [intOf]; omega
          · have dz : decide (z < 500000) = false := decide_eq_false hz
            rw [dz] at c1
            have HE : Hid (Z (p + 1) = o) := by
              show Z (p + 1) = _
              rw [HZ1.out, if_neg (fun h => hz h.2)]
              omega
            clear HZ1
            go_wp2_with fail
            go_quiet (fail)
            go_wp2_with fail
            refine wp_region_grown (by kernel_rfl) (by kernel_rfl) ?_
            cases B2
            · repeat (go_big_quiet_step (first | with_reducible exact Calls.grown_of (c1 _ _) | with_reducible exact Calls.grown_of (c2 _ _)))
              refine wpQuiet_nil ?_
              rintro _ ⟨σ, rfl⟩
              have fσ := (Fr.drewN wr _).trans σ.fr
              go_wp2_with fail
              go_roundw
              case rel => exact ⟨p + 1, by omega, by rw [HE.out], by go_num, HF.out.trans fσ⟩
              case measure => simp [intOf]; omega
            · have ds : decide (1 < s) = false := decide_eq_false (fun h => by cases hA2 h)
              repeat (go_big_quiet_step (first | with_reducible exact Calls.grown_of (c1 _ _) | with_reducible exact Calls.grown_of (c2 _ _)))
              refine wpQuiet_nil ?_
              rintro _ ⟨σ, rfl⟩
              have fσ := (Fr.drewN wr _).trans σ.fr
              go_wp2_with fail
              go_roundw
              case rel => exact ⟨p + 1, by omega, by rw [HE.out], by go_num, HF.out.trans fσ⟩
              case measure => simp [intOf]; omega
        · have dq : decide (M < (N : Int)) = false := decide_eq_false hq
          by_cases hz : z < 500000
          · have dz : decide (z < 500000) = true := decide_eq_true hz
            rw [dz] at c1
            have HE : Hid (Z (p + 1) = o) := by
              show Z (p + 1) = _
              rw [HZ1.out, if_neg (fun h => hq h.1)]
              omega
            clear HZ1
            go_wp2_with fail
            go_quiet (fail)
            go_wp2_with fail
            refine wp_region_grown (by kernel_rfl) (by kernel_rfl) ?_
            cases B2
            · repeat (go_big_quiet_step (first | with_reducible exact Calls.grown_of (c1 _ _) | with_reducible exact Calls.grown_of (c2 _ _)))
              refine wpQuiet_nil ?_
              rintro _ ⟨σ, rfl⟩
              have fσ := (Fr.drewN wr _).trans σ.fr
              go_wp2_with fail
              go_roundw
              case rel => exact ⟨p + 1, by omega, by rw [HE.out], by go_num, HF.out.trans fσ⟩
              case measure => simp [intOf]; omega
            · have ds : decide (1 < s) = false := decide_eq_false (fun h => by cases hA2 h)
              repeat (go_big_quiet_step (first | with_reducible exact Calls.grown_of (c1 _ _) | with_reducible exact Calls.grown_of (c2 _ _)))
              refine wpQuiet_nil ?_
              rintro _ ⟨σ, rfl⟩
              have fσ := (Fr.drewN wr _).trans σ.fr
              go_wp2_with fail
              go_roundw
              case rel => exact ⟨p + 1, by omega, by rw [HE.out], by go_num, HF.out.trans fσ⟩
              case measure => simp [intOf]; omega
          · have dz : decide (z < 500000) = false := decide_eq_false hz
            rw [dz] at c1
            have HE : Hid (Z (p + 1) = o) := by
              show Z (p + 1) = _
              rw [HZ1.out, if_neg (fun h => hq h.1)]
              omega
            clear HZ1
            go_wp2_with fail
            go_quiet (fail)
            go_wp2_with fail
            refine wp_region_grown (by kernel_rfl) (by kernel_rfl) ?_
            cases B2
            · repeat (go_big_quiet_step (first | with_reducible exact Calls.grown_of (c1 _ _) | with_reducible exact Calls.grown_of (c2 _ _)))
              refine wpQuiet_nil ?_
              rintro _ ⟨σ, rfl⟩
              have fσ := (Fr.drewN wr _).trans σ.fr
              go_wp2_with fail
              go_roundw
              case rel => exact ⟨p + 1, by omega, by rw [HE.out], by go_num, HF.out.trans fσ⟩
              case measure => simp [intOf]; omega
            · have ds : decide (1 < s) = false := decide_eq_false (fun h => by cases hA2 h)
              repeat (go_big_quiet_step (first | with_reducible exact Calls.grown_of (c1 _ _) | with_reducible exact Calls.grown_of (c2 _ _)))
              refine wpQuiet_nil ?_
              rintro _ ⟨σ, rfl⟩
              have fσ := (Fr.drewN wr _).trans σ.fr
              go_wp2_with fail
              go_roundw
              case rel => exact ⟨p + 1, by omega, by rw [HE.out], by go_num, HF.out.trans fσ⟩
              case measure => simp [intOf]; omega
      · obtain rfl : p = xs.length := by omega
        obtain ⟨k0, k1, k2, k3, k4, k5, k6⟩ := HQ.out _ hF
        simp only [Nat.zero_add] at k0 k1 k2 k3 k4 k5 k6
        have c1 := cV (N : Int) wr hF
        rw [HVN.out] at c1
        have F5' := F5.trans hF
        have HF : Hid (Fr u5 wr) := hF
        have HQ2 := fun u (f : Fr wr u) => HQ.out u (hF.trans f)
        have c2 := fun u (f : Fr wr u) => cV (-1) u (hF.trans f)
        simp only [HV1.out] at c2
        generalize Z xs.length = o at c1 ⊢
        clear hF
        go_wp2_with fail
        refine c1.mono ?_
        rintro e x1 ⟨rfl, f1⟩
        clear k0 k1 k2 k3 k4 k5 k6
        obtain ⟨k0, k1, k2, k3, k4, k5, k6⟩ := HQ2 _ f1
        simp only [Nat.zero_add] at k0 k1 k2 k3 k4 k5 k6
        go_wp2_with fail
        refine (c2 _ f1).mono ?_
        rintro e x2 ⟨rfl, f2⟩
        go_wp2_with fail
        go_ret
        exact ⟨rfl, ((F5'.trans f1).trans f2).below⟩

theorem own : ownKnob Try.prog.godebug = none := by kernel_rfl
theorem laidOut : laidOutB Try.prog = true := by kernel_rfl

set_option maxRecDepth 100000 in
theorem lifted (os : Os) (started : os.Started) (H : Type) (enc : TypeId × Value → H) :
    ReturnsInHanded {} Try.checked os 4 .any (Rows.fnOpenedSpec.pre6 enc Try.prog Try.f4 Rows.fnOpenedRow.domain false) (Rows.fnOpenedSpec.post enc Try.prog Try.f4 false true false false) := by
  refine returnsInHanded_of_change (C := Try.checked) own started (by kernel_rfl) Try.func4
    (ChangeSpec.witness6 (enc := enc) (C := Try.checked) false ⟨#[], #[.slice none 0 0], []⟩ 8 (by kernel_rfl) (by kernel_rfl) (by kernel_rfl) (by kernel_rfl)) ?_
  intro W base args ds gs before hval0 hW hcnd _
  have hval : ∀ (j : Nat) t v, Try.f4.params[j]? = some t → args[j]? = some v → Value.okWide Try.prog W .any base t v := hval0
  have hW' := hW
  obtain ⟨p, q, hA0, hV, rfl, hfz, hnd⟩ := hW
  have hA : DataW.TrodAll enc Try.prog W 0 (fun _ => true) true Try.f4.params.toList args.toList ds p := hA0
  rw [Try.params4] at hA hval
  obtain ⟨v0, vs0, d0, ds0, p0, q0, hargs, rfl, rfl, h0, r0⟩ := trodAll_cons hA
  obtain ⟨rfl, rfl, rfl⟩ := trodAll_nil r0
  obtain rfl : args = #[v0] := by cases args; simp_all
  have k0 := h0
  have lt0 : ∀ x ∈ p0, x.block < W.heap.size := by obtain ⟨m, hm⟩ := k0; exact DataW.trod_lt m _ _ _ hm
  obtain ⟨rfl, rfl⟩ := trodVars_none hV
  obtain ⟨a0, len0, cap0, rfl⟩ := okWide_slice Try.underlying22 (hval 0 22 v0 rfl rfl)
  obtain ⟨z0, w0⟩ : ∃ zs, IsRow .u8 W a0 len0 cap0 zs := by
    obtain ⟨fuel, hf⟩ := h0
    rcases open_ints Try.underlying22 Try.underlying5 (by kernel_rfl) hf with ⟨hcs, _⟩ | ⟨x, l, c, zs, hcs, _, hl, hm, hz, _, hcell, hwz⟩
    · simp [Value.cells] at hcs
      obtain ⟨rfl, rfl, rfl⟩ := hcs
      exact ⟨[], .inl ⟨rfl, rfl, rfl, rfl⟩⟩
    · simp [Value.cells] at hcs
      obtain ⟨rfl, rfl, rfl⟩ := hcs
      exact ⟨zs, .inr ⟨_, rfl, hl, hm, by simpa using hz, hcell, hwz⟩⟩
  clear hA0 hval0
  refine (walk a0 len0 cap0 z0 W w0).mono fun e W' ⟨he, bel⟩ => ?_
  subst he
  exact ⟨_, rfl, _, _, _, [], _, [], hW', trodAll_mk1 (shut_bool Try.underlying4 _), (trodAll_cons_mk (Below.trod laidOut (by kernel_rfl) (of_decide_eq_true (by kernel_rfl)) k0 bel lt0) trodAll_mk0), rfl, bel.frame _, fun h => by cases h⟩

theorem over : Rows.fnOpenedRow.holds Try.pinned (OpenSpec.ofChange Rows.fnOpenedSpec) :=
  OpenClaim.holds_of_wide 4 Try.f4 rfl rfl rfl rfl rfl rfl rfl ⟨rfl, rfl, rfl, rfl, rfl⟩ rfl rfl rfl rfl rfl (by kernel_rfl) Try.func4 (by kernel_rfl)
    (of_decide_eq_true (by kernel_rfl)) (by unfold Func.isWrapper; first | (rw [if_pos (by decide +kernel)]; kernel_rfl) | (rw [if_neg (by decide +kernel)]; exact ⟨rfl, rfl⟩))
    (fun os started H enc _ => lifted os started H enc)
end Go.Proofs.Ytpmloeneffolpaa.fnOpened
namespace Go.Proofs.Ytpmloeneffolpaa
theorem fnOpened_holds : Rows.FnOpenedSaid := fnOpened.over
end Go.Proofs.Ytpmloeneffolpaa
