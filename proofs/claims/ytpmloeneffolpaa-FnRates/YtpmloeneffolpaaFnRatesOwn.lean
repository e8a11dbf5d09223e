/-
  The law FnRates answers true at every code (no condition), and leaves it as it was.
-/
import Derived.Test.YtpmloeneffolpaaRows
import Derived.Test.YtpmloeneffolpaaDrw11
import Derived.Test.YtpmloeneffolpaaPrd5
import Derived.WalkKit
import Derived.ProofKit
import Derived.OpenShut
import Derived.LaidMore
import Derived.Stop.Joined
import Derived.OpenVars
namespace Go.Proofs.Ytpmloeneffolpaa.fnRates
open Go.ChangeShapes Go.WideShapes Go.ChangeAt Go.RowKit
set_option linter.unusedVariables false

def IsRow (k : IntKind) (w : World) (a : Option Addr) (len cap : Nat) (zs : List Int) : Prop :=
  (a = none ∧ len = 0 ∧ cap = 0 ∧ zs = []) ∨
  ∃ x, a = some x ∧ len ≤ cap ∧ cap ≤ maxLen ∧ zs.length = cap ∧ (∀ i, i < zs.length → w.cell? (x.add i) = some (.int k (zs.getD i 0))) ∧ ∀ n ∈ zs, (Lit.int k n).wf = true

theorem rates {c : Cf} {xs : List Int} {n : Int} (h1 : cfB c = true) (h2 : dwB xs = true) (h3 : 0 ≤ n) :
    onAtB ⟨1000000, c.s, c.b, c.m, c.q, c.c, c.w⟩ xs n = decide (n / c.s < (xs.length : Int)) ∧ onAtB ⟨0, c.s, c.b, c.m, c.q, c.c, c.w⟩ xs n = false ∧ cfB ⟨0, c.s, c.b, c.m, c.q, c.c, c.w⟩ = true ∧
    (onAtB c xs n = true → n / c.s < (xs.length : Int)) ∧ True := by
  have hi := cfB_in h1
  have ok : ∀ x : Int, 0 ≤ x → x ≤ 1000000 → cfB ⟨x, c.s, c.b, c.m, c.q, c.c, c.w⟩ = true := fun x x0 x1 => by
    simp only [cfB, Bool.and_eq_true]
    refine ⟨⟨⟨⟨⟨⟨inB_mk ?_ ?_, inB_mk ?_ ?_⟩, inB_mk ?_ ?_⟩, inB_mk ?_ ?_⟩, inB_mk ?_ ?_⟩, inB_mk ?_ ?_⟩, inB_mk ?_ ?_⟩ <;> omega
  have hq0 : 0 ≤ n / c.s := Int.ediv_nonneg h3 (by omega)
  refine ⟨?_, ?_, ok 0 (by omega) (by omega), ?_, trivial⟩
  · rw [onAtB_yes h3 (by simp [stB, ok 1000000 (by omega) (by omega), h2])]
    unfold onB
    simp only
    by_cases hp : n / c.s < (xs.length : Int)
    · have := dwB_at h2 (j := (n / c.s).toNat) (by omega)
      have e : decide (xs.getD (n / c.s).toNat 0 < 1000000) = true := decide_eq_true (by omega)
      rw [e, Bool.and_true]
    · rw [decide_eq_false hp, Bool.false_and]
  · rw [onAtB_yes h3 (by simp [stB, ok 0 (by omega) (by omega), h2])]
    unfold onB
    simp only
    by_cases hp : n / c.s < (xs.length : Int)
    · have := dwB_at h2 (j := (n / c.s).toNat) (by omega)
      have e : decide (xs.getD (n / c.s).toNat 0 < 0) = false := decide_eq_false (by omega)
      rw [e, Bool.and_false]
    · rw [decide_eq_false hp, Bool.false_and]
  · intro h
    simp only [onAtB, onB, Bool.and_eq_true, decide_eq_true_eq] at h
    exact h.2.1

set_option maxHeartbeats 4000000 in
set_option maxRecDepth 20000 in
theorem walk (a0 : Option Addr) (len0 cap0 : Nat) (z0 : List Int) (w : World) (w0 : IsRow .u8 w a0 len0 cap0 z0)  :
    Calls Try.prog 3 #[.slice a0 len0 cap0] w fun e w' => e = .returned (.bool true) ∧ Below w.heap.size w w' := by
  have hcap : len0 ≤ 9223372036854775807 := by
    rcases w0 with ⟨_, e, _⟩ | ⟨x, _, h1, h2, _⟩
    · omega
    · unfold maxLen at h2; omega
  by_cases hbig : (4096 : Int) < (len0 : Int)
  · have hd : decide ((4096 : Int) < (len0 : Int)) = true := decide_eq_true hbig
    go_enter Try.func3, Try.ntmps3
    go_wp2_with fail
    refine (big_any _ _ _ _ hcap).mono ?_
    rintro e u1 ⟨rfl, rfl⟩
    go_wp2_with fail
    go_ret
    exact ⟨rfl, Below.refl _ _⟩
  have hd : decide ((4096 : Int) < (len0 : Int)) = false := decide_eq_false hbig
  have hr := bytes_of_row w0
  have hl : len0 ≤ 4096 := by omega
  clear hbig
  go_enter Try.func3, Try.ntmps3
  go_wp2_with fail
  refine (big_any _ _ _ _ hcap).mono ?_
  rintro e u1 ⟨rfl, rfl⟩
  clear w0 hd hcap
  go_wp2_with fail
  refine (drawOnAt_any _ _ _ _ hr (by omega)).mono ?_
  rintro e u2 ⟨c, v, xs, n, rfl, hI, iN, o2, l2, f2⟩
  clear hr
  obtain ⟨gg, cv, rfl, oo⟩ := o2
  have hg2 := (oo.1.lt gg rfl).2
  have hrd := oo.reads
  have hsz := f2.size
  clear oo hI
  have hn9 : n ≤ 9223372036854775807 := iN.2
  have cA := fun c n u (f : Fr u2 u) (hI : n ≤ 9223372036854775807) => onAt_impl c (some ⟨gg, 0, none⟩) xs.length cv xs n u rfl (hrd.fr f) hI
  have cP := fun c n u (f : Fr u2 u) (hI : n ≤ 9223372036854775807) => opAt_impl c (some ⟨gg, 0, none⟩) xs.length cv xs n u rfl (hrd.fr f) hI
  have cD := fun u (f : Fr u2 u) => dwOk_spec (some ⟨gg, 0, none⟩) xs.length cv xs u rfl (hrd.fr f)
  have hno := fun hq => onAtB_no (c := c) (xs := xs) (n := n) hq
  have hno2 := fun hq => opAtB_no (c := c) (xs := xs) (n := n) hq
  have hcf := cfB_in (c := c)
  have hR := fun h1 h2 h3 => rates (c := c) (xs := xs) (n := n) h1 h2 h3
  unfold stB at hno hno2
  obtain ⟨r, s, b, m, q, c, k⟩ := c
  have FE := Fr.alloc u2 (.cells #[.int .i64 r, .int .i64 s, .int .i64 b, .int .i64 m, .int .i64 q, .int .i64 c, .int .i64 k] 25)
  have KE : CfZ (u2.alloc (.cells #[.int .i64 r, .int .i64 s, .int .i64 b, .int .i64 m, .int .i64 q, .int .i64 c, .int .i64 k] 25)) u2.heap.size #[.int .i64 r, .int .i64 s, .int .i64 b, .int .i64 m, .int .i64 q, .int .i64 c, .int .i64 k] := heap_alloc_new u2 _
  have cC := fun u => cfOk_spec ⟨r, s, b, m, q, c, k⟩ u
  have hA := hcf
  generalize hcB : cfB ⟨r, s, b, m, q, c, k⟩ = A at cC hno hno2 hR hcf
  generalize hdB : dwB xs = D at cD hno hno2 hR
  simp only at cC
  obtain ⟨E, hE⟩ : ∃ E, E = u2.heap.size := ⟨_, rfl⟩
  by_cases hbad : A = false ∨ D = false ∨ n < 0
  · have e1 : onAtB ⟨r, s, b, m, q, c, k⟩ xs n = false := by
      rcases hbad with h | h | h
      · exact hno (.inr (by simp [h]))
      · exact hno (.inr (by simp [h]))
      · exact hno (.inl h)
    have e2 : opAtB ⟨r, s, b, m, q, c, k⟩ xs n = false := by
      rcases hbad with h | h | h
      · exact hno2 (.inr (by simp [h]))
      · exact hno2 (.inr (by simp [h]))
      · exact hno2 (.inl h)
    have cA := fun u (f : Fr u2 u) => cA ⟨r, s, b, m, q, c, k⟩ n u f hn9
    have cP := fun u (f : Fr u2 u) => cP ⟨r, s, b, m, q, c, k⟩ n u f hn9
    simp only [e1] at cA
    simp only [e2] at cP
    clear hno hno2 e1 e2 hR hcf hA hrd hg2 hsz hcB hdB
    have HB : Hid (A = false ∨ D = false ∨ n < 0) := hbad
    clear hbad
    go_wp2_with fail
    refine (cC _).mono ?_
    rintro e u3 ⟨rfl, f3⟩
    have F3 := FE.trans f3
    cases A
    · obtain ⟨k0, k1, k2, k3, k4, k5, k6⟩ := CfZ.at (c := ⟨r, s, b, m, q, c, k⟩) (KE.fr f3)
      simp only [Nat.zero_add] at k0 k1 k2 k3 k4 k5 k6
      go_wp2_with fail
      refine (cA _ F3).mono ?_
      rintro e u5 ⟨rfl, f5⟩
      clear k0 k1 k2 k3 k4 k5 k6
      obtain ⟨k0, k1, k2, k3, k4, k5, k6⟩ := CfZ.at (c := ⟨r, s, b, m, q, c, k⟩) ((KE.fr f3).fr f5)
      simp only [Nat.zero_add] at k0 k1 k2 k3 k4 k5 k6
      go_wp2_with fail
      refine (cP _ (F3.trans f5)).mono ?_
      rintro e u6 ⟨rfl, f6⟩
      go_wp2_with fail
      go_ret
      exact ⟨rfl, (f2.trans ((F3.trans f5).trans f6)).below⟩
    go_wp2_with fail
    refine (cD _ F3).mono ?_
    rintro e u4 ⟨rfl, rfl⟩
    obtain ⟨k0, k1, k2, k3, k4, k5, k6⟩ := CfZ.at (c := ⟨r, s, b, m, q, c, k⟩) (KE.fr f3)
    simp only [Nat.zero_add] at k0 k1 k2 k3 k4 k5 k6
    cases D
    · skip
      go_wp2_with fail
      refine (cA _ F3).mono ?_
      rintro e u5 ⟨rfl, f5⟩
      clear k0 k1 k2 k3 k4 k5 k6
      obtain ⟨k0, k1, k2, k3, k4, k5, k6⟩ := CfZ.at (c := ⟨r, s, b, m, q, c, k⟩) ((KE.fr f3).fr f5)
      simp only [Nat.zero_add] at k0 k1 k2 k3 k4 k5 k6
      go_wp2_with fail
      refine (cP _ (F3.trans f5)).mono ?_
      rintro e u6 ⟨rfl, f6⟩
      go_wp2_with fail
      go_ret
      exact ⟨rfl, (f2.trans ((F3.trans f5).trans f6)).below⟩
    have h0 : n < 0 := by rcases HB.out with h | h | h <;> first | exact h | cases h
    go_wp2_with fail
    refine (cA _ F3).mono ?_
    rintro e u5 ⟨rfl, f5⟩
    clear k0 k1 k2 k3 k4 k5 k6
    obtain ⟨k0, k1, k2, k3, k4, k5, k6⟩ := CfZ.at (c := ⟨r, s, b, m, q, c, k⟩) ((KE.fr f3).fr f5)
    simp only [Nat.zero_add] at k0 k1 k2 k3 k4 k5 k6
    go_wp2_with fail
    refine (cP _ (F3.trans f5)).mono ?_
    rintro e u6 ⟨rfl, f6⟩
    go_wp2_with fail
    go_ret
    exact ⟨rfl, (f2.trans ((F3.trans f5).trans f6)).below⟩
  have h0 : 0 ≤ n := by omega
  obtain rfl : A = true := by cases A <;> first | rfl | exact absurd (.inl rfl) hbad
  obtain rfl : D = true := by cases D <;> first | rfl | exact absurd (.inr (.inl rfl)) hbad
  obtain ⟨-, ⟨hs, -⟩, -⟩ := hcf rfl
  simp only at hs
  obtain ⟨R1, R2, R3, R4, R5⟩ := hR rfl rfl h0
  simp only at R1 R2 R3 R4 R5
  have hq0 : 0 ≤ n / s := Int.ediv_nonneg h0 (by omega)
  have hle := Int.ediv_le_self s h0
  have hDW : dwB xs = true := hdB
  clear hno hno2 hcf hA hbad hR cP hcB
  have c1 := fun u (f : Fr u2 u) => cA ⟨r, s, b, m, q, c, k⟩ n u f hn9
  have c2 := fun u (h : Reads u (some ⟨gg, 0, none⟩) xs) => onAt_impl ⟨1000000, s, b, m, q, c, k⟩ (some ⟨gg, 0, none⟩) xs.length cv xs n u rfl h hn9
  have c3 := fun u (h : Reads u (some ⟨gg, 0, none⟩) xs) => onAt_impl ⟨0, s, b, m, q, c, k⟩ (some ⟨gg, 0, none⟩) xs.length cv xs n u rfl h hn9
  have c4 := fun u => cfOk_impl ⟨0, s, b, m, q, c, k⟩ u
  have c5 := fun u (h : Reads u (some ⟨gg, 0, none⟩) xs) => dwOk_impl (some ⟨gg, 0, none⟩) xs.length cv xs u rfl h
  simp only [R1] at c2
  simp only [R2] at c3
  simp only [R3] at c4
  simp only [hDW] at c5
  simp only at c1
  generalize onAtB ⟨r, s, b, m, q, c, k⟩ xs n = B0 at c1 R4 R5
  clear R1 R2 R3 hDW cA hdB
  go_wp2_with fail
  refine (cC _).mono ?_
  rintro e u3 ⟨rfl, f3⟩
  have F3 := FE.trans f3
  go_wp2_with fail
  refine (cD _ F3).mono ?_
  rintro e u4 ⟨rfl, rfl⟩
  obtain ⟨k0, k1, k2, k3, k4, k5, k6⟩ := CfZ.at (c := ⟨r, s, b, m, q, c, k⟩) (KE.fr f3)
  simp only [Nat.zero_add] at k0 k1 k2 k3 k4 k5 k6
  go_wp2_with fail
  refine (c1 _ F3).mono ?_
  rintro e u5 ⟨rfl, f5⟩
  clear k0 k1 k2 k3 k4 k5 k6 cC cD c1
  have K5 := (KE.fr f3).fr f5
  have F5 := F3.trans f5
  have kf5 := K5.free 0
  obtain ⟨k0, k1, k2, k3, k4, k5, k6⟩ := CfZ.at (c := ⟨r, s, b, m, q, c, k⟩) K5
  simp only [Nat.zero_add] at k0 k1 k2 k3 k4 k5 k6
  have s5 := F5.size
  have K6 := CfZ.set0 (c := ⟨r, s, b, m, q, c, k⟩) K5 1000000
  have g6 := grown_set u5 u2.heap.size 0 (.int .i64 1000000)
  have r6 := (hrd.fr F5).keep g6 (.inr (by simp only [blk, Option.map_some, ne_eq, Option.some.injEq]; omega))
  have F6 := (f2.trans F5).then g6 (fun j hj => by cases hj; omega)
  clear KE FE f3 F3 f5 K5 F5 g6 hrd
  go_wp2_with fail
  clear k0 k1 k2 k3 k4 k5 k6 kf5
  obtain ⟨V, hV⟩ : ∃ V, V = u5.setCell ⟨u2.heap.size, 0, none⟩ (.int .i64 1000000) := ⟨_, rfl⟩
  rw [← hV] at K6 r6 F6 ⊢
  clear hV s5
  refine (c2 _ r6).mono ?_
  rintro e u7 ⟨rfl, f7⟩
  have K7 : CfZ u7 u2.heap.size #[.int .i64 1000000, .int .i64 s, .int .i64 b, .int .i64 m, .int .i64 q, .int .i64 c, .int .i64 k] := K6.fr f7
  have kf7 := K7.free 0
  obtain ⟨k0, k1, k2, k3, k4, k5, k6⟩ := CfZ.at (c := ⟨1000000, s, b, m, q, c, k⟩) K7
  simp only [Nat.zero_add] at k0 k1 k2 k3 k4 k5 k6
  have F7 := F6.trans f7
  have s7 := F7.size
  have s77 := f7.size
  have hV2 := K6.lt
  have K8 := CfZ.set0 (c := ⟨1000000, s, b, m, q, c, k⟩) K7 0
  have g8 := grown_set u7 u2.heap.size 0 (.int .i64 0)
  have r8 := (r6.fr f7).keep g8 (.inr (by simp only [blk, Option.map_some, ne_eq, Option.some.injEq]; omega))
  have F8 := F7.then g8 (fun j hj => by cases hj; omega)
  have K8 : CfZ (u7.setCell ⟨u2.heap.size, 0, none⟩ (.int .i64 0)) u2.heap.size #[.int .i64 0, .int .i64 s, .int .i64 b, .int .i64 m, .int .i64 q, .int .i64 c, .int .i64 k] := K8
  have HK8 := K8
  have HR8 := r8
  clear K6 r6 F6 K7 g8 f7 F7 c2
  by_cases hp : n / s < (xs.length : Int)
  · have dp : decide (n / s < (xs.length : Int)) = true := decide_eq_true hp
    simp only [dp]
    go_wp2_with fail
    clear k0 k1 k2 k3 k4 k5 k6 kf7
    obtain ⟨Y, hY⟩ : ∃ Y, Y = u7.setCell ⟨u2.heap.size, 0, none⟩ (.int .i64 0) := ⟨_, rfl⟩
    rw [← hY] at K8 r8 F8 ⊢
    clear hY
    refine (c3 _ r8).mono ?_
    rintro e u9 ⟨rfl, f9⟩
    obtain ⟨k0, k1, k2, k3, k4, k5, k6⟩ := CfZ.at (c := ⟨0, s, b, m, q, c, k⟩) (K8.fr f9)
    simp only [Nat.zero_add] at k0 k1 k2 k3 k4 k5 k6
    cases B0
    all_goals
      go_wp2_with fail
      refine (c4 _).mono ?_
      rintro e u10 ⟨rfl, f10⟩
      go_wp2_with fail
      refine (c5 _ ((r8.fr f9).fr f10)).mono ?_
      rintro e u11 ⟨rfl, f11⟩
      go_wp2_with fail
      go_ret
      exact ⟨rfl, (((F8.trans f9).trans f10).trans f11).below⟩
  · have dp : decide (n / s < (xs.length : Int)) = false := decide_eq_false hp
    obtain rfl : B0 = false := by cases B0 <;> first | rfl | exact absurd (R4 rfl) hp
    simp only [dp]
    go_wp2_with fail
    clear k0 k1 k2 k3 k4 k5 k6 kf7
    obtain ⟨Y, hY⟩ : ∃ Y, Y = u7.setCell ⟨u2.heap.size, 0, none⟩ (.int .i64 0) := ⟨_, rfl⟩
    rw [← hY] at K8 r8 F8 ⊢
    clear hY
    refine (c3 _ r8).mono ?_
    rintro e u9 ⟨rfl, f9⟩
    obtain ⟨k0, k1, k2, k3, k4, k5, k6⟩ := CfZ.at (c := ⟨0, s, b, m, q, c, k⟩) (K8.fr f9)
    simp only [Nat.zero_add] at k0 k1 k2 k3 k4 k5 k6
    go_wp2_with fail
    refine (c4 _).mono ?_
    rintro e u10 ⟨rfl, f10⟩
    go_wp2_with fail
    refine (c5 _ ((r8.fr f9).fr f10)).mono ?_
    rintro e u11 ⟨rfl, f11⟩
    go_wp2_with fail
    go_ret
    exact ⟨rfl, (((F8.trans f9).trans f10).trans f11).below⟩

theorem own : ownKnob Try.prog.godebug = none := by kernel_rfl
theorem laidOut : laidOutB Try.prog = true := by kernel_rfl

set_option maxRecDepth 100000 in
theorem lifted (os : Os) (started : os.Started) (H : Type) (enc : TypeId × Value → H) :
    ReturnsInHanded {} Try.checked os 3 .any (Rows.fnRatesSpec.pre6 enc Try.prog Try.f3 Rows.fnRatesRow.domain false) (Rows.fnRatesSpec.post enc Try.prog Try.f3 false true false false) := by
  refine returnsInHanded_of_change (C := Try.checked) own started (by kernel_rfl) Try.func3
    (ChangeSpec.witness6 (enc := enc) (C := Try.checked) false ⟨#[], #[.slice none 0 0], []⟩ 8 (by kernel_rfl) (by kernel_rfl) (by kernel_rfl) (by kernel_rfl)) ?_
  intro W base args ds gs before hval0 hW hcnd _
  have hval : ∀ (j : Nat) t v, Try.f3.params[j]? = some t → args[j]? = some v → Value.okWide Try.prog W .any base t v := hval0
  have hW' := hW
  obtain ⟨p, q, hA0, hV, rfl, hfz, hnd⟩ := hW
  have hA : DataW.TrodAll enc Try.prog W 0 (fun _ => true) true Try.f3.params.toList args.toList ds p := hA0
  rw [Try.params3] at hA hval
  obtain ⟨v0, vs0, d0, ds0, p0, q0, hargs, rfl, rfl, h0, r0⟩ := trodAll_cons hA
  obtain ⟨rfl, rfl, rfl⟩ := trodAll_nil r0
  obtain rfl : args = #[v0] := by cases args; simp_all
  have k0 := h0
  have lt0 : ∀ x ∈ p0, x.block < W.heap.size := by obtain ⟨m, hm⟩ := k0; exact DataW.trod_lt m _ _ _ hm
  obtain ⟨rfl, rfl⟩ := trodVars_none hV
  obtain ⟨a0, len0, cap0, rfl⟩ := okWide_slice Try.underlying22 (hval 0 22 v0 rfl rfl)
  obtain ⟨z0, w0⟩ : ∃ zs, IsRow .u8 W a0 len0 cap0 zs := by
    obtain ⟨fuel, hf⟩ := h0
    rcases open_ints Try.underlying22 Try.underlying5 (by kernel_rfl) hf with ⟨hcs, _⟩ | ⟨x, l, c, zs, hcs, _, hl, hm, hz, _, hcell, hwz⟩
    · simp [Value.cells] at hcs
      obtain ⟨rfl, rfl, rfl⟩ := hcs
      exact ⟨[], .inl ⟨rfl, rfl, rfl, rfl⟩⟩
    · simp [Value.cells] at hcs
      obtain ⟨rfl, rfl, rfl⟩ := hcs
      exact ⟨zs, .inr ⟨_, rfl, hl, hm, by simpa using hz, hcell, hwz⟩⟩
  clear hA0 hval0
  refine (walk a0 len0 cap0 z0 W w0).mono fun e W' ⟨he, bel⟩ => ?_
  subst he
  exact ⟨_, rfl, _, _, _, [], _, [], hW', trodAll_mk1 (shut_bool Try.underlying4 _), (trodAll_cons_mk (Below.trod laidOut (by kernel_rfl) (of_decide_eq_true (by kernel_rfl)) k0 bel lt0) trodAll_mk0), rfl, bel.frame _, fun h => by cases h⟩

theorem over : Rows.fnRatesRow.holds Try.pinned (OpenSpec.ofChange Rows.fnRatesSpec) :=
  OpenClaim.holds_of_wide 3 Try.f3 rfl rfl rfl rfl rfl rfl rfl ⟨rfl, rfl, rfl, rfl, rfl⟩ rfl rfl rfl rfl rfl (by kernel_rfl) Try.func3 (by kernel_rfl)
    (of_decide_eq_true (by kernel_rfl)) (by unfold Func.isWrapper; first | (rw [if_pos (by decide +kernel)]; kernel_rfl) | (rw [if_neg (by decide +kernel)]; exact ⟨rfl, rfl⟩))
    (fun os started H enc _ => lifted os started H enc)
end Go.Proofs.Ytpmloeneffolpaa.fnRates
namespace Go.Proofs.Ytpmloeneffolpaa
theorem fnRates_holds : Rows.FnRatesSaid := fnRates.over
end Go.Proofs.Ytpmloeneffolpaa
