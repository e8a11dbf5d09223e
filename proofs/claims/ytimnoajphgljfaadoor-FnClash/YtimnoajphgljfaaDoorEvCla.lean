/-
  Who clashes: of the program and of the specification.
-/
import Derived.Test.YtimnoajphgljfaaDoorEvCov
namespace Go.Proofs.YtimnoajphgljfaaDoor
open Go.RowKit

/-- Clashing. -/
def claB (a b : Ev) : Bool := accB a && accB b && (a.g != b.g) && (a.k == 21 || b.k == 21) && decide (a.l < b.l + b.s) && decide (b.l < a.l + a.s)

theorem acc_kind {e : Ev} (h : accB e = true) : e.k = 20 ∨ e.k = 21 := by
  simp only [accB, Bool.and_eq_true, Bool.or_eq_true, beq_iff_eq] at h
  exact h.2
theorem acc_cov {e : Ev} (h : accB e = true) (x : Int) : covB e x = (decide (e.l ≤ x) && decide (x < e.l + e.s)) := by
  rcases cov_ways e x with ⟨h1, h2, h3⟩ | ⟨h1, h2, hk, l0, l1, s0, s1, h3⟩ | ⟨h1, h2, hk, l0, l1, s0, s1, h3⟩ | ⟨h1, h2, k1, k2, k3, h3⟩
  · rw [h2] at h; cases h
  · exact h3
  · exact h3
  · rw [h2] at h; cases h

set_option maxHeartbeats 2000000 in
theorem implCla_any (a b : Ev) (w : World) (hs : Shapes w) :
    Calls Tryd.prog 11 #[.agg #[.int .i64 a.k, .int .i64 a.g, .int .i64 a.o, .int .i64 a.w, .int .i64 a.l, .int .i64 a.s, .int .i64 a.f, .int .i64 a.t], .agg #[.int .i64 b.k, .int .i64 b.g, .int .i64 b.o, .int .i64 b.w, .int .i64 b.l, .int .i64 b.s, .int .i64 b.f, .int .i64 b.t]] w fun y w' => y = .returned (.bool (claB a b)) ∧ Fr w w' := by
  have c1 := fun w (h : Shapes w) => implAcc_any a w h
  have c2 := fun w (h : Shapes w) => implAcc_any b w h
  unfold claB
  have la := fun h => acc_lies (e := a) h
  have lb := fun h => acc_lies (e := b) h
  obtain ⟨p, hp⟩ : ∃ p, p = accB a := ⟨_, rfl⟩
  obtain ⟨q, hq⟩ : ∃ q, q = accB b := ⟨_, rfl⟩
  simp only [← hp] at c1 la ⊢
  simp only [← hq] at c2 lb ⊢
  clear hp hq
  obtain ⟨k, g, o, wi, l, sz, f, t⟩ := a
  obtain ⟨k', g', o', wi', l', sz', f', t'⟩ := b
  simp only at *
  cases p
  · go_enter Tryd.func11, Tryd.ntmps11
    go_wp2_with fail
    refine (c1 _ (hs.fr ((Fr.alloc _ _).trans (Fr.alloc _ _)))).mono ?_
    rintro e w1 ⟨rfl, f1⟩
    go_wp2_with fail
    go_ret
    exact ⟨rfl, ((Fr.alloc _ _).trans (Fr.alloc _ _)).trans f1⟩
  obtain ⟨l0, l1, s0, s1⟩ := la rfl
  clear la
  go_enter Tryd.func11, Tryd.ntmps11
  go_wp2_with fail
  refine (c1 _ (hs.fr ((Fr.alloc _ _).trans (Fr.alloc _ _)))).mono ?_
  rintro e w1 ⟨rfl, f1⟩
  have fw : Fr w w1 := ((Fr.alloc _ _).trans (Fr.alloc _ _)).trans f1
  have d0 : w1.cell? ⟨w.heap.size, 0, none⟩ = some (.int .i64 k) := f1.cell (by go_simp)
  have d1 : w1.cell? ⟨w.heap.size, 1, none⟩ = some (.int .i64 g) := f1.cell (by go_simp)
  have d4 : w1.cell? ⟨w.heap.size, 4, none⟩ = some (.int .i64 l) := f1.cell (by go_simp)
  have d5 : w1.cell? ⟨w.heap.size, 5, none⟩ = some (.int .i64 sz) := f1.cell (by go_simp)
  have e0 : w1.cell? ⟨w.heap.size + 1, 0, none⟩ = some (.int .i64 k') := f1.cell (by go_simp)
  have e1 : w1.cell? ⟨w.heap.size + 1, 1, none⟩ = some (.int .i64 g') := f1.cell (by go_simp)
  have e2 : w1.cell? ⟨w.heap.size + 1, 2, none⟩ = some (.int .i64 o') := f1.cell (by go_simp)
  have e3 : w1.cell? ⟨w.heap.size + 1, 3, none⟩ = some (.int .i64 wi') := f1.cell (by go_simp)
  have e4 : w1.cell? ⟨w.heap.size + 1, 4, none⟩ = some (.int .i64 l') := f1.cell (by go_simp)
  have e5 : w1.cell? ⟨w.heap.size + 1, 5, none⟩ = some (.int .i64 sz') := f1.cell (by go_simp)
  have e6 : w1.cell? ⟨w.heap.size + 1, 6, none⟩ = some (.int .i64 f') := f1.cell (by go_simp)
  have e7 : w1.cell? ⟨w.heap.size + 1, 7, none⟩ = some (.int .i64 t') := f1.cell (by go_simp)
  clear f1
  go_wp2_with fail
  refine (c2 _ (hs.fr fw)).mono ?_
  rintro e w2 ⟨rfl, f2⟩
  have fz := fw.trans f2
  have D0 := f2.cell d0
  have D1 := f2.cell d1
  have D4 := f2.cell d4
  have D5 := f2.cell d5
  have E0 := f2.cell e0
  have E1 := f2.cell e1
  have E4 := f2.cell e4
  have E5 := f2.cell e5
  clear d0 d1 d4 d5 e0 e1 e2 e3 e4 e5 e6 e7 f2 fw c1 c2 hs
  cases q
  · go_wp2_with fail
    go_ret
    exact ⟨rfl, fz⟩
  obtain ⟨l2, l3, s2, s3⟩ := lb rfl
  clear lb
  by_cases hg : g = g'
  · subst hg
    go_wp2_with fail
    go_ret
    exact ⟨ret_bool (by simp), fz⟩
  have hk : k = 21 ∨ (¬ k = 21 ∧ k' = 21) ∨ (¬ k = 21 ∧ ¬ k' = 21) := by omega
  rcases hk with rfl | ⟨hk, rfl⟩ | ⟨hk, hk'⟩
  · by_cases hl : l < l' + sz'
    · go_wp2_with fail
      go_ret
      exact ⟨ret_bool (by simp [hl]), fz⟩
    · go_wp2_with fail
      go_ret
      exact ⟨ret_bool (by simp [hg]; omega), fz⟩
  · by_cases hl : l < l' + sz'
    · go_wp2_with fail
      go_ret
      exact ⟨ret_bool (by simp [hl]), fz⟩
    · go_wp2_with fail
      go_ret
      exact ⟨ret_bool (by simp [hg]; omega), fz⟩
  · go_wp2_with fail
    go_ret
    exact ⟨ret_bool (by simp [hg, hk, hk']), fz⟩

/-- Two stretches share a byte just where each begins ahead of the other's end. -/
theorem share {a b : Ev} (hb : accB b = true) (ha : accB a = true) : (∃ x, a.l ≤ x ∧ x < a.l + a.s ∧ covB b x = true) ↔ (a.l < b.l + b.s ∧ b.l < a.l + a.s) := by
  have la := acc_lies ha
  have lb := acc_lies hb
  constructor
  · rintro ⟨x, h1, h2, h3⟩
    rw [acc_cov hb] at h3
    simp only [Bool.and_eq_true, decide_eq_true_eq] at h3
    omega
  · rintro ⟨h1, h2⟩
    refine ⟨max a.l b.l, by omega, by omega, ?_⟩
    rw [acc_cov hb]
    simp only [Bool.and_eq_true, decide_eq_true_eq]
    omega

set_option maxHeartbeats 2000000 in
theorem specCla_any (a b : Ev) (w : World) :
    Calls Tryd.prog 12 #[.agg #[.int .i64 a.k, .int .i64 a.g, .int .i64 a.o, .int .i64 a.w, .int .i64 a.l, .int .i64 a.s, .int .i64 a.f, .int .i64 a.t], .agg #[.int .i64 b.k, .int .i64 b.g, .int .i64 b.o, .int .i64 b.w, .int .i64 b.l, .int .i64 b.s, .int .i64 b.f, .int .i64 b.t]] w fun y w' => y = .returned (.bool (claB a b)) ∧ Fr w w' := by
  have c1 := fun w => specAcc_any a w
  have c2 := fun w => specAcc_any b w
  have c3 := fun x w => specCov_any b x w
  have la := fun h => acc_lies (e := a) h
  have ka := fun h => acc_kind (e := a) h
  have kb := fun h => acc_kind (e := b) h
  have sh := fun h h' => share (a := a) (b := b) h h'
  unfold claB
  obtain ⟨p, hp⟩ : ∃ p, p = accB a := ⟨_, rfl⟩
  obtain ⟨q, hq⟩ : ∃ q, q = accB b := ⟨_, rfl⟩
  obtain ⟨cv, hcv⟩ : ∃ c, c = covB b := ⟨_, rfl⟩
  simp only [← hcv] at c3 sh
  simp only [← hp] at c1 la ka sh ⊢
  simp only [← hq] at c2 kb sh ⊢
  clear hp hq hcv
  obtain ⟨k, g, o, wi, l, sz, f, t⟩ := a
  obtain ⟨k', g', o', wi', l', sz', f', t'⟩ := b
  simp only at *
  cases p
  · go_enter Tryd.func12, Tryd.ntmps12
    go_wp2_with fail
    refine (c1 _).mono ?_
    rintro e w1 ⟨rfl, f1⟩
    go_wp2_with fail
    go_ret
    exact ⟨rfl, ((Fr.alloc _ _).trans (Fr.alloc _ _)).trans f1⟩
  obtain ⟨l0, l1, s0, s1⟩ := la rfl
  have ka := ka rfl
  clear la
  go_enter Tryd.func12, Tryd.ntmps12
  go_wp2_with fail
  refine (c1 _).mono ?_
  rintro e w1 ⟨rfl, f1⟩
  have fw : Fr w w1 := ((Fr.alloc _ _).trans (Fr.alloc _ _)).trans f1
  have d0 : w1.cell? ⟨w.heap.size, 0, none⟩ = some (.int .i64 k) := f1.cell (by go_simp)
  have d1 : w1.cell? ⟨w.heap.size, 1, none⟩ = some (.int .i64 g) := f1.cell (by go_simp)
  have d4 : w1.cell? ⟨w.heap.size, 4, none⟩ = some (.int .i64 l) := f1.cell (by go_simp)
  have d5 : w1.cell? ⟨w.heap.size, 5, none⟩ = some (.int .i64 sz) := f1.cell (by go_simp)
  have e0 : w1.cell? ⟨w.heap.size + 1, 0, none⟩ = some (.int .i64 k') := f1.cell (by go_simp)
  have e1 : w1.cell? ⟨w.heap.size + 1, 1, none⟩ = some (.int .i64 g') := f1.cell (by go_simp)
  have e2 : w1.cell? ⟨w.heap.size + 1, 2, none⟩ = some (.int .i64 o') := f1.cell (by go_simp)
  have e3 : w1.cell? ⟨w.heap.size + 1, 3, none⟩ = some (.int .i64 wi') := f1.cell (by go_simp)
  have e4 : w1.cell? ⟨w.heap.size + 1, 4, none⟩ = some (.int .i64 l') := f1.cell (by go_simp)
  have e5 : w1.cell? ⟨w.heap.size + 1, 5, none⟩ = some (.int .i64 sz') := f1.cell (by go_simp)
  have e6 : w1.cell? ⟨w.heap.size + 1, 6, none⟩ = some (.int .i64 f') := f1.cell (by go_simp)
  have e7 : w1.cell? ⟨w.heap.size + 1, 7, none⟩ = some (.int .i64 t') := f1.cell (by go_simp)
  clear f1
  go_wp2_with fail
  refine (c2 _).mono ?_
  rintro e w2 ⟨rfl, f2⟩
  have fz := fw.trans f2
  have D0 := f2.cell d0
  have D1 := f2.cell d1
  have D4 := f2.cell d4
  have D5 := f2.cell d5
  have E0 := f2.cell e0
  have E1 := f2.cell e1
  have E2 := f2.cell e2
  have E3 := f2.cell e3
  have E4 := f2.cell e4
  have E5 := f2.cell e5
  have E6 := f2.cell e6
  have E7 := f2.cell e7
  clear d0 d1 d4 d5 e0 e1 e2 e3 e4 e5 e6 e7 f2 fw c1 c2
  cases q
  · go_wp2_with fail
    go_ret
    exact ⟨rfl, fz⟩
  have kb := kb (by simp)
  have sh := sh (by simp) (by simp)
  have sh2 : Hid ((∃ x, l ≤ x ∧ x < l + sz ∧ cv x = true) ↔ l < l' + sz' ∧ l' < l + sz) := sh
  clear sh
  by_cases hg : g = g'
  · subst hg
    go_wp2_with fail
    go_ret
    exact ⟨ret_bool (by simp), fz⟩
  have hgb : (g == g') = false := by simpa using hg
  have hg2 : Hid (¬ g = g') := hg
  clear hg
  have hkk : (k = 20 ∧ k' = 20) ∨ (k = 20 ∧ k' = 21) ∨ k = 21 := by omega
  clear ka kb
  rcases hkk with ⟨rfl, rfl⟩ | ⟨rfl, rfl⟩ | rfl
  · go_wp2_with fail
    go_ret
    exact ⟨ret_bool (by simp), fz⟩
  all_goals
    go_wp2_with fail
    go_loopw [5] (fun i wr => ∃ n : Int, i = .int .i64 n ∧ l ≤ n ∧ n ≤ l + sz ∧ Hid (∀ y, l ≤ y → y < n → cv y = false) ∧ Fr w2 wr) (fun i _ => (l + sz - intOf i).toNat)
    case atStart => exact ⟨l, rfl, by omega, by omega, fun y h1 h2 => by omega, Fr.refl _⟩
    case round =>
      obtain ⟨n, rfl, n0, n1, hn, fr⟩ := hrel
      have D4 := fr.cell D4
      have D5 := fr.cell D5
      have E0 := fr.cell E0
      have E1 := fr.cell E1
      have E2 := fr.cell E2
      have E3 := fr.cell E3
      have E4 := fr.cell E4
      have E5 := fr.cell E5
      have E6 := fr.cell E6
      have E7 := fr.cell E7
      by_cases hlt : n < l + sz
      · have hc := fun w => c3 n w
        obtain ⟨b, hb⟩ : ∃ b, b = cv n := ⟨_, rfl⟩
        simp only [← hb] at hc
        have hb2 : Hid (b = cv n) := hb
        clear hb c3
        go_wp2_with fail
        refine (hc _).mono ?_
        rintro e w3 ⟨rfl, f3⟩
        cases b
        · go_wp2_with fail
          go_roundw
          case rel =>
            refine ⟨n + 1, by go_num, by omega, by omega, fun y h1 h2 => ?_, fr.trans f3⟩
            by_cases hy : y < n
            · exact hn.out y h1 hy
            · have e : y = n := by omega
              rw [e]; exact hb2.out.symm
          case measure => simp [intOf]; omega
        · go_wp2_with fail
          go_ret
          have hx := sh2.out.1 ⟨n, n0, hlt, hb2.out.symm⟩
          exact ⟨ret_bool (by simp [hg2.out, hx]), (fz.trans fr).trans f3⟩
      · go_wp2_with fail
        go_ret
        have hx : ¬ (l < l' + sz' ∧ l' < l + sz) := fun h => by
          obtain ⟨x, h1, h2, h3⟩ := sh2.out.2 h
          rw [hn.out x h1 (by omega)] at h3
          cases h3
        exact ⟨ret_bool (by simp; omega), fz.trans fr⟩
end Go.Proofs.YtimnoajphgljfaaDoor
