/-
  Where there is a race there is a short one, if all is looked at; short races are races; where nothing is looked at there is none.
-/
import Derived.Test.YtcofhmikdkkigaaGreatDoorPrBF
import Derived.Test.YtcofhmikdkkigaaGreatDoorPrBO
import Derived.Test.YtcofhmikdkkigaaGreatDoorPrBG
namespace Go.Proofs.YtcofhmikdkkigaaGreatDoor
open Go.RowKit

theorem same_bef {es : List Ev} (hl : es.length ≤ 300) (hleg : (legS scn0 es).2.1 = es.length) {i K : Nat} (hK : K < es.length) (hi : i < K) (hg : (evA es i).g = (evA es K).g) : Bef (eE es) i K := by
  have h := (order_facts hl hleg hK).2.2.1 i hi hg
  rw [rJ_at hl hleg hK] at h
  exact (befN_bit _ _ _).1 h

theorem cov_acc {e : Ev} {x : Int} (h : covB e x = true) (hk : e.k = 20 ∨ e.k = 21) : accB e = true ∧ e.l ≤ x ∧ x < e.l + e.s := by
  simp only [covB, Bool.and_eq_true, decide_eq_true_eq] at h
  obtain ⟨⟨⟨h1, -⟩, h3⟩, h4⟩ := h
  refine ⟨?_, h3, h4⟩
  simp only [accB, Bool.and_eq_true, Bool.or_eq_true, beq_iff_eq]
  exact ⟨h1, hk⟩
/-- Two accesses that cover a byte that lasts between them, unordered, one of them a write: a race. -/
theorem race_at {es : List Ev} {a b : Nat} {x : Int} (ha : accB (evA es a) = true) (hb : accB (evA es b) = true) (hax : (evA es a).l ≤ x ∧ x < (evA es a).l + (evA es a).s) (hbx : covB (evA es b) x = true) (hbl : (evA es b).l ≤ x ∧ x < (evA es b).l + (evA es b).s)
    (hg : (evA es a).g ≠ (evA es b).g) (hw : (evA es a).k = 21 ∨ (evA es b).k = 21) (hn : ¬ Bef (eE es) a b) (hL : lasB es b a x = true) : pairB es [] false b a = true := by
  have hc : claB (evA es a) (evA es b) = true := by
    simp only [claB, ha, hb, Bool.true_and, Bool.and_eq_true, bne_iff_ne, ne_eq, Bool.or_eq_true, beq_iff_eq, decide_eq_true_eq]
    exact ⟨⟨⟨hg, hw⟩, by omega⟩, by omega⟩
  have h2 : (befN (eE es) b).testBit a = false := by
    cases hv : (befN (eE es) b).testBit a
    · rfl
    · exact absurd ((befN_bit _ _ _).1 hv) hn
  have h3 : bytB es [] false b a = true := by
    unfold bytB
    rw [List.any_eq_true]
    refine ⟨(x - (evA es a).l).toNat, List.mem_range.2 (by omega), ?_⟩
    have e : (evA es a).l + (((x - (evA es a).l).toNat : Nat) : Int) = x := by omega
    rw [e, hbx, hL]
    rfl
  unfold pairB
  rw [hc, h2, h3]
  rfl
theorem las_sub {es : List Ev} {j i j' i' : Nat} {x : Int} (h : lasB es j i x = true) (hj : j' ≤ j) (hi : i ≤ i') : lasB es j' i' x = true := by
  unfold lasB at h ⊢
  rw [List.all_eq_true] at h ⊢
  intro k hk
  have h1 := h k (List.mem_range.2 (by have := List.mem_range.1 hk; omega))
  by_cases hik : i' + 1 ≤ k
  · have e1 : decide (i + 1 ≤ k) = true := decide_eq_true (by omega)
    have e2 : decide (i' + 1 ≤ k) = true := decide_eq_true hik
    rw [e1] at h1
    rw [e2]
    exact h1
  · have e2 : decide (i' + 1 ≤ k) = false := decide_eq_false hik
    rw [e2]
    rfl

theorem short_of {es : List Ev} {lk : List Bool} (hl : es.length ≤ 300) (hleg : (legS scn0 es).2.1 = es.length) (hlk : ∀ k, k < es.length → lk.getD k false = true) :
    ∀ (d i j : Nat), j - i ≤ d → i < j → j < es.length → pairB es [] false j i = true → ∃ i' j', i' < j' ∧ j' < es.length ∧ pairB es lk true j' i' = true
  | 0, i, j, hd, hij, hj, h => by omega
  | d + 1, i, j, hd, hij, hj, h => by
    have h0 := h
    unfold pairB at h
    simp only [Bool.and_eq_true, Bool.not_eq_true'] at h
    obtain ⟨⟨⟨-, hc⟩, hb⟩, hby⟩ := h
    have hnb : ¬ Bef (eE es) i j := fun q => by rw [(befN_bit _ _ _).2 q] at hb; cases hb
    unfold bytB at hby
    obtain ⟨n, hn, hby⟩ := List.any_eq_true.1 hby
    simp only [Bool.and_eq_true] at hby
    obtain ⟨⟨hcj, hla⟩, -⟩ := hby
    obtain ⟨x, hx⟩ : ∃ x, x = (evA es i).l + (n : Int) := ⟨_, rfl⟩
    have hnr := List.mem_range.1 hn
    rw [← hx] at hcj hla
    have hc0 := hc
    simp only [claB, Bool.and_eq_true, bne_iff_ne, ne_eq, Bool.or_eq_true, beq_iff_eq, decide_eq_true_eq] at hc0
    obtain ⟨⟨⟨⟨⟨hai, haj⟩, hg⟩, hw⟩, -⟩, -⟩ := hc0
    have hix : (evA es i).l ≤ x ∧ x < (evA es i).l + (evA es i).s := by omega
    have hki := acc_kind hai
    have hkj := acc_kind haj
    have hjx := (cov_acc hcj hkj).2
    cases hne : nexB es lk j i x
    · unfold nexB at hne
      obtain ⟨k, hk, hne⟩ := List.all_eq_false.1 hne
      have hkr := List.mem_range.1 hk
      simp only [Bool.not_eq_true', Bool.not_eq_false, Bool.and_eq_true, Bool.or_eq_true, decide_eq_true_eq, beq_iff_eq] at hne
      obtain ⟨hik, hck, hway⟩ := hne
      have hkk : (evA es k).k = 20 ∨ (evA es k).k = 21 := by
        rcases hway with q | q
        · exact .inr q
        · exact .inl q.1.1.1
      obtain ⟨hak, hkx⟩ := cov_acc hck hkk
      have hik2 : i < k := by omega
      by_cases hKJ : Bef (eE es) k j
      · by_cases hIK : Bef (eE es) i k
        · exact absurd (hIK.trans hKJ) hnb
        · by_cases hgk : (evA es i).g = (evA es k).g
          · exact absurd (same_bef hl hleg (by omega) hik2 hgk) hIK
          · have hkw : (evA es k).k = 21 := by
              rcases hway with q | q
              · exact q
              · exact absurd q.1.2.symm hgk
            exact short_of hl hleg hlk d i k (by omega) hik2 (by omega) (race_at hai hak hix hck hkx hgk (.inr hkw) hIK (las_sub hla (by omega) (Nat.le_refl _)))
      · by_cases hgk : (evA es k).g = (evA es j).g
        · exact absurd (same_bef hl hleg hj hkr hgk) hKJ
        · have hw2 : (evA es k).k = 21 ∨ (evA es j).k = 21 := by
            rcases hway with q | q
            · exact .inl q
            · rcases hw with w | w
              · omega
              · exact .inr w
          exact short_of hl hleg hlk d k j (by omega) hkr hj (race_at hak haj hkx hcj hjx hgk hw2 hKJ (las_sub hla (Nat.le_refl _) (by omega)))
    · refine ⟨i, j, hij, hj, ?_⟩
      have h3 : bytB es lk true j i = true := by
        unfold bytB
        rw [List.any_eq_true]
        refine ⟨n, hn, ?_⟩
        rw [← hx, hcj, hla, hne]
        rfl
      unfold pairB
      rw [hlk i (by omega), hc, hb, h3]
      rfl

theorem near_race {es : List Ev} {lk : List Bool} {j i : Nat} (h : pairB es lk true j i = true) : pairB es [] false j i = true := by
  unfold pairB at h ⊢
  simp only [Bool.and_eq_true, Bool.not_eq_true'] at h
  obtain ⟨⟨⟨-, hc⟩, hb⟩, hby⟩ := h
  have h3 : bytB es [] false j i = true := by
    unfold bytB at hby ⊢
    obtain ⟨n, hn, hby⟩ := List.any_eq_true.1 hby
    simp only [Bool.and_eq_true] at hby
    rw [List.any_eq_true]
    refine ⟨n, hn, ?_⟩
    rw [hby.1.1, hby.1.2]
    rfl
  rw [hc, hb, h3]
  rfl
theorem filter_le {α : Type} (p q : α → Bool) (h : ∀ x, p x = true → q x = true) : ∀ l : List α, (l.filter p).length ≤ (l.filter q).length
  | [] => Nat.le_refl _
  | a :: l => by
    have ih := filter_le p q h l
    rw [List.filter_cons, List.filter_cons]
    by_cases hp : p a = true
    · rw [if_pos hp, if_pos (h a hp), List.length_cons, List.length_cons]; omega
    · rw [if_neg hp]
      split
      · rw [List.length_cons]; omega
      · exact ih
theorem short_len (es : List Ev) (lk : List Bool) : ∀ N, (pairsL es lk true N).length ≤ (pairsL es [] false N).length
  | 0 => Nat.le_refl _
  | N + 1 => by
    have ih := short_len es lk N
    have h1 : (pairsJ es lk true N).length ≤ (pairsJ es [] false N).length := by
      unfold pairsJ
      rw [List.length_map, List.length_map]
      exact filter_le _ _ (fun i h => near_race h) _
    rw [pairsL, pairsL, List.length_append, List.length_append]
    omega
theorem none_len (es : List Ev) (lk : List Bool) (h : ∀ k, lk.getD k false = false) : ∀ N, pairsL es lk true N = []
  | 0 => rfl
  | N + 1 => by
    rw [pairsL, none_len es lk h N]
    unfold pairsJ
    have : ((List.range N).filter fun i => pairB es lk true N i) = [] := by
      rw [List.filter_eq_nil_iff]
      intro i _
      unfold pairB
      rw [h i]
      simp
    rw [this]
    rfl
theorem some_iff {es : List Ev} {lk : List Bool} (hl : es.length ≤ 300) (hleg : (legS scn0 es).2.1 = es.length) (hlk : ∀ k, k < es.length → lk.getD k false = true) :
    0 < (pairsL es [] false es.length).length ↔ 0 < (pairsL es lk true es.length).length := by
  constructor
  · intro h
    obtain ⟨p, hp⟩ := List.exists_mem_of_length_pos h
    obtain ⟨a, b⟩ := p
    obtain ⟨h1, h2, h3, h4⟩ := (pairsL_mem _).1 hp
    obtain ⟨i', j', q1, q2, q3⟩ := short_of hl hleg hlk _ a.toNat b.toNat (Nat.le_refl _) (by omega) (by omega) h4
    exact List.length_pos_of_mem ((pairsL_mem (i := (i' : Int)) (j := (j' : Int)) es.length).2 ⟨by omega, by omega, by omega, by simpa using q3⟩)
  · intro h
    have := short_len es lk es.length
    omega
end Go.Proofs.YtcofhmikdkkigaaGreatDoor
