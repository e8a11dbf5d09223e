/-
  Plain facts on clocks: a joined clock is the least one that both are under; what a tick does.
-/
import Derived.Test.YteoalolkjfeeaaaTick
namespace Go.Proofs.Yteoalolkjfeeaaa
open Go.RowKit

theorem jc_getD {xs ys : List Int} (hx : ckB xs = true) (hy : ckB ys = true) (i : Nat) : (jcL xs ys).getD i 0 = max (xs.getD i 0) (ys.getD i 0) := by
  rw [jcL_yes hx hy, jn_clocks xs ys hx hy]
  have n1 := (getD_nonneg hx i).1
  have n2 := (getD_nonneg hy i).1
  by_cases hi : i < max xs.length ys.length
  · rw [List.getD_eq_getElem?_getD, jn_at _ _ _ hi, Option.getD_some]
    by_cases e1 : xs.length ≤ i
    · rw [if_pos e1, getD_past e1]; rw [getD_past e1] at n1; omega
    · rw [if_neg e1]
      by_cases e2 : ys.length ≤ i
      · rw [if_pos e2, getD_past e2]; omega
      · rw [if_neg e2]
  · rw [getD_past (by rw [jn_length]; omega), getD_past (by omega), getD_past (by omega)]
    rfl

theorem jc_length {xs ys : List Int} (hx : ckB xs = true) (hy : ckB ys = true) : (jcL xs ys).length = max xs.length ys.length := by
  rw [jcL_yes hx hy, jn_clocks xs ys hx hy, jn_length]

theorem jc_ok {xs ys : List Int} (hx : ckB xs = true) (hy : ckB ys = true) : ckB (jcL xs ys) = true := by
  have h1 := ckB_true hx
  have h2 := ckB_true hy
  refine ckB_mk (by rw [jc_length hx hy]; omega) (fun j _ => ?_) ?_
  · rw [jc_getD hx hy]
    have n1 := getD_nonneg hx j
    have n2 := getD_nonneg hy j
    exact inB_mk (by omega) (by omega)
  · rw [jc_getD hx hy, jc_length hx hy]
    have n1 := (getD_nonneg hx (max xs.length ys.length - 1)).1
    have n2 := (getD_nonneg hy (max xs.length ys.length - 1)).1
    by_cases h0 : max xs.length ys.length = 0
    · exact .inl h0
    · right
      by_cases hc : ys.length ≤ xs.length
      · have := h1.2.2 (by omega)
        rw [Nat.max_eq_left hc] at n1 n2 ⊢
        omega
      · have := h2.2.2 (by omega)
        rw [Nat.max_eq_right (by omega)] at n1 n2 ⊢
        omega

theorem ck_le {a b : List Int} (hb : ckB b = true) (h : ∀ i, a.getD i 0 = b.getD i 0) : b.length ≤ a.length := by
  by_cases h0 : b.length = 0
  · omega
  · have := (ckB_true hb).2.2 (by omega)
    rw [← h] at this
    by_cases hl : b.length ≤ a.length
    · exact hl
    · exact absurd (getD_past (by omega)) this

/-- Two clocks that have the same at each place are one. -/
theorem ck_ext {a b : List Int} (ha : ckB a = true) (hb : ckB b = true) (h : ∀ i, a.getD i 0 = b.getD i 0) : a = b := by
  have l1 := ck_le hb h
  have l2 := ck_le ha (fun i => (h i).symm)
  apply List.ext_getElem (by omega)
  intro i h1 h2
  have := h i
  rwa [getD_at h1, getD_at h2] at this

theorem ck_past {a : List Int} (ha : ckB a = true) {i : Nat} (hi : 16 ≤ i) : a.getD i 0 = 0 := getD_past (by have := (ckB_true ha).1; omega)

theorem jc_comm {xs ys : List Int} (hx : ckB xs = true) (hy : ckB ys = true) : jcL ys xs = jcL xs ys :=
  ck_ext (jc_ok hy hx) (jc_ok hx hy) fun i => by rw [jc_getD hy hx, jc_getD hx hy]; omega

theorem un_left {xs ys : List Int} (hx : ckB xs = true) (hy : ckB ys = true) : unB xs (jcL xs ys) = true :=
  unB_mk hx (jc_ok hx hy) fun i _ => by rw [jc_getD hx hy]; omega
theorem un_right {xs ys : List Int} (hx : ckB xs = true) (hy : ckB ys = true) : unB ys (jcL xs ys) = true :=
  unB_mk hy (jc_ok hx hy) fun i _ => by rw [jc_getD hx hy]; omega

theorem unB_true {xs ys : List Int} (h : unB xs ys = true) : ∀ i, i < 16 → xs.getD i 0 ≤ ys.getD i 0 := by
  simp only [unB, Bool.and_eq_true, List.all_eq_true, List.mem_range, decide_eq_true_eq] at h
  exact h.2.2

/-- The one is under the other just where joining brings nothing. -/
theorem un_iff {xs ys : List Int} (hx : ckB xs = true) (hy : ckB ys = true) : decide (jcL xs ys = ys) = unB xs ys := by
  cases hu : unB xs ys
  · refine decide_eq_false fun e => ?_
    have := un_left hx hy
    rw [e, hu] at this
    cases this
  · refine decide_eq_true (ck_ext (jc_ok hx hy) hy fun i => ?_)
    rw [jc_getD hx hy]
    by_cases hi : i < 16
    · have := unB_true hu i hi; omega
    · rw [ck_past hx (by omega), ck_past hy (by omega)]; rfl

theorem td_getD {a : List Int} (ha : ckB a = true) (hb : tdB a 3 = true) (i : Nat) : (tdL a 3).getD i 0 = a.getD i 0 + (if i = 3 then 1 else 0) ∧ a.getD 3 0 < 281474976710655 ∧ (tdL a 3) = (pad a 3).set 3 (a.getD 3 0 + 1) := by
  have ho : ofL a 3 = a.getD 3 0 := ofL_nat a 3
  have hm : a.getD 3 0 ≠ 281474976710655 := by
    simp only [tdB, Bool.and_eq_true, Bool.not_eq_true', decide_eq_false_iff_not] at hb
    rw [ho] at hb
    exact hb.2.2
  have hn := getD_nonneg ha 3
  have e : tdL a 3 = (pad a 3).set 3 (a.getD 3 0 + 1) := by
    rw [tdL, if_neg (by simp [ha]), if_pos ⟨by decide, by rw [ho]; exact hm⟩, ho]
    rfl
  refine ⟨?_, by omega, e⟩
  rw [e, List.getD_eq_getElem?_getD, List.getElem?_set]
  have hpl := pad_length a 3
  by_cases h3 : 3 = i
  · subst h3
    rw [if_pos rfl, if_pos (by omega), if_pos rfl]
    rfl
  · rw [if_neg h3, if_neg (by omega), Int.add_zero]
    by_cases hi : i < a.length
    · rw [pad, List.getElem?_append_left hi, List.getD_eq_getElem?_getD]
    · rw [pad, List.getElem?_append_right (by omega), List.getElem?_replicate, getD_past (by omega)]
      split <;> rfl

theorem td_ok {a : List Int} (ha : ckB a = true) (hb : tdB a 3 = true) : ckB (tdL a 3) = true := by
  have h1 := ckB_true ha
  have hl : (tdL a 3).length = max a.length 4 := by rw [(td_getD ha hb 0).2.2, List.length_set, pad_length]
  refine ckB_mk (by omega) (fun j _ => ?_) ?_
  · obtain ⟨e, hm, _⟩ := td_getD ha hb j
    have n1 := getD_nonneg ha j
    rw [e]
    by_cases h3 : j = 3
    · subst h3; rw [if_pos rfl]; exact inB_mk (by omega) (by omega)
    · rw [if_neg h3]; exact inB_mk (by omega) (by omega)
  · right
    obtain ⟨e, hm, _⟩ := td_getD ha hb ((tdL a 3).length - 1)
    rw [e, hl]
    have n1 := (getD_nonneg ha (max a.length 4 - 1)).1
    by_cases h4 : a.length ≤ 4
    · rw [Nat.max_eq_right h4] at n1 ⊢
      rw [if_pos (by omega)]
      omega
    · rw [Nat.max_eq_left (by omega)] at n1 ⊢
      have := h1.2.2 (by omega)
      split <;> omega

theorem td_un {a : List Int} (ha : ckB a = true) (hb : tdB a 3 = true) : unB a (tdL a 3) = true ∧ unB (tdL a 3) a = false ∧ tkL (tdL a 3) 3 = a.getD 3 0 + 1 ∧ tkL a 3 = a.getD 3 0 ∧ 0 ≤ a.getD 3 0 ∧ a.getD 3 0 < 281474976710655 := by
  have ok := td_ok ha hb
  have e3 := td_getD ha hb 3
  have ho : ∀ l : List Int, ofL l 3 = l.getD 3 0 := fun l => ofL_nat l 3
  refine ⟨unB_mk ha ok fun i _ => ?_, unB_not (i := 3) (by omega) ?_, ?_, ?_, (getD_nonneg ha 3).1, e3.2.1⟩
  · rw [(td_getD ha hb i).1]; split <;> omega
  · rw [e3.1, if_pos rfl]; omega
  · rw [tkL_yes ok, ho, e3.1, if_pos rfl]
  · rw [tkL_yes ha, ho]
end Go.Proofs.Yteoalolkjfeeaaa
