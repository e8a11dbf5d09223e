/-
  What can be done leaves a right scene; what is found in a scene behind it.
-/
import Derived.Test.YtikjodbboljhjaaGreatDoorScSame
namespace Go.Proofs.YtikjodbboljhjaaGreatDoor
open Go.RowKit

section lists
variable {α : Type} (key : α → Int) (x : α)

theorem fold_true : ∀ (xs out : List α), xs.foldl (setS key x) (out, true) = (out ++ xs.filter (fun y => !(key y == key x)), true)
  | [], out => by simp
  | y :: ys, out => by
    rw [List.foldl_cons]
    by_cases h : key y = key x
    · rw [setS_by h, fold_true ys out, List.filter_cons_of_neg (by simp [h])]
    · rw [setS_go h, fold_true ys (out ++ [y]), List.filter_cons_of_pos (by simp [h])]
      simp
theorem setL_del (xs : List α) : setL key x true xs = xs.filter (fun y => !(key y == key x)) := by
  unfold setL setP
  rw [fold_true]
  simp
theorem fold_false : ∀ (xs out : List α), (xs.map key).Pairwise (· < ·) → (if (xs.foldl (setS key x) (out, false)).2 then (xs.foldl (setS key x) (out, false)).1 else (xs.foldl (setS key x) (out, false)).1 ++ [x]) = out ++ xs.filter (fun y => decide (key y < key x)) ++ [x] ++ xs.filter (fun y => decide (key x < key y))
  | [], out, _ => by simp
  | y :: ys, out, h => by
    rw [List.map_cons, List.pairwise_cons] at h
    obtain ⟨h1, h2⟩ := h
    have h1 : ∀ z ∈ ys, key y < key z := fun z hz => h1 _ (List.mem_map_of_mem hz)
    rw [List.foldl_cons]
    by_cases hlt : key y < key x
    · rw [setS_on hlt, fold_false ys (out ++ [y]) h2, List.filter_cons_of_pos (by simpa using hlt), List.filter_cons_of_neg (by simp; omega)]
      simp
    · by_cases heq : key y = key x
      · rw [setS_at heq, fold_true]
        have e1 : ys.filter (fun z => !(key z == key x)) = ys.filter (fun z => decide (key x < key z)) := List.filter_congr fun z hz => by
          have := h1 z hz
          have q1 : ¬ key z = key x := by omega
          have q2 : key x < key z := by omega
          simp [q1, q2]
        have e2 : ys.filter (fun z => decide (key z < key x)) = [] := List.filter_eq_nil_iff.2 fun z hz => by
          have := h1 z hz
          simp; omega
        rw [List.filter_cons_of_neg (by simp; omega), List.filter_cons_of_neg (by simp; omega), e1, e2]
        simp
      · have hgt : key x < key y := by omega
        rw [setS_in hgt, fold_true]
        have e1 : ys.filter (fun z => !(key z == key x)) = ys.filter (fun z => decide (key x < key z)) := List.filter_congr fun z hz => by
          have := h1 z hz
          have q1 : ¬ key z = key x := by omega
          have q2 : key x < key z := by omega
          simp [q1, q2]
        have e2 : ys.filter (fun z => decide (key z < key x)) = [] := List.filter_eq_nil_iff.2 fun z hz => by
          have := h1 z hz
          simp; omega
        rw [List.filter_cons_of_neg (by simp; omega), List.filter_cons_of_pos (by simpa using hgt), e1, e2]
        simp
theorem setL_put (xs : List α) (h : (xs.map key).Pairwise (· < ·)) : setL key x false xs = xs.filter (fun y => decide (key y < key x)) ++ [x] ++ xs.filter (fun y => decide (key x < key y)) := by
  have h2 := fold_false key x xs [] h
  unfold setL setP
  cases hb : (xs.foldl (setS key x) ([], false)).2 <;> rw [hb] at h2 <;> simpa using h2

/-- Rising stays rising. -/
theorem rise_setL (put : Bool) (xs : List α) (h : (xs.map key).Pairwise (· < ·)) : ((setL key x put xs).map key).Pairwise (· < ·) := by
  have h := List.pairwise_map.1 h
  cases put
  · rw [setL_put key x xs (List.pairwise_map.2 h)]
    refine List.pairwise_map.2 ?_
    rw [List.append_assoc, List.pairwise_append]
    refine ⟨h.sublist List.filter_sublist, ?_, fun a ha b hb => ?_⟩
    · rw [List.singleton_append, List.pairwise_cons]
      exact ⟨fun b hb => by have := (List.mem_filter.1 hb).2; simpa using this, h.sublist List.filter_sublist⟩
    · have ha := (List.mem_filter.1 ha).2
      simp only [decide_eq_true_eq] at ha
      rcases List.mem_append.1 hb with hb | hb
      · rw [List.mem_singleton.1 hb]; exact ha
      · have hb := (List.mem_filter.1 hb).2
        simp only [decide_eq_true_eq] at hb
        omega
  · rw [setL_del]
    exact List.pairwise_map.2 (h.sublist List.filter_sublist)
theorem mem_setL (put : Bool) (xs : List α) (h : (xs.map key).Pairwise (· < ·)) : ∀ y ∈ setL key x put xs, y ∈ xs ∨ (put = false ∧ y = x) := by
  intro y hy
  cases put
  · rw [setL_put key x xs h] at hy
    rcases List.mem_append.1 hy with hy | hy
    · rcases List.mem_append.1 hy with hy | hy
      · exact .inl (List.mem_filter.1 hy).1
      · exact .inr ⟨rfl, List.mem_singleton.1 hy⟩
    · exact .inl (List.mem_filter.1 hy).1
  · rw [setL_del] at hy
    exact .inl (List.mem_filter.1 hy).1
theorem find_filter (p : α → Bool) (o : Int) : ∀ (xs : List α), (∀ y, key y = o → p y = true) → (xs.filter p).find? (fun y => key y == o) = xs.find? (fun y => key y == o)
  | [], _ => rfl
  | y :: ys, h => by
    by_cases hy : key y = o
    · rw [List.filter_cons_of_pos (h y hy), List.find?_cons, List.find?_cons]
      simp [hy]
    · have e : (key y == o) = false := by simpa using hy
      cases hp : p y
      · rw [List.filter_cons_of_neg (by simp [hp]), find_filter p o ys h, List.find?_cons, e]
      · rw [List.filter_cons_of_pos hp, List.find?_cons, List.find?_cons, e, find_filter p o ys h]
theorem find_out (p : α → Bool) (o : Int) (xs : List α) (h : ∀ y, key y = o → p y = false) : (xs.filter p).find? (fun y => key y == o) = none :=
  List.find?_eq_none.2 fun y hy => by
    have hp := (List.mem_filter.1 hy).2
    intro q
    rw [h y (by simpa using q)] at hp
    cases hp
/-- What is found behind it. -/
theorem find_setL (put : Bool) (xs : List α) (h : (xs.map key).Pairwise (· < ·)) (o : Int) : (setL key x put xs).find? (fun y => key y == o) = if o = key x then (if put = true then none else some x) else xs.find? (fun y => key y == o) := by
  by_cases ho : o = key x
  · rw [if_pos ho]
    subst ho
    cases put
    · rw [setL_put key x xs h, List.append_assoc, List.find?_append, find_out key _ _ xs (fun y hy => by simp; omega)]
      simp
    · rw [setL_del, find_out key _ _ xs (fun y hy => by simp [hy])]
      simp
  · rw [if_neg ho]
    cases put
    · rw [setL_put key x xs h, List.append_assoc, List.find?_append, List.singleton_append, List.find?_cons, show (key x == o) = false by simpa using fun q => ho q.symm]
      by_cases hlt : o < key x
      · rw [find_filter key (fun y => decide (key y < key x)) o xs (fun y hy => by simp; omega), find_out key (fun y => decide (key x < key y)) o xs (fun y hy => by simp; omega)]
        simp
      · rw [find_out key (fun y => decide (key y < key x)) o xs (fun y hy => by simp; omega), find_filter key (fun y => decide (key x < key y)) o xs (fun y hy => by simp; omega)]
        simp
    · rw [setL_del, find_filter key _ o xs (fun y hy => by simp; omega)]
end lists

/-- withL of a rising list that has not the number. -/
theorem inP_true (x : Int) : ∀ (xs out : List Int), xs.foldl (inS x) (out, true) = (out ++ xs, true)
  | [], out => by simp
  | y :: ys, out => by
    rw [List.foldl_cons, show inS x (out, true) y = (out ++ [y], true) by simp [inS], inP_true x ys]
    simp
theorem inP_false (x : Int) : ∀ (xs out : List Int), xs.Pairwise (· < ·) → (if (xs.foldl (inS x) (out, false)).2 then (xs.foldl (inS x) (out, false)).1 else (xs.foldl (inS x) (out, false)).1 ++ [x]) = out ++ xs.filter (fun y => decide (y ≤ x)) ++ [x] ++ xs.filter (fun y => decide (x < y))
  | [], out, _ => by simp
  | y :: ys, out, h => by
    rw [List.pairwise_cons] at h
    obtain ⟨h1, h2⟩ := h
    rw [List.foldl_cons]
    by_cases hlt : x < y
    · rw [show inS x (out, false) y = (out ++ [x] ++ [y], true) by simp [inS, hlt], inP_true]
      have e1 : ys.filter (fun z => decide (x < z)) = ys := List.filter_eq_self.2 fun z hz => by
        have := h1 z hz
        simp; omega
      have e2 : ys.filter (fun z => decide (z ≤ x)) = [] := List.filter_eq_nil_iff.2 fun z hz => by
        have := h1 z hz
        simp; omega
      rw [List.filter_cons_of_neg (by simp; omega), List.filter_cons_of_pos (by simpa using hlt), e1, e2]
      simp
    · rw [show inS x (out, false) y = (out ++ [y], false) by simp [inS, hlt], inP_false x ys _ h2, List.filter_cons_of_pos (by simp; omega), List.filter_cons_of_neg (by simpa using hlt)]
      simp
theorem withL_eq (xs : List Int) (x : Int) (h : xs.Pairwise (· < ·)) : withL xs x = xs.filter (fun y => decide (y ≤ x)) ++ [x] ++ xs.filter (fun y => decide (x < y)) := by
  have h2 := inP_false x xs [] h
  unfold withL inP
  cases hb : (xs.foldl (inS x) ([], false)).2 <;> rw [hb] at h2 <;> simpa using h2
theorem mem_withL (xs : List Int) (x : Int) (h : xs.Pairwise (· < ·)) (y : Int) : y ∈ withL xs x ↔ y ∈ xs ∨ y = x := by
  rw [withL_eq xs x h]
  simp only [List.mem_append, List.mem_filter, decide_eq_true_eq, List.mem_singleton]
  constructor
  · rintro ((h | h) | h)
    · exact .inl h.1
    · exact .inr h
    · exact .inl h.1
  · rintro (h | h)
    · by_cases q : y ≤ x
      · exact .inl (.inl ⟨h, q⟩)
      · exact .inr ⟨h, by omega⟩
    · exact .inl (.inr h)
theorem rise_withL (xs : List Int) (x : Int) (h : xs.Pairwise (· < ·)) (hx : memB xs x = false) : (withL xs x).Pairwise (· < ·) := by
  have hn : ∀ y ∈ xs, y ≠ x := fun y hy e => by
    rw [memB, List.any_eq_false] at hx
    exact hx y hy (by simp [e])
  rw [withL_eq xs x h, List.append_assoc, List.pairwise_append]
  refine ⟨h.sublist List.filter_sublist, ?_, fun a ha b hb => ?_⟩
  · rw [List.singleton_append, List.pairwise_cons]
    exact ⟨fun b hb => by have := (List.mem_filter.1 hb).2; simpa using this, h.sublist List.filter_sublist⟩
  · obtain ⟨ha1, ha2⟩ := List.mem_filter.1 ha
    have hne := hn a ha1
    simp only [decide_eq_true_eq] at ha2
    rcases List.mem_append.1 hb with hb | hb
    · rw [List.mem_singleton.1 hb]; omega
    · have hb := (List.mem_filter.1 hb).2
      simp only [decide_eq_true_eq] at hb
      omega
theorem find_self (o : Int) : ∀ (xs : List Int), xs.find? (fun y => y == o) = if o ∈ xs then some o else none
  | [] => by simp
  | y :: ys => by
    rw [List.find?_cons]
    by_cases h : y = o
    · simp [h]
    · have e : (y == o) = false := by simpa using h
      have e2 : ¬ o = y := fun q => h q.symm
      rw [e, find_self o ys]
      simp [e2]
end Go.Proofs.YtikjodbboljhjaaGreatDoor
