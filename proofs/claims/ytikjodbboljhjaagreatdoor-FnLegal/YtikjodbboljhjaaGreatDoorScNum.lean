/-
  What a map by numbers holds.
-/
import Derived.Test.YtikjodbboljhjaaGreatDoorScBy
namespace Go.Proofs.YtikjodbboljhjaaGreatDoor
open Go.RowKit

theorem numF_fold {α : Type} (num : α → Int) (val : α → Value) (o : Int) : ∀ (xs : List α) (f : Int → Option Value), (xs.foldl (fun f x => putM f (num x) (val x)) f) o = ((xs.reverse.find? (fun x => num x == o)).map val).or (f o)
  | [], f => rfl
  | x :: xs, f => by
    rw [List.foldl_cons, numF_fold num val o xs, List.reverse_cons, List.find?_append]
    cases h : xs.reverse.find? (fun x => num x == o) with
    | some y => rfl
    | none =>
      by_cases e : num x = o
      · simp [putM, e]
      · have e2 : ¬ o = num x := fun q => e q.symm
        simp [putM, e, e2]
theorem numF_at {α : Type} (num : α → Int) (val : α → Value) (xs : List α) (o : Int) : numF num val xs o = (xs.reverse.find? (fun x => num x == o)).map val := by
  rw [numF, numF_fold]
  simp
/-- Where no two have one number, the last is the first. -/
theorem find_rev {α : Type} (num : α → Int) (o : Int) (xs : List α) (h : xs.Pairwise (fun a b => num a < num b)) : xs.reverse.find? (fun x => num x == o) = xs.find? (fun x => num x == o) := by
  induction xs with
  | nil => rfl
  | cons x xs ih =>
    obtain ⟨h1, h2⟩ := List.pairwise_cons.1 h
    rw [List.reverse_cons, List.find?_append, ih h2, List.find?_cons]
    by_cases e : num x = o
    · have : xs.find? (fun x => num x == o) = none := List.find?_eq_none.2 fun y hy => by
        have := h1 y hy
        simp
        omega
      simp [this, e]
    · have e2 : (num x == o) = false := by simpa using e
      simp [e2]
theorem numF_up {α : Type} (num : α → Int) (val : α → Value) (xs : List α) (o : Int) (h : xs.Pairwise (fun a b => num a < num b)) : numF num val xs o = (xs.find? (fun x => num x == o)).map val := by
  rw [numF_at, find_rev num o xs h]
/-- Numbers that rise are apart. -/
theorem up_pair {α : Type} (num : α → Int) (most : Int) : ∀ (xs : List α) (last : Int), upFrom most last (xs.map num) = true → (∀ x ∈ xs, last < num x) ∧ xs.Pairwise (fun a b => num a < num b)
  | [], _, _ => ⟨by simp, List.Pairwise.nil⟩
  | x :: xs, last, h => by
    rw [List.map_cons, upFrom] at h
    simp only [Bool.and_eq_true, decide_eq_true_eq] at h
    obtain ⟨⟨h1, _⟩, h3⟩ := h
    obtain ⟨i1, i2⟩ := up_pair num most xs (num x) h3
    refine ⟨fun y hy => ?_, List.pairwise_cons.2 ⟨i1, i2⟩⟩
    rcases List.mem_cons.1 hy with rfl | hy
    · exact h1
    · have := i1 y hy
      omega
end Go.Proofs.YtikjodbboljhjaaGreatDoor
