/-
  When a scene is right: the model.
-/
import Derived.Test.YtikjodbboljhjaaGreatDoorScLk
namespace Go.Proofs.YtikjodbboljhjaaGreatDoor
open Go.RowKit

/-- Is the element at the place j right, and its number more than that of the one ahead of it? -/
def rowAt {α : Type} (p : α → Bool) (o : α → Int) (xs : List α) (j : Nat) : Bool :=
  match xs[j]? with
  | none => false
  | some x => p x && (decide (j = 0) || (match xs[j - 1]? with | none => false | some y => decide (o y < o x)))
def rowB {α : Type} (p : α → Bool) (o : α → Int) (xs : List α) : Bool := (List.range xs.length).all (rowAt p o xs)
theorem rowB_yes {α : Type} {p : α → Bool} {o : α → Int} {xs : List α} (h : ∀ j, j < xs.length → rowAt p o xs j = true) : rowB p o xs = true := by
  rw [rowB, List.all_eq_true]
  intro j hj
  exact h j (List.mem_range.1 hj)
theorem rowB_no {α : Type} {p : α → Bool} {o : α → Int} {xs : List α} {j : Nat} (hj : j < xs.length) (h : rowAt p o xs j = false) : rowB p o xs = false := by
  rw [rowB, Bool.eq_false_iff]
  intro e
  rw [List.all_eq_true] at e
  have := e j (List.mem_range.2 hj)
  rw [h] at this
  cases this
theorem rowAt_bad {α : Type} {p : α → Bool} {o : α → Int} {xs : List α} {j : Nat} (hj : j < xs.length) (h : p xs[j] = false) : rowAt p o xs j = false := by
  simp [rowAt, List.getElem?_eq_getElem hj, h]
theorem rowAt_zero {α : Type} {p : α → Bool} {o : α → Int} {xs : List α} (hj : 0 < xs.length) (h : p xs[0] = true) : rowAt p o xs 0 = true := by
  simp [rowAt, List.getElem?_eq_getElem hj, h]
theorem rowAt_up {α : Type} {p : α → Bool} {o : α → Int} {xs : List α} {k : Nat} (hj : k + 1 < xs.length) (h : p xs[k + 1] = true) (hu : o xs[k] < o xs[k + 1]) : rowAt p o xs (k + 1) = true := by
  simp [rowAt, List.getElem?_eq_getElem hj, List.getElem?_eq_getElem (show k < xs.length by omega), h, hu]
theorem rowAt_down {α : Type} {p : α → Bool} {o : α → Int} {xs : List α} {k : Nat} (hj : k + 1 < xs.length) (hu : o xs[k + 1] ≤ o xs[k]) : rowAt p o xs (k + 1) = false := by
  have : ¬ o xs[k] < o xs[k + 1] := by omega
  simp [rowAt, List.getElem?_eq_getElem hj, List.getElem?_eq_getElem (show k < xs.length by omega), this]
theorem rowAt_next {α : Type} {p : α → Bool} {o : α → Int} {xs : List α} {k : Nat} (h : ∀ j, j < k → rowAt p o xs j = true) (hk : rowAt p o xs k = true) : ∀ j, j < k + 1 → rowAt p o xs j = true := by
  intro j hj
  by_cases e : j = k
  · rw [e]; exact hk
  · exact h j (by omega)

def ctB (c : Ct) : Bool := inB 0 15 c.o && inB 1 1000000 c.n
def scB (m : Scn) : Bool := inB 1 16 m.g && (rowB (lkB m.g) Lk.o m.ls && (rowB chB Ch.o m.cs && (rowB ctB Ct.o m.gs && rowB (inB 0 15) (fun x => x) m.os)))
end Go.Proofs.YtikjodbboljhjaaGreatDoor
