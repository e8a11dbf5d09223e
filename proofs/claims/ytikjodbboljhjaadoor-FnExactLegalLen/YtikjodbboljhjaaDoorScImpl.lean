/-
  The program's locksOk, chansOk, groupsOk and SceneOk.
-/
import Derived.Test.YtikjodbboljhjaaDoorScRise
import Derived.Test.YtikjodbboljhjaaDoorScIs
namespace Go.Proofs.YtikjodbboljhjaaDoor
open Go.RowKit

/-- A lock as the program asks: a writer and no readers, or readers that rise and no writer. -/
def lk2 (g : Int) (l : Lk) : Bool := (decide (l.rd.length = 0) && inB 0 (g - 1) l.wr) || (decide (0 < l.rd.length) && (l.wr == -1) && upFrom (g - 1) (-1) l.rd)
def ch2 (c : Ch) : Bool := inB 0 8 c.cap && inB 0 1000000 c.sent && inB 0 c.sent c.got && decide (c.sent - c.got ≤ c.cap)
theorem all_take {α : Type} {p : α → Bool} {xs : List α} (h : ∀ j (hj : j < xs.length), p xs[j] = true) : xs.all p = true := by
  rw [List.all_eq_true]
  intro x hx
  obtain ⟨j, hj, rfl⟩ := List.mem_iff_getElem.1 hx
  exact h j hj
theorem all_bad {α : Type} {p : α → Bool} {xs : List α} {k : Nat} (hk : k < xs.length) (h : p xs[k] = false) : xs.all p = false := by
  rw [List.all_eq_false]
  exact ⟨xs[k], List.getElem_mem hk, by simp [h]⟩
theorem upto_good {α : Type} {p : α → Bool} {xs : List α} {k : Nat} (h : ∀ j (hj : j < xs.length), j < k → p xs[j] = true) (hk : k < xs.length) (he : p xs[k] = true) : ∀ j (hj : j < xs.length), j < k + 1 → p xs[j] = true := by
  intro j hj hjk
  by_cases e : j = k
  · subst e; exact he
  · exact h j hj (by omega)

end Go.Proofs.YtikjodbboljhjaaDoor
