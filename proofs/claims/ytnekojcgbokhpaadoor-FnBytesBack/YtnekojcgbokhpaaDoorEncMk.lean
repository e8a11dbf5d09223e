/-
  What the program's Encoded answers, under the laws' marks.
-/
import Derived.Test.YtnekojcgbokhpaaDoorEncImpl
namespace Go.Proofs.YtnekojcgbokhpaaDoor
open Go.RowKit

/-- A slice of bytes of one's own, or the constant's three. -/
def Mk (w : World) (g n cap : Nat) (J : List Int) : Prop := (n = J.length ∧ OwnB w 0 (.slice (some ⟨g, 0, none⟩) n cap) J) ∨ (n = 3 ∧ cap = 3 ∧ J = [82, 50, 49] ∧ HdM w g)

theorem Mk.reads {w : World} {g n cap : Nat} {J : List Int} (h : Mk w g n cap J) : ReadsB w (some ⟨g, 0, none⟩) J ∧ J.length = n := by
  rcases h with ⟨rfl, h⟩ | ⟨rfl, rfl, rfl, h⟩
  · exact ⟨h.reads, rfl⟩
  · exact ⟨h.reads, rfl⟩
theorem Mk.keep {w w' : World} {g n cap : Nat} {J : List Int} {row : Option Nat} (h : Mk w g n cap J) (k : w.grownBy w' row) (hr : row ≠ some g) : Mk w' g n cap J := by
  rcases h with ⟨rfl, h⟩ | ⟨rfl, rfl, rfl, h⟩
  · exact .inl ⟨rfl, h.keep k (.inr (by simpa [Value.ownBlock] using Ne.symm hr))⟩
  · exact .inr ⟨rfl, rfl, rfl, h.keep k hr⟩
theorem Mk.fr {w w' : World} {g n cap : Nat} {J : List Int} (h : Mk w g n cap J) (k : Fr w w') : Mk w' g n cap J := h.keep k (by simp)
theorem EncR.mk {es : List Ev} {w w' : World} {v : Value} (h : EncR es w w' v) : ∃ g n cap, v = .slice (some ⟨g, 0, none⟩) n cap ∧ w.heap.size ≤ g ∧ g < w'.heap.size ∧ Mk w' g n cap (encA es) := by
  rcases h with ⟨g, cap, rfl, h⟩ | ⟨rfl, g, rfl, hg, h⟩
  · exact ⟨g, _, cap, rfl, (ownB_lt h).1, (ownB_lt h).2, .inl ⟨rfl, h.lower (Nat.zero_le _)⟩⟩
  · exact ⟨g, 3, 3, rfl, hg, h.lt, .inr ⟨rfl, rfl, rfl, h⟩⟩

end Go.Proofs.YtnekojcgbokhpaaDoor
