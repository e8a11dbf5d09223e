/-
  Slices of bytes in memory, as Ints has them of int64: reading one, owning one, a copy (toByteS), comparing two (eqByteS), marks in one (markByteS, heldByteS), appending to one.
-/
import Derived.Test.YtikjodbboljhjaaGreatDoorInts
import Derived.Laws.AppendOwnNone
namespace Go.Proofs.YtikjodbboljhjaaGreatDoor
open Go.RowKit

/-- A byte. -/
def U8 (x : Int) : Prop := 0 ≤ x ∧ x ≤ 255

/-- A slice at the address ao reads as the numbers xs. -/
structure ReadsB (w : World) (ao : Option Addr) (xs : List Int) : Prop where
  len : xs.length ≤ 4294967296
  bd : ∀ x ∈ xs, U8 x
  at_ : ∀ i, i < xs.length → ∃ b off, ao = some ⟨b, off, none⟩ ∧ ∀ j, j < xs.length → w.cell? ⟨b, off + j, none⟩ = some (.int .u8 (xs.getD j 0))

theorem ReadsB.nil (w : World) (ao : Option Addr) : ReadsB w ao [] := ⟨by simp, by simp, by simp⟩

theorem ReadsB.bdAt {w : World} {ao : Option Addr} {xs : List Int} (h : ReadsB w ao xs) (i : Nat) : U8 (xs.getD i 0) := by
  by_cases hi : i < xs.length
  · rw [List.getD_eq_getElem?_getD, List.getElem?_eq_getElem hi]; exact h.bd _ (List.getElem_mem hi)
  · rw [List.getD_eq_getElem?_getD, List.getElem?_eq_none (by omega)]; exact ⟨by decide, by decide⟩

theorem ReadsB.keep {w w' : World} {ao : Option Addr} {xs : List Int} {row : Option Nat} (h : ReadsB w ao xs) (k : w.grownBy w' row) (hne : row = none ∨ blk ao ≠ row) : ReadsB w' ao xs := by
  refine ⟨h.len, h.bd, fun i hi => ?_⟩
  obtain ⟨b, off, e, hc⟩ := h.at_ i hi
  refine ⟨b, off, e, fun j hj => k.cell (hc j hj) ?_⟩
  rcases hne with rfl | hne
  · simp
  · intro hh
    apply hne
    rw [e, ← hh]
    rfl
theorem ReadsB.fr {w w' : World} {ao : Option Addr} {xs : List Int} (h : ReadsB w ao xs) (k : Fr w w') : ReadsB w' ao xs := h.keep k (.inl rfl)

/-- A slice that came in, as the frame of a law tells it, reads as its first numbers. -/
theorem readsB_of_row {w : World} {a : Option Addr} {len cap : Nat} {zs : List Int}
    (h : (a = none ∧ len = 0 ∧ cap = 0 ∧ zs = []) ∨ ∃ x, a = some x ∧ len ≤ cap ∧ cap ≤ maxLen ∧ zs.length = cap ∧ (∀ i, i < zs.length → w.cell? (x.add i) = some (.int .u8 (zs.getD i 0))) ∧ ∀ n ∈ zs, (Lit.int .u8 n).wf = true)
    (hl : len ≤ 4294967296) : ReadsB w a (zs.take len) ∧ (zs.take len).length = len := by
  rcases h with ⟨rfl, rfl, rfl, rfl⟩ | ⟨x, rfl, h1, h2, h3, h4, h5⟩
  · exact ⟨ReadsB.nil _ _, rfl⟩
  · have hlen : (zs.take len).length = len := by simp; omega
    refine ⟨⟨by omega, fun x hx => ?_, fun i hi => ?_⟩, hlen⟩
    · have := bounds_u8 (h5 x (List.mem_of_mem_take hx))
      exact ⟨by omega, by omega⟩
    · rw [hlen] at hi
      obtain ⟨b, off, spot⟩ := x
      have hc := h4 0 (by omega)
      have hspot : spot = none := by
        have := World.cell?_spot hc
        simpa [Addr.add] using this
      subst hspot
      refine ⟨b, off, rfl, fun j hj => ?_⟩
      rw [hlen] at hj
      have := h4 j (by omega)
      simp only [List.getD_eq_getElem?_getD, List.getElem?_take, if_pos hj] at this ⊢
      have e : (⟨b, off, none⟩ : Addr).add j = ⟨b, off + j, none⟩ := by
        by_cases h0 : j = 0
        · subst h0; rfl
        · simp [Addr.add, h0]
      rwa [e] at this

/-- The slice of xs that a call owns: it begins at the head of the block g, which lies from base on. -/
def OwnB (w : World) (base : Nat) (v : Value) (xs : List Int) : Prop :=
  w.ownsRow base 5 1 v xs.length (xs.map (Value.int .u8)) ∧ xs.length ≤ 4294967296 ∧ ∀ x ∈ xs, U8 x

theorem OwnB.reads {w : World} {base : Nat} {g n cap : Nat} {xs : List Int} (h : OwnB w base (.slice (some ⟨g, 0, none⟩) n cap) xs) : ReadsB w (some ⟨g, 0, none⟩) xs := by
  obtain ⟨ho, hl, hb⟩ := h
  have hn : n = xs.length := by
    rcases ho.2 with ⟨e, _⟩ | ⟨g', c', cur, e, _⟩
    · simp at e
    · simp at e; exact e.2.1
  subst hn
  refine ⟨hl, hb, fun i _ => ⟨g, 0, rfl, fun j hj => ?_⟩⟩
  have := ho.cellAt j (by simpa using hj)
  simp only [Nat.zero_add]
  rw [this]
  simp [List.getElem?_eq_getElem hj, List.getD]

theorem Tryz.info5 : (Tryz.prog.info? 5).map (fun i => (i.zero, i.size, i.bytes)) = some (some (.int .u8 0), 1, 1) := by kernel_rfl
end Go.Proofs.YtikjodbboljhjaaGreatDoor
