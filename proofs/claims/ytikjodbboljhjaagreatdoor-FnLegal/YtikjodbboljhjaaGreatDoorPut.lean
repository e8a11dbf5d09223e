/-
  PutNumber, of the program and of its specification: what is put, in new memory.
-/
import Derived.Test.YtikjodbboljhjaaGreatDoorNum
import Derived.Test.YtikjodbboljhjaaGreatDoorBytesApp
import Derived.Test.YtikjodbboljhjaaGreatDoorRange
namespace Go.Proofs.YtikjodbboljhjaaGreatDoor
open Go.RowKit

/-- A block of bytes. -/
def isB (w : World) (b : Nat) : Prop := ∃ cur fz, w.heap[b]? = some (.cells cur 5 fz)
/-- What lies below base, and what is no block of bytes, stays. -/
structure FrB (base : Nat) (w w' : World) : Prop where
  os : w'.os = w.os
  tape : w'.tape = w.tape
  output : w'.output = w.output
  size : w.heap.size ≤ w'.heap.size
  block : ∀ b, b < w.heap.size → (b < base ∨ ¬ isB w b) → w'.heap[b]? = w.heap[b]?

theorem FrB.refl (base : Nat) (w : World) : FrB base w w := ⟨rfl, rfl, rfl, Nat.le_refl _, fun _ _ _ => rfl⟩
theorem Fr.toB {w w' : World} (base : Nat) (h : Fr w w') : FrB base w w' := ⟨h.os, h.tape, h.output, h.size, fun b hb _ => h.block b hb (by simp)⟩
theorem FrB.trans {base : Nat} {a b c : World} (h : FrB base a b) (k : FrB base b c) : FrB base a c := by
  refine ⟨k.os.trans h.os, k.tape.trans h.tape, k.output.trans h.output, Nat.le_trans h.size k.size, fun i hi hb => ?_⟩
  have h1 := h.block i hi hb
  rw [← h1]
  refine k.block i (Nat.lt_of_lt_of_le hi h.size) (hb.imp id fun hn => ?_)
  rintro ⟨cur, fz, e⟩
  exact hn ⟨cur, fz, by rw [← h1]; exact e⟩
theorem FrB.lower {base base' : Nat} {w w' : World} (h : FrB base w w') (hb : base' ≤ base) : FrB base' w w' :=
  ⟨h.os, h.tape, h.output, h.size, fun i hi hx => h.block i hi (hx.imp (fun q => by omega) id)⟩
/-- Where all that was there lies below base. -/
theorem Fr.thenB {a b c : World} {base : Nat} (h : Fr a b) (k : FrB base b c) (hb : a.heap.size ≤ base) : Fr a c :=
  ⟨k.os.trans h.os, k.tape.trans h.tape, k.output.trans h.output, Nat.le_trans h.size k.size, fun i hi _ => (k.block i (Nat.lt_of_lt_of_le hi h.size) (.inl (by omega))).trans (h.block i hi (by simp))⟩

theorem OwnBS.isB {w : World} {base : Nat} {v : Value} {xs : List Int} (h : OwnBS w base v xs) : ∃ g, v.ownBlock = some g ∧ base ≤ g ∧ isB w g := by
  obtain ⟨g, cap, rfl, ho⟩ := h
  rcases ho.1.2 with ⟨e, _⟩ | ⟨g', c', cur, e, hg, h1, h2⟩
  · simp at e
  · simp only [Value.slice.injEq, Option.some.injEq, Addr.mk.injEq, and_true] at e
    obtain ⟨rfl, -, rfl⟩ := e
    exact ⟨g, rfl, hg, cur, _, h1⟩
theorem OwnBS.frB {w w' : World} {base : Nat} {v : Value} {xs : List Int} (h : OwnBS w base v xs) (k : w.grownBy w' v.ownBlock) : FrB base w w' := by
  obtain ⟨g, e, hb, hg⟩ := h.isB
  refine ⟨k.os, k.tape, k.output, k.size, fun i hi hx => k.block i hi ?_⟩
  rw [e]
  intro q
  simp only [Option.some.injEq] at q
  subst q
  rcases hx with hx | hx
  · omega
  · exact hx hg

theorem ReadsB.take {w : World} {ao : Option Addr} {xs : List Int} (h : ReadsB w ao xs) (k : Nat) : ReadsB w ao (xs.take k) := by
  refine ⟨by have := h.len; simp; omega, fun x hx => h.bd x (List.mem_of_mem_take hx), fun i hi => ?_⟩
  simp only [List.length_take] at hi
  obtain ⟨b, off, e, hc⟩ := h.at_ i (by omega)
  refine ⟨b, off, e, fun j hj => ?_⟩
  simp only [List.length_take] at hj
  rw [hc j (by omega)]
  simp [List.getD, show j < k by omega]
theorem ownB_cap {w : World} {base g n cap : Nat} {xs : List Int} (h : OwnB w base (.slice (some ⟨g, 0, none⟩) n cap) xs) : n = xs.length ∧ n ≤ cap := by
  rcases h.1.2 with ⟨e, _⟩ | ⟨g', c', cur, e, _, _, h4, _⟩
  · simp at e
  · simp only [Value.slice.injEq] at e
    obtain ⟨-, rfl, rfl⟩ := e
    exact ⟨rfl, h4⟩
/-- '[]byte{..}' -/
theorem ownB_lit (w : World) (xs : List Int) (hl : xs.length ≤ 4294967296) (hb : ∀ x ∈ xs, U8 x) : OwnBS (w.alloc (.cells (xs.map (Value.int .u8)).toArray 5)) w.heap.size (.slice (some ⟨w.heap.size, 0, none⟩) xs.length xs.length) xs :=
  ⟨w.heap.size, xs.length, rfl, ⟨by simp, .inr ⟨w.heap.size, xs.length, _, rfl, Nat.le_refl _, heap_alloc_new w _, Nat.le_refl _, by unfold maxLen; omega, by simp, by rw [Nat.mul_one]; exact List.take_of_length_le (by simp)⟩⟩, hl, hb⟩
/-- '[]byte{}' -/
theorem ownB_new (w : World) : OwnBS (w.alloc (.cells #[] 5)) w.heap.size (.slice (some ⟨w.heap.size, 0, none⟩) 0 0) [] := ownB_empty w _ (Nat.le_refl _)

/-- What PutNumber answers. -/
def putA (n : Int) : List Int := if inB 0 4398046511103 n then putL n else []

end Go.Proofs.YtikjodbboljhjaaGreatDoor
