/-
  Slices of int64 in memory: what it is that one reads as a list of numbers, that a call owns one, and how both outlast what other calls do.
-/
import Derived.Test.YtkfcchapfklpgaaRows
import Derived.WalkKit
import Derived.WalkLawsBesides
import Derived.Below
import Derived.BigQuiet
import Derived.Deep.QuietTactic
import Derived.OpenShut
namespace Go.Proofs.Ytkfcchapfklpgaa
open Go.RowKit

/-- Only new blocks: what was there is as it was. -/
def Fr (w w' : World) : Prop := w.grownBy w' none

theorem Fr.refl (w : World) : Fr w w := ⟨rfl, rfl, rfl, Nat.le_refl _, fun _ _ _ => rfl⟩
theorem Fr.trans {a b c : World} (h : Fr a b) (k : Fr b c) : Fr a c :=
  ⟨k.os.trans h.os, k.tape.trans h.tape, k.output.trans h.output, Nat.le_trans h.size k.size, fun i hi _ => (k.block i (Nat.lt_of_lt_of_le hi h.size) (by simp)).trans (h.block i hi (by simp))⟩
theorem Fr.drewN (w : World) (n : Nat) : Fr w (w.drewN n) := ⟨rfl, rfl, rfl, Nat.le_refl _, fun _ _ _ => rfl⟩
theorem drew2 (w : World) (a b : Nat) : (w.drewN a).drewN b = w.drewN (a + b) := by simp [World.drewN, Nat.add_assoc]
theorem Fr.drew (w : World) : Fr w w.drew := ⟨rfl, rfl, rfl, Nat.le_refl _, fun _ _ _ => rfl⟩
theorem Fr.alloc (w : World) (o : Obj) : Fr w (w.alloc o) := World.grownBy_alloc w o none
/-- Behind new blocks alone, a write into one of those. -/
theorem Fr.then {a b c : World} {row : Option Nat} (h : Fr a b) (k : b.grownBy c row) (hr : ∀ j, row = some j → a.heap.size ≤ j) : Fr a c :=
  ⟨k.os.trans h.os, k.tape.trans h.tape, k.output.trans h.output, Nat.le_trans h.size k.size,
    fun i hi _ => (k.block i (Nat.lt_of_lt_of_le hi h.size) (fun e => by have := hr i e.symm; omega)).trans (h.block i hi (by simp))⟩
theorem Fr.below {w w' : World} (h : Fr w w') : Below w.heap.size w w' := ⟨h.os, h.tape, h.output, h.size, fun k hk => h.block k hk (by simp)⟩
theorem Fr.cell {w w' : World} (h : Fr w w') {p : Addr} {v : Value} (hc : w.cell? p = some v) : w'.cell? p = some v := World.grownBy.cell h hc (by simp)

/-- The greatest and the least int64. -/
def I64 (x : Int) : Prop := -9223372036854775808 ≤ x ∧ x ≤ 9223372036854775807

/-- A slice at the address ao reads as the numbers xs. -/
structure Reads (w : World) (ao : Option Addr) (xs : List Int) : Prop where
  len : xs.length ≤ 4294967296
  bd : ∀ x ∈ xs, I64 x
  at_ : ∀ i, i < xs.length → ∃ b off, ao = some ⟨b, off, none⟩ ∧ ∀ j, j < xs.length → w.cell? ⟨b, off + j, none⟩ = some (.int .i64 (xs.getD j 0))

theorem Reads.nil (w : World) (ao : Option Addr) : Reads w ao [] := ⟨by simp, by simp, by simp⟩

theorem Reads.bdAt {w : World} {ao : Option Addr} {xs : List Int} (h : Reads w ao xs) (i : Nat) : I64 (xs.getD i 0) := by
  by_cases hi : i < xs.length
  · rw [List.getD_eq_getElem?_getD, List.getElem?_eq_getElem hi]; exact h.bd _ (List.getElem_mem hi)
  · rw [List.getD_eq_getElem?_getD, List.getElem?_eq_none (by omega)]; exact ⟨by decide, by decide⟩

/-- The block of a slice's address. -/
def blk (ao : Option Addr) : Option Nat := ao.map (·.block)

theorem Reads.keep {w w' : World} {ao : Option Addr} {xs : List Int} {row : Option Nat} (h : Reads w ao xs) (k : w.grownBy w' row) (hne : row = none ∨ blk ao ≠ row) : Reads w' ao xs := by
  refine ⟨h.len, h.bd, fun i hi => ?_⟩
  obtain ⟨b, off, e, hc⟩ := h.at_ i hi
  refine ⟨b, off, e, fun j hj => k.cell (hc j hj) ?_⟩
  rcases hne with rfl | hne
  · simp
  · intro hh
    apply hne
    rw [e, ← hh]
    rfl
theorem Reads.fr {w w' : World} {ao : Option Addr} {xs : List Int} (h : Reads w ao xs) (k : Fr w w') : Reads w' ao xs := h.keep k (.inl rfl)

/-- A slice that came in, as the frame of a law tells it, reads as its first numbers. -/
theorem reads_of_row {w : World} {a : Option Addr} {len cap : Nat} {zs : List Int}
    (h : (a = none ∧ len = 0 ∧ cap = 0 ∧ zs = []) ∨ ∃ x, a = some x ∧ len ≤ cap ∧ cap ≤ maxLen ∧ zs.length = cap ∧ (∀ i, i < zs.length → w.cell? (x.add i) = some (.int .i64 (zs.getD i 0))) ∧ ∀ n ∈ zs, (Lit.int .i64 n).wf = true)
    (hl : len ≤ 4294967296) : Reads w a (zs.take len) ∧ (zs.take len).length = len := by
  rcases h with ⟨rfl, rfl, rfl, rfl⟩ | ⟨x, rfl, h1, h2, h3, h4, h5⟩
  · exact ⟨Reads.nil _ _, rfl⟩
  · have hlen : (zs.take len).length = len := by simp; omega
    refine ⟨⟨by omega, fun x hx => ?_, fun i hi => ?_⟩, hlen⟩
    · have := bounds_i64 (h5 x (List.mem_of_mem_take hx))
      exact ⟨by omega, by omega⟩
    · rw [hlen] at hi
      obtain ⟨b, off, spot⟩ := x
      have hc := h4 0 (by omega)
      have hspot : spot = none := by
        have := World.cell?_spot hc
        simpa [Addr.add] using this
      subst hspot
      refine ⟨b, off, rfl, fun j hj => ?_⟩
      rw [hlen] at hj
      have := h4 j (by omega)
      simp only [List.getD_eq_getElem?_getD, List.getElem?_take, if_pos hj] at this ⊢
      have e : (⟨b, off, none⟩ : Addr).add j = ⟨b, off + j, none⟩ := by
        by_cases h0 : j = 0
        · subst h0; rfl
        · simp [Addr.add, h0]
      rwa [e] at this

/-- The slice of xs that a call owns: it begins at the head of the block g, which lies from base on. -/
def OwnI (w : World) (base : Nat) (v : Value) (xs : List Int) : Prop :=
  w.ownsRow base 2 1 v xs.length (xs.map (Value.int .i64)) ∧ xs.length ≤ 4294967296 ∧ ∀ x ∈ xs, I64 x

theorem OwnI.reads {w : World} {base : Nat} {g n cap : Nat} {xs : List Int} (h : OwnI w base (.slice (some ⟨g, 0, none⟩) n cap) xs) : Reads w (some ⟨g, 0, none⟩) xs := by
  obtain ⟨ho, hl, hb⟩ := h
  have hn : n = xs.length := by
    rcases ho.2 with ⟨e, _⟩ | ⟨g', c', cur, e, _⟩
    · simp at e
    · simp at e; exact e.2.1
  subst hn
  refine ⟨hl, hb, fun i _ => ⟨g, 0, rfl, fun j hj => ?_⟩⟩
  have := ho.cellAt j (by simpa using hj)
  simp only [Nat.zero_add]
  rw [this]
  simp [List.getElem?_eq_getElem hj, List.getD]

theorem getD_at {xs : List Int} {k : Nat} (h : k < xs.length) : xs.getD k 0 = xs[k] := by
  rw [List.getD_eq_getElem?_getD, List.getElem?_eq_getElem h]; rfl

theorem Try.info2 : (Try.prog.info? 2).map (fun i => (i.zero, i.size, i.bytes)) = some (some (.int .i64 0), 1, 8) := by kernel_rfl

/-- eqInt64S and likeInts answer whether two lists are alike. -/
theorem eq_step {a b : List Int} {k : Nat} (hab : a.length = b.length) (hk : k < a.length) (h : a.take k = b.take k) (e : a[k] = b[k]'(by omega)) : a.take (k + 1) = b.take (k + 1) := by
  rw [List.take_succ_eq_append_getElem hk, List.take_succ_eq_append_getElem (by omega : k < b.length), h, e]

theorem ne_of_at {a b : List Int} {k : Nat} (hk : k < a.length) (hk' : k < b.length) (e : a[k] ≠ b[k]) : (decide (a = b)) = false := by
  simp only [decide_eq_false_iff_not]
  intro h; subst h; exact e rfl
end Go.Proofs.Ytkfcchapfklpgaa
