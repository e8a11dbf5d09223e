/-
  Slices of structs in memory, whatever the struct: reading one, owning one, 'append' of one element.
-/
import Derived.Test.YtkfcchapfklpgaaIntsApp
import Derived.Maps.AppendAt
namespace Go.Proofs.Ytkfcchapfklpgaa
open Go.RowKit

/-- How an element lies: its type, its cells. -/
structure Lay (α : Type) where
  ty : Nat
  sz : Nat
  cs : α → List Value
  pos : 0 < sz
  len : ∀ x, (cs x).length = sz
  one : ∀ x, ∀ u ∈ cs x, u.oneCell' = true

/-- A slice at the address ao reads as the elements xs. -/
structure ReadsG {α : Type} (L : Lay α) (w : World) (ao : Option Addr) (xs : List α) : Prop where
  len : xs.length ≤ 16777216
  at_ : ∀ i, i < xs.length → ∃ b off, ao = some ⟨b, off, none⟩ ∧ ∀ j (hj : j < xs.length) k, k < L.sz → w.cell? ⟨b, off + j * L.sz + k, none⟩ = (L.cs xs[j])[k]?

theorem ReadsG.nil {α : Type} (L : Lay α) (w : World) (ao : Option Addr) : ReadsG L w ao [] := ⟨by simp, by simp⟩
theorem ReadsG.keep {α : Type} {L : Lay α} {w w' : World} {ao : Option Addr} {xs : List α} {row : Option Nat} (h : ReadsG L w ao xs) (k : w.grownBy w' row) (hne : row = none ∨ blk ao ≠ row) : ReadsG L w' ao xs := by
  refine ⟨h.len, fun i hi => ?_⟩
  obtain ⟨b, off, e, hc⟩ := h.at_ i hi
  refine ⟨b, off, e, fun j hj q hq => ?_⟩
  have h0 := hc j hj q hq
  have hlt : q < (L.cs xs[j]).length := by rw [L.len]; exact hq
  rw [List.getElem?_eq_getElem hlt] at h0 ⊢
  refine k.cell h0 ?_
  rcases hne with rfl | hne
  · simp
  · intro hh
    apply hne
    rw [e, ← hh]
    rfl
theorem ReadsG.fr {α : Type} {L : Lay α} {w w' : World} {ao : Option Addr} {xs : List α} (h : ReadsG L w ao xs) (k : Fr w w') : ReadsG L w' ao xs := h.keep k (.inl rfl)

theorem cellsG_at {α : Type} (L : Lay α) (xs : List α) (j k : Nat) (hj : j < xs.length) (hk : k < L.sz) : (xs.flatMap L.cs)[j * L.sz + k]? = (L.cs xs[j])[k]? := by
  induction xs generalizing j with
  | nil => simp at hj
  | cons e es ih =>
    have h8 := L.len e
    cases j with
    | zero => rw [List.flatMap_cons, Nat.zero_mul, Nat.zero_add, List.getElem?_append_left (by omega)]; rfl
    | succ j =>
      have e1 : (j + 1) * L.sz + k - L.sz = j * L.sz + k := by rw [Nat.succ_mul]; omega
      rw [List.flatMap_cons, List.getElem?_append_right (by rw [Nat.succ_mul]; omega), h8, e1, ih j (by simpa using hj)]
      rfl

/-- The slice of the elements xs that a call owns: it begins at the head of a block from base on. -/
def OwnG {α : Type} (L : Lay α) (w : World) (base : Nat) (v : Value) (xs : List α) : Prop :=
  ∃ g cap, v = .slice (some ⟨g, 0, none⟩) xs.length cap ∧ w.ownsRow base L.ty L.sz (.slice (some ⟨g, 0, none⟩) xs.length cap) xs.length (xs.flatMap L.cs) ∧ xs.length ≤ 16777216

theorem own_readsG {α : Type} {L : Lay α} {w : World} {base g cap : Nat} {xs : List α} (h : w.ownsRow base L.ty L.sz (.slice (some ⟨g, 0, none⟩) xs.length cap) xs.length (xs.flatMap L.cs)) (hl : xs.length ≤ 16777216) : ReadsG L w (some ⟨g, 0, none⟩) xs := by
  refine ⟨hl, fun i hi => ⟨g, 0, rfl, fun j hj k hk => ?_⟩⟩
  have hm : (j + 1) * L.sz ≤ xs.length * L.sz := Nat.mul_le_mul_right _ hj
  rw [Nat.succ_mul] at hm
  have := h.cellAt (j * L.sz + k) (by omega)
  rw [Nat.zero_add, this, cellsG_at L xs j k hj hk]
theorem OwnG.keep {α : Type} {L : Lay α} {w w' : World} {base : Nat} {v : Value} {xs : List α} {row : Option Nat} (h : OwnG L w base v xs) (k : w.grownBy w' row) (hne : v.ownBlock ≠ row) : OwnG L w' base v xs := by
  obtain ⟨g, cap, rfl, ho, hl⟩ := h
  exact ⟨g, cap, rfl, ho.kept k (.inr hne), hl⟩
theorem OwnG.fr {α : Type} {L : Lay α} {w w' : World} {base : Nat} {v : Value} {xs : List α} (h : OwnG L w base v xs) (k : Fr w w') : OwnG L w' base v xs := by
  obtain ⟨g, cap, rfl, ho, hl⟩ := h
  exact ⟨g, cap, rfl, ho.kept k (by simp [Value.ownBlock]), hl⟩
theorem OwnG.blk {α : Type} {L : Lay α} {w : World} {base : Nat} {v : Value} {xs : List α} (h : OwnG L w base v xs) : ∀ j, v.ownBlock = some j → base ≤ j := by
  obtain ⟨g, cap, rfl, ho, hl⟩ := h
  intro j hj
  exact (ho.lt j hj).1
theorem OwnG.lt {α : Type} {L : Lay α} {w : World} {base : Nat} {v : Value} {xs : List α} (h : OwnG L w base v xs) : ∀ j, v.ownBlock = some j → j < w.heap.size := by
  obtain ⟨g, cap, rfl, ho, hl⟩ := h
  intro j hj
  exact (ho.lt j hj).2
theorem OwnG.lower {α : Type} {L : Lay α} {w : World} {base base' : Nat} {v : Value} {xs : List α} (h : OwnG L w base v xs) (hb : base' ≤ base) : OwnG L w base' v xs := by
  obtain ⟨g, cap, rfl, ho, hl⟩ := h
  refine ⟨g, cap, rfl, ⟨ho.1, ?_⟩, hl⟩
  rcases ho.2 with e | ⟨g, cap, cur, e, hg, r⟩
  · exact .inl e
  · exact .inr ⟨g, cap, cur, e, by omega, r⟩
theorem ownG_new {α : Type} (L : Lay α) (w : World) (base : Nat) (hb : base ≤ w.heap.size) : OwnG L (w.alloc (.cells #[] L.ty)) base (.slice (some ⟨w.heap.size, 0, none⟩) 0 0) [] :=
  ⟨w.heap.size, 0, rfl, ⟨by simp, .inr ⟨w.heap.size, 0, #[], rfl, hb, heap_alloc_new w _, Nat.le_refl _, by unfold maxLen; omega, by simp, by simp⟩⟩, by simp⟩

theorem appG {α : Type} (L : Lay α) (w : World) {ops : Array Oper} {rest : List Oper} {o : Oper} {a : Act} {Q : Exit → Act → World → Prop} (hgd : o.guard = none) (s x : Operand) (T : TypeId) (z : Value) (bytes : Nat)
    (ho : o.op = .call { callee := .builtin .append, args := #[s, x], argTypes := #[T, T] })
    (hT : Try.prog.underlying T = some (.slice L.ty)) (hI : (Try.prog.info? L.ty).map (fun i => (i.zero, i.size, i.bytes)) = some (some z, L.sz, bytes)) (hzs : z.cells.size = L.sz) (hby : bytes ≤ 1000)
    (base : Nat) (v : Value) (xs : List α) (e : α) (hs : a.eval s = v) (hown : OwnG L w base v xs)
    (b : Nat) (c : Nat) (hx : a.eval x = .slice (some ⟨b, 0, none⟩) 1 c) (hnew : ∀ k, k < L.sz → w.cell? ⟨b, k, none⟩ = (L.cs e)[k]?)
    (hlen : xs.length ≤ 16777215) (hbase : base ≤ w.heap.size)
    (h : ∀ v' w', OwnG L w' base v' (xs ++ [e]) → w.grownBy w' v.ownBlock → (v'.ownBlock = v.ownBlock ∨ v'.ownBlock = some w.heap.size) → wpList Try.prog ops Q rest (a.put o.dst v') w') : wpList Try.prog ops Q (o :: rest) a w := by
  obtain ⟨i0, hi, hz0, hz1, hz2⟩ := info_parts hI
  obtain ⟨g, cap, rfl, ho', hl⟩ := hown
  have hb : (xs.length + 1) * bytes ≤ 140737488355328 := by
    have := Nat.mul_le_mul (show xs.length + 1 ≤ 16777216 by omega) hby
    omega
  refine wpList_append_own_at w hgd s x T ho base L.ty i0 z L.sz bytes hT hi hz0 hz1 hz2 hzs L.pos _ _ _ hs ho' ⟨b, 0, none⟩ 1 c (L.cs e) hx (by rw [L.len, Nat.one_mul]) ?_ (L.one e) (by unfold maxLen; omega) hb hbase ?_
  · intro j u hu
    rw [Addr.add_lit]
    have hj : j < L.sz := by
      have := (List.getElem?_eq_some_iff.1 hu).1
      rwa [L.len] at this
    rw [Nat.zero_add, hnew j hj, hu]
  · intro v' w' hv hg hnz hat
    refine h v' w' ?_ hg hat
    rcases hv.2 with ⟨e', _⟩ | ⟨g', cap', cur, e', r⟩
    · have := (hnz.1 e').1
      simp at this
    · subst e'
      exact ⟨g', cap', by simp, by simpa [List.flatMap_append] using hv, by simp; omega⟩
end Go.Proofs.Ytkfcchapfklpgaa
