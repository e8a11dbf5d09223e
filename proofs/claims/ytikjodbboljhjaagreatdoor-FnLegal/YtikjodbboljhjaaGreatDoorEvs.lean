/-
  Slices of events in memory: reading one, owning one.
-/
import Derived.Test.YtikjodbboljhjaaGreatDoorDec
import Derived.Laws.AppendOwnNone
namespace Go.Proofs.YtikjodbboljhjaaGreatDoor
open Go.RowKit

/-- An event's eight cells. -/
def evCells (e : Ev) : List Value := [.int .i64 e.k, .int .i64 e.g, .int .i64 e.o, .int .i64 e.w, .int .i64 e.l, .int .i64 e.s, .int .i64 e.f, .int .i64 e.t]

/-- An event lies at the place o of the block b. -/
structure EvC (w : World) (b o : Nat) (e : Ev) : Prop where
  c0 : w.cell? ⟨b, o, none⟩ = some (.int .i64 e.k)
  c1 : w.cell? ⟨b, o + 1, none⟩ = some (.int .i64 e.g)
  c2 : w.cell? ⟨b, o + 2, none⟩ = some (.int .i64 e.o)
  c3 : w.cell? ⟨b, o + 3, none⟩ = some (.int .i64 e.w)
  c4 : w.cell? ⟨b, o + 4, none⟩ = some (.int .i64 e.l)
  c5 : w.cell? ⟨b, o + 5, none⟩ = some (.int .i64 e.s)
  c6 : w.cell? ⟨b, o + 6, none⟩ = some (.int .i64 e.f)
  c7 : w.cell? ⟨b, o + 7, none⟩ = some (.int .i64 e.t)

theorem EvC.of {w : World} {b o : Nat} {e : Ev} (h : ∀ k, k < 8 → w.cell? ⟨b, o + k, none⟩ = (evCells e)[k]?) : EvC w b o e :=
  ⟨h 0 (by omega), h 1 (by omega), h 2 (by omega), h 3 (by omega), h 4 (by omega), h 5 (by omega), h 6 (by omega), h 7 (by omega)⟩
theorem EvC.keep {w w' : World} {b o : Nat} {e : Ev} {row : Option Nat} (h : EvC w b o e) (k : w.grownBy w' row) (hr : some b ≠ row) : EvC w' b o e :=
  ⟨k.cell h.c0 hr, k.cell h.c1 hr, k.cell h.c2 hr, k.cell h.c3 hr, k.cell h.c4 hr, k.cell h.c5 hr, k.cell h.c6 hr, k.cell h.c7 hr⟩

/-- A slice at the address ao reads as the events es. -/
structure ReadsE (w : World) (ao : Option Addr) (es : List Ev) : Prop where
  len : es.length ≤ 16777216
  at_ : ∀ i, i < es.length → ∃ b off, ao = some ⟨b, off, none⟩ ∧ ∀ j (hj : j < es.length), EvC w b (off + j * 8) es[j]

theorem ReadsE.nil (w : World) (ao : Option Addr) : ReadsE w ao [] := ⟨by simp, by simp⟩
theorem ReadsE.keep {w w' : World} {ao : Option Addr} {es : List Ev} {row : Option Nat} (h : ReadsE w ao es) (k : w.grownBy w' row) (hne : row = none ∨ blk ao ≠ row) : ReadsE w' ao es := by
  refine ⟨h.len, fun i hi => ?_⟩
  obtain ⟨b, off, e, hc⟩ := h.at_ i hi
  refine ⟨b, off, e, fun j hj => (hc j hj).keep k ?_⟩
  rcases hne with rfl | hne
  · simp
  · intro hh
    apply hne
    rw [e, ← hh]
    rfl
theorem ReadsE.fr {w w' : World} {ao : Option Addr} {es : List Ev} (h : ReadsE w ao es) (k : Fr w w') : ReadsE w' ao es := h.keep k (.inl rfl)

theorem cells_len (es : List Ev) : (es.flatMap evCells).length = es.length * 8 := by
  induction es with
  | nil => rfl
  | cons e es ih => rw [List.flatMap_cons, List.length_append, ih]; simp [evCells]; omega
theorem cells_at (es : List Ev) (j k : Nat) (hj : j < es.length) (hk : k < 8) : (es.flatMap evCells)[j * 8 + k]? = (evCells es[j])[k]? := by
  induction es generalizing j with
  | nil => simp at hj
  | cons e es ih =>
    have h8 : (evCells e).length = 8 := rfl
    cases j with
    | zero => rw [List.flatMap_cons, Nat.zero_mul, Nat.zero_add, List.getElem?_append_left (by omega)]; rfl
    | succ j =>
      rw [List.flatMap_cons, List.getElem?_append_right (by omega), h8, show (j + 1) * 8 + k - 8 = j * 8 + k by omega, ih j (by simpa using hj)]
      rfl

/-- The slice of the events es that a call owns: it begins at the head of a block from base on. -/
def OwnE (w : World) (base : Nat) (v : Value) (es : List Ev) : Prop :=
  ∃ g cap, v = .slice (some ⟨g, 0, none⟩) es.length cap ∧ w.ownsRow base 31 8 (.slice (some ⟨g, 0, none⟩) es.length cap) es.length (es.flatMap evCells) ∧ es.length ≤ 16777216

theorem own_readsE {w : World} {base g cap : Nat} {es : List Ev} (h : w.ownsRow base 31 8 (.slice (some ⟨g, 0, none⟩) es.length cap) es.length (es.flatMap evCells)) (hl : es.length ≤ 16777216) : ReadsE w (some ⟨g, 0, none⟩) es := by
  refine ⟨hl, fun i hi => ⟨g, 0, rfl, fun j hj => EvC.of fun k hk => ?_⟩⟩
  have := h.cellAt (j * 8 + k) (by omega)
  rw [Nat.zero_add, this, cells_at es j k hj hk]
theorem OwnE.keep {w w' : World} {base : Nat} {v : Value} {es : List Ev} {row : Option Nat} (h : OwnE w base v es) (k : w.grownBy w' row) (hne : v.ownBlock ≠ row) : OwnE w' base v es := by
  obtain ⟨g, cap, rfl, ho, hl⟩ := h
  exact ⟨g, cap, rfl, ho.kept k (.inr hne), hl⟩
theorem OwnE.fr {w w' : World} {base : Nat} {v : Value} {es : List Ev} (h : OwnE w base v es) (k : Fr w w') : OwnE w' base v es := by
  obtain ⟨g, cap, rfl, ho, hl⟩ := h
  exact ⟨g, cap, rfl, ho.kept k (by simp [Value.ownBlock]), hl⟩
theorem OwnE.blk {w : World} {base : Nat} {v : Value} {es : List Ev} (h : OwnE w base v es) : ∀ j, v.ownBlock = some j → base ≤ j := by
  obtain ⟨g, cap, rfl, ho, hl⟩ := h
  intro j hj
  exact (ho.lt j hj).1
theorem OwnE.lower {w : World} {base base' : Nat} {v : Value} {es : List Ev} (h : OwnE w base v es) (hb : base' ≤ base) : OwnE w base' v es := by
  obtain ⟨g, cap, rfl, ho, hl⟩ := h
  refine ⟨g, cap, rfl, ⟨ho.1, ?_⟩, hl⟩
  rcases ho.2 with e | ⟨g, cap, cur, e, hg, r⟩
  · exact .inl e
  · exact .inr ⟨g, cap, cur, e, by omega, r⟩

/-- The specification's test of a whole list. -/
def okL (es : List Ev) : Bool := es.all evOk
theorem okL_take (es : List Ev) (k : Nat) (hk : k < es.length) (h : okL (es.take k) = true) (h2 : evOk es[k] = true) : okL (es.take (k + 1)) = true := by
  rw [okL, List.take_succ_eq_append_getElem hk, List.all_append]
  simp only [okL] at h
  rw [h]
  simp [h2]
theorem okL_not (es : List Ev) (k : Nat) (hk : k < es.length) (h2 : evOk es[k] = false) : okL es = false := by
  rw [okL, List.all_eq_false]
  exact ⟨es[k], List.getElem_mem hk, by simp [h2]⟩
end Go.Proofs.YtikjodbboljhjaaGreatDoor
