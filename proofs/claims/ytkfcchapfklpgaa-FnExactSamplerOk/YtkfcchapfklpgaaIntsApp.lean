/-
  'append' on a slice of int64 that the call owns.
-/
import Derived.Test.YtkfcchapfklpgaaInts
import Derived.Laws.AppendOwnNone
namespace Go.Proofs.Ytkfcchapfklpgaa
open Go.RowKit

/-- A slice that a call owns, not nil: it begins at the head of a block from base on. -/
def OwnS (w : World) (base : Nat) (v : Value) (xs : List Int) : Prop :=
  ∃ g cap, v = .slice (some ⟨g, 0, none⟩) xs.length cap ∧ OwnI w base (.slice (some ⟨g, 0, none⟩) xs.length cap) xs

theorem OwnI.keep {w w' : World} {base : Nat} {v : Value} {xs : List Int} {row : Option Nat} (h : OwnI w base v xs) (k : w.grownBy w' row) (hne : v.ownBlock = none ∨ v.ownBlock ≠ row) : OwnI w' base v xs :=
  ⟨h.1.kept k hne, h.2⟩
theorem OwnI.fr {w w' : World} {base : Nat} {v : Value} {xs : List Int} (h : OwnI w base v xs) (k : Fr w w') : OwnI w' base v xs :=
  h.keep k (by cases v.ownBlock <;> simp)
theorem OwnS.keep {w w' : World} {base : Nat} {v : Value} {xs : List Int} {row : Option Nat} (h : OwnS w base v xs) (k : w.grownBy w' row) (hne : v.ownBlock ≠ row) : OwnS w' base v xs := by
  obtain ⟨g, cap, rfl, ho⟩ := h
  exact ⟨g, cap, rfl, ho.keep k (.inr hne)⟩
theorem OwnS.fr {w w' : World} {base : Nat} {v : Value} {xs : List Int} (h : OwnS w base v xs) (k : Fr w w') : OwnS w' base v xs := by
  obtain ⟨g, cap, rfl, ho⟩ := h
  exact ⟨g, cap, rfl, ho.fr k⟩
theorem OwnI.lower {w : World} {base base' : Nat} {v : Value} {xs : List Int} (h : OwnI w base v xs) (hb : base' ≤ base) : OwnI w base' v xs := by
  refine ⟨⟨h.1.1, ?_⟩, h.2⟩
  rcases h.1.2 with e | ⟨g, cap, cur, e, hg, r⟩
  · exact .inl e
  · exact .inr ⟨g, cap, cur, e, by omega, r⟩
theorem OwnS.lower {w : World} {base base' : Nat} {v : Value} {xs : List Int} (h : OwnS w base v xs) (hb : base' ≤ base) : OwnS w base' v xs := by
  obtain ⟨g, cap, rfl, ho⟩ := h
  exact ⟨g, cap, rfl, ho.lower hb⟩
theorem OwnS.blk {w : World} {base : Nat} {v : Value} {xs : List Int} (h : OwnS w base v xs) : ∀ j, v.ownBlock = some j → base ≤ j := by
  obtain ⟨g, cap, rfl, ho⟩ := h
  intro j hj
  exact (ho.1.lt j hj).1
theorem OwnS.len {w : World} {base : Nat} {v : Value} {xs : List Int} (h : OwnS w base v xs) : xs.length ≤ 4294967296 := by
  obtain ⟨g, cap, rfl, ho⟩ := h
  exact ho.2.1

/-- '[]int64{}' -/
theorem OwnS.ne {w : World} {base : Nat} {v : Value} {xs : List Int} (h : OwnS w base v xs) {g : Nat} (hg : g < base) : v.ownBlock ≠ some g := by
  intro e
  have := h.blk g e
  omega
theorem OwnS.past {w : World} {base : Nat} {v : Value} {xs : List Int} (h : OwnS w base v xs) {g : Nat} (hg : g < base) : ∀ j, v.ownBlock = some j → g < j := by
  intro j e
  have := h.blk j e
  omega
theorem OwnS.bd {w : World} {base : Nat} {v : Value} {xs : List Int} (h : OwnS w base v xs) : ∀ x ∈ xs, I64 x := by
  obtain ⟨g, cap, rfl, ho⟩ := h
  exact ho.2.2

theorem own_empty (w : World) (base : Nat) (hb : base ≤ w.heap.size) : OwnS (w.alloc (.cells #[] 2)) base (.slice (some ⟨w.heap.size, 0, none⟩) 0 0) [] :=
  ⟨w.heap.size, 0, rfl, World.ownsRow_made w #[] 0 hb (by unfold maxLen; omega) rfl, by simp, by simp⟩

/-- The one new element of 'append(l, x)' lies in a block of its own. -/
theorem reads_one (w : World) (x : Int) (h : I64 x) : Reads (w.alloc (.cells #[.int .i64 x] 2)) (some ⟨w.heap.size, 0, none⟩) [x] := by
  refine ⟨by simp, by simpa using h, fun i _ => ⟨w.heap.size, 0, rfl, fun j hj => ?_⟩⟩
  have : j = 0 := by simpa using hj
  subst this
  rw [cell_of_row _ _ _ _ _ _ (heap_alloc_new w _)]
  rfl

theorem shape_of {w : World} {base : Nat} {v : Value} {xs : List Int} (h : w.ownsRow base 2 1 v xs.length (xs.map (Value.int .i64))) (hn : v ≠ .slice none 0 0) (hl : xs.length ≤ 4294967296) (hb : ∀ x ∈ xs, I64 x) : OwnS w base v xs := by
  rcases h.2 with ⟨e, _⟩ | ⟨g, cap, cur, e, r⟩
  · exact absurd e hn
  · subst e; exact ⟨g, cap, rfl, h, hl, hb⟩

theorem appI (w : World) {ops : Array Oper} {rest : List Oper} {o : Oper} {a : Act} {Q : Exit → Act → World → Prop} (hgd : o.guard = none) (s x : Operand)
    (ho : o.op = .call { callee := .builtin .append, args := #[s, x], argTypes := #[40, 40] })
    (base : Nat) (v : Value) (xs news : List Int) (hs : a.eval s = v) (hown : OwnS w base v xs)
    (ao : Option Addr) (m c : Nat) (hx : a.eval x = .slice ao m c) (hm : news.length = m) (hc : ao = none → c = 0) (hnews : Reads w ao news)
    (hlen : xs.length + news.length ≤ 4294967296) (hbase : base ≤ w.heap.size)
    (h : ∀ v' w', OwnS w' base v' (xs ++ news) → w.grownBy w' v.ownBlock → wpList Try.prog ops Q rest (a.put o.dst v') w') : wpList Try.prog ops Q (o :: rest) a w := by
  obtain ⟨i0, hi, hz0, hz1, hz2⟩ := info_parts Try.info2
  subst hm
  have hbd : ∀ x ∈ xs ++ news, I64 x := by
    obtain ⟨g, cap, rfl, ho⟩ := hown
    intro x hx
    rcases List.mem_append.1 hx with hx | hx
    · exact ho.2.2 x hx
    · exact hnews.bd x hx
  cases ao with
  | none =>
    have hnil : news = [] := by
      cases news with
      | nil => rfl
      | cons y ys => obtain ⟨b, off, e, _⟩ := hnews.at_ 0 (by simp); cases e
    subst hnil
    have := hc rfl
    subst this
    obtain ⟨g, cap, rfl, ho'⟩ := hown
    refine wpList_append_own_none hgd s x 40 ho base 2 i0 1 Try.underlying40 hi _ _ _ hs ho'.1 hx ?_
    refine h _ w ?_ ⟨rfl, rfl, rfl, Nat.le_refl _, fun _ _ _ => rfl⟩
    rw [List.append_nil]
    exact ⟨g, cap, rfl, ho'⟩
  | some ad =>
    have hcell : ∀ j u, (news.map (Value.int .i64))[j]? = some u → w.cell? (ad.add j) = some u := by
      intro j u hu
      have hj : j < news.length := by
        have := (List.getElem?_eq_some_iff.1 hu).1
        simpa using this
      obtain ⟨b, off, e, hcc⟩ := hnews.at_ j hj
      simp only [Option.some.injEq] at e
      subst e
      rw [Addr.add_lit, hcc j hj]
      rw [List.getElem?_map, List.getElem?_eq_getElem hj] at hu
      rw [getD_at hj]
      simpa using hu
    obtain ⟨g, cap, rfl, ho'⟩ := hown
    refine wpList_append_own w hgd s x 40 ho base 2 i0 (.int .i64 0) 1 8 Try.underlying40 hi hz0 hz1 hz2 rfl (by decide) _ _ _ hs ho'.1 ad news.length c (news.map (Value.int .i64)) hx (by simp) hcell (ints_oneCell _ _) (by unfold maxLen; omega) (by omega) hbase ?_
    intro v' w' hv hg hnz
    refine h v' w' (shape_of ?_ ?_ (by simp; omega) hbd) hg
    · simpa using hv
    · intro e
      have := (hnz.1 e).1
      simp at this

/-- Where the block of an owned slice lies. -/
theorem own_lt {w : World} {base g n cap : Nat} {xs : List Int} (h : OwnI w base (.slice (some ⟨g, 0, none⟩) n cap) xs) : base ≤ g ∧ g < w.heap.size := h.1.lt g rfl
theorem own_ne {g g' n cap : Nat} (h : g ≠ g') : (Value.slice (some ⟨g, 0, none⟩) n cap).ownBlock = none ∨ (Value.slice (some ⟨g, 0, none⟩) n cap).ownBlock ≠ some g' := .inr (by simpa [Value.ownBlock] using h)
theorem one_blk {a g : Nat} (h : a ≤ g) : ∀ j, some g = some j → a ≤ j := by
  intro j hj
  simp only [Option.some.injEq] at hj
  omega
end Go.Proofs.Ytkfcchapfklpgaa
