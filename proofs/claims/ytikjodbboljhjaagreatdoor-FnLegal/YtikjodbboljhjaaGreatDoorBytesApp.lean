/-
  'append' on a slice of int64 that the call owns.
-/
import Derived.Test.YtikjodbboljhjaaGreatDoorBytes
import Derived.Laws.AppendOwnNone
namespace Go.Proofs.YtikjodbboljhjaaGreatDoor
open Go.RowKit

/-- A slice that a call owns, not nil: it begins at the head of a block from base on. -/
def OwnBS (w : World) (base : Nat) (v : Value) (xs : List Int) : Prop :=
  ∃ g cap, v = .slice (some ⟨g, 0, none⟩) xs.length cap ∧ OwnB w base (.slice (some ⟨g, 0, none⟩) xs.length cap) xs

theorem OwnB.keep {w w' : World} {base : Nat} {v : Value} {xs : List Int} {row : Option Nat} (h : OwnB w base v xs) (k : w.grownBy w' row) (hne : v.ownBlock = none ∨ v.ownBlock ≠ row) : OwnB w' base v xs :=
  ⟨h.1.kept k hne, h.2⟩
theorem OwnB.fr {w w' : World} {base : Nat} {v : Value} {xs : List Int} (h : OwnB w base v xs) (k : Fr w w') : OwnB w' base v xs :=
  h.keep k (by cases v.ownBlock <;> simp)
theorem OwnBS.keep {w w' : World} {base : Nat} {v : Value} {xs : List Int} {row : Option Nat} (h : OwnBS w base v xs) (k : w.grownBy w' row) (hne : v.ownBlock ≠ row) : OwnBS w' base v xs := by
  obtain ⟨g, cap, rfl, ho⟩ := h
  exact ⟨g, cap, rfl, ho.keep k (.inr hne)⟩
theorem OwnBS.fr {w w' : World} {base : Nat} {v : Value} {xs : List Int} (h : OwnBS w base v xs) (k : Fr w w') : OwnBS w' base v xs := by
  obtain ⟨g, cap, rfl, ho⟩ := h
  exact ⟨g, cap, rfl, ho.fr k⟩
theorem OwnB.lower {w : World} {base base' : Nat} {v : Value} {xs : List Int} (h : OwnB w base v xs) (hb : base' ≤ base) : OwnB w base' v xs := by
  refine ⟨⟨h.1.1, ?_⟩, h.2⟩
  rcases h.1.2 with e | ⟨g, cap, cur, e, hg, r⟩
  · exact .inl e
  · exact .inr ⟨g, cap, cur, e, by omega, r⟩
theorem OwnBS.lower {w : World} {base base' : Nat} {v : Value} {xs : List Int} (h : OwnBS w base v xs) (hb : base' ≤ base) : OwnBS w base' v xs := by
  obtain ⟨g, cap, rfl, ho⟩ := h
  exact ⟨g, cap, rfl, ho.lower hb⟩
theorem OwnBS.blk {w : World} {base : Nat} {v : Value} {xs : List Int} (h : OwnBS w base v xs) : ∀ j, v.ownBlock = some j → base ≤ j := by
  obtain ⟨g, cap, rfl, ho⟩ := h
  intro j hj
  exact (ho.1.lt j hj).1
theorem OwnBS.len {w : World} {base : Nat} {v : Value} {xs : List Int} (h : OwnBS w base v xs) : xs.length ≤ 4294967296 := by
  obtain ⟨g, cap, rfl, ho⟩ := h
  exact ho.2.1

/-- '[]int64{}' -/
theorem ownB_empty (w : World) (base : Nat) (hb : base ≤ w.heap.size) : OwnBS (w.alloc (.cells #[] 5)) base (.slice (some ⟨w.heap.size, 0, none⟩) 0 0) [] :=
  ⟨w.heap.size, 0, rfl, World.ownsRow_made w #[] 0 hb (by unfold maxLen; omega) rfl, by simp, by simp⟩

/-- The one new element of 'append(l, x)' lies in a block of its own. -/
theorem readsB_one (w : World) (x : Int) (h : U8 x) : ReadsB (w.alloc (.cells #[.int .u8 x] 5)) (some ⟨w.heap.size, 0, none⟩) [x] := by
  refine ⟨by simp, by simpa using h, fun i _ => ⟨w.heap.size, 0, rfl, fun j hj => ?_⟩⟩
  have : j = 0 := by simpa using hj
  subst this
  rw [cell_of_row _ _ _ _ _ _ (heap_alloc_new w _)]
  rfl

theorem shapeB_of {w : World} {base : Nat} {v : Value} {xs : List Int} (h : w.ownsRow base 5 1 v xs.length (xs.map (Value.int .u8))) (hn : v ≠ .slice none 0 0) (hl : xs.length ≤ 4294967296) (hb : ∀ x ∈ xs, U8 x) : OwnBS w base v xs := by
  rcases h.2 with ⟨e, _⟩ | ⟨g, cap, cur, e, r⟩
  · exact absurd e hn
  · subst e; exact ⟨g, cap, rfl, h, hl, hb⟩

theorem appB (w : World) {ops : Array Oper} {rest : List Oper} {o : Oper} {a : Act} {Q : Exit → Act → World → Prop} (hgd : o.guard = none) (s x : Operand)
    (ho : o.op = .call { callee := .builtin .append, args := #[s, x], argTypes := #[22, 22] })
    (base : Nat) (v : Value) (xs news : List Int) (hs : a.eval s = v) (hown : OwnBS w base v xs)
    (ao : Option Addr) (m c : Nat) (hx : a.eval x = .slice ao m c) (hm : news.length = m) (hc : ao = none → c = 0) (hnews : ReadsB w ao news)
    (hlen : xs.length + news.length ≤ 4294967296) (hbase : base ≤ w.heap.size)
    (h : ∀ v' w', OwnBS w' base v' (xs ++ news) → w.grownBy w' v.ownBlock → wpList Tryz.prog ops Q rest (a.put o.dst v') w') : wpList Tryz.prog ops Q (o :: rest) a w := by
  obtain ⟨i0, hi, hz0, hz1, hz2⟩ := info_parts Tryz.info5
  subst hm
  have hbd : ∀ x ∈ xs ++ news, U8 x := by
    obtain ⟨g, cap, rfl, ho⟩ := hown
    intro x hx
    rcases List.mem_append.1 hx with hx | hx
    · exact ho.2.2 x hx
    · exact hnews.bd x hx
  cases ao with
  | none =>
    have hnil : news = [] := by
      cases news with
      | nil => rfl
      | cons y ys => obtain ⟨b, off, e, _⟩ := hnews.at_ 0 (by simp); cases e
    subst hnil
    have := hc rfl
    subst this
    obtain ⟨g, cap, rfl, ho'⟩ := hown
    refine wpList_append_own_none hgd s x 22 ho base 5 i0 1 Tryz.underlying22 hi _ _ _ hs ho'.1 hx ?_
    refine h _ w ?_ ⟨rfl, rfl, rfl, Nat.le_refl _, fun _ _ _ => rfl⟩
    rw [List.append_nil]
    exact ⟨g, cap, rfl, ho'⟩
  | some ad =>
    have hcell : ∀ j u, (news.map (Value.int .u8))[j]? = some u → w.cell? (ad.add j) = some u := by
      intro j u hu
      have hj : j < news.length := by
        have := (List.getElem?_eq_some_iff.1 hu).1
        simpa using this
      obtain ⟨b, off, e, hcc⟩ := hnews.at_ j hj
      simp only [Option.some.injEq] at e
      subst e
      rw [Addr.add_lit, hcc j hj]
      rw [List.getElem?_map, List.getElem?_eq_getElem hj] at hu
      rw [getD_at hj]
      simpa using hu
    obtain ⟨g, cap, rfl, ho'⟩ := hown
    refine wpList_append_own w hgd s x 22 ho base 5 i0 (.int .u8 0) 1 1 Tryz.underlying22 hi hz0 hz1 hz2 rfl (by decide) _ _ _ hs ho'.1 ad news.length c (news.map (Value.int .u8)) hx (by simp) hcell (ints_oneCell _ _) (by unfold maxLen; omega) (by omega) hbase ?_
    intro v' w' hv hg hnz
    refine h v' w' (shapeB_of ?_ ?_ (by simp; omega) hbd) hg
    · simpa using hv
    · intro e
      have := (hnz.1 e).1
      simp at this

/-- Where the block of an owned slice lies. -/
theorem ownB_lt {w : World} {base g n cap : Nat} {xs : List Int} (h : OwnB w base (.slice (some ⟨g, 0, none⟩) n cap) xs) : base ≤ g ∧ g < w.heap.size := h.1.lt g rfl
theorem own_neB {g g' n cap : Nat} (h : g ≠ g') : (Value.slice (some ⟨g, 0, none⟩) n cap).ownBlock = none ∨ (Value.slice (some ⟨g, 0, none⟩) n cap).ownBlock ≠ some g' := .inr (by simpa [Value.ownBlock] using h)
theorem one_blkB {a g : Nat} (h : a ≤ g) : ∀ j, some g = some j → a ≤ j := by
  intro j hj
  simp only [Option.some.injEq] at hj
  omega
end Go.Proofs.YtikjodbboljhjaaGreatDoor
