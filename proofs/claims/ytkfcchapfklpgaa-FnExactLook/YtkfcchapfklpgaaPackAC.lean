/-
  'append' on a slice of int64 that the call owns.
-/
import Derived.Test.YtkfcchapfklpgaaPackAA
import Derived.Laws.AppendOwnNone
import Derived.Maps.AppendAt
import Derived.Test.YtkfcchapfklpgaaPackAB
import Derived.ProofKit
import Derived.LaidMore
import Derived.OpenShut
import Derived.Stop.Joined
import Derived.OpenVars
import Derived.Deep.RegionHeld3
import Derived.StillTail
import Derived.Deep.Quiet
import Derived.BigQuiet
namespace Go.Proofs.Ytkfcchapfklpgaa
open Go.RowKit

/-- A slice that a call owns, not nil: it begins at the head of a block from base on. -/
def OwnS (w : World) (base : Nat) (v : Value) (xs : List Int) : Prop :=
  ∃ g cap, v = .slice (some ⟨g, 0, none⟩) xs.length cap ∧ OwnI w base (.slice (some ⟨g, 0, none⟩) xs.length cap) xs

theorem OwnI.keep {w w' : World} {base : Nat} {v : Value} {xs : List Int} {row : Option Nat} (h : OwnI w base v xs) (k : w.grownBy w' row) (hne : v.ownBlock = none ∨ v.ownBlock ≠ row) : OwnI w' base v xs :=
  ⟨h.1.kept k hne, h.2⟩
theorem OwnI.fr {w w' : World} {base : Nat} {v : Value} {xs : List Int} (h : OwnI w base v xs) (k : Fr w w') : OwnI w' base v xs :=
  h.keep k (by cases v.ownBlock <;> simp)
theorem OwnS.keep {w w' : World} {base : Nat} {v : Value} {xs : List Int} {row : Option Nat} (h : OwnS w base v xs) (k : w.grownBy w' row) (hne : v.ownBlock ≠ row) : OwnS w' base v xs := by
  obtain ⟨g, cap, rfl, ho⟩ := h
  exact ⟨g, cap, rfl, ho.keep k (.inr hne)⟩
theorem OwnS.fr {w w' : World} {base : Nat} {v : Value} {xs : List Int} (h : OwnS w base v xs) (k : Fr w w') : OwnS w' base v xs := by
  obtain ⟨g, cap, rfl, ho⟩ := h
  exact ⟨g, cap, rfl, ho.fr k⟩
theorem OwnI.lower {w : World} {base base' : Nat} {v : Value} {xs : List Int} (h : OwnI w base v xs) (hb : base' ≤ base) : OwnI w base' v xs := by
  refine ⟨⟨h.1.1, ?_⟩, h.2⟩
  rcases h.1.2 with e | ⟨g, cap, cur, e, hg, r⟩
  · exact .inl e
  · exact .inr ⟨g, cap, cur, e, by omega, r⟩
theorem OwnS.lower {w : World} {base base' : Nat} {v : Value} {xs : List Int} (h : OwnS w base v xs) (hb : base' ≤ base) : OwnS w base' v xs := by
  obtain ⟨g, cap, rfl, ho⟩ := h
  exact ⟨g, cap, rfl, ho.lower hb⟩
theorem OwnS.blk {w : World} {base : Nat} {v : Value} {xs : List Int} (h : OwnS w base v xs) : ∀ j, v.ownBlock = some j → base ≤ j := by
  obtain ⟨g, cap, rfl, ho⟩ := h
  intro j hj
  exact (ho.1.lt j hj).1
theorem OwnS.len {w : World} {base : Nat} {v : Value} {xs : List Int} (h : OwnS w base v xs) : xs.length ≤ 4294967296 := by
  obtain ⟨g, cap, rfl, ho⟩ := h
  exact ho.2.1

/-- '[]int64{}' -/
theorem OwnS.ne {w : World} {base : Nat} {v : Value} {xs : List Int} (h : OwnS w base v xs) {g : Nat} (hg : g < base) : v.ownBlock ≠ some g := by
  intro e
  have := h.blk g e
  omega
theorem OwnS.past {w : World} {base : Nat} {v : Value} {xs : List Int} (h : OwnS w base v xs) {g : Nat} (hg : g < base) : ∀ j, v.ownBlock = some j → g < j := by
  intro j e
  have := h.blk j e
  omega
theorem OwnS.bd {w : World} {base : Nat} {v : Value} {xs : List Int} (h : OwnS w base v xs) : ∀ x ∈ xs, I64 x := by
  obtain ⟨g, cap, rfl, ho⟩ := h
  exact ho.2.2

theorem own_empty (w : World) (base : Nat) (hb : base ≤ w.heap.size) : OwnS (w.alloc (.cells #[] 2)) base (.slice (some ⟨w.heap.size, 0, none⟩) 0 0) [] :=
  ⟨w.heap.size, 0, rfl, World.ownsRow_made w #[] 0 hb (by unfold maxLen; omega) rfl, by simp, by simp⟩

/-- The one new element of 'append(l, x)' lies in a block of its own. -/
theorem reads_one (w : World) (x : Int) (h : I64 x) : Reads (w.alloc (.cells #[.int .i64 x] 2)) (some ⟨w.heap.size, 0, none⟩) [x] := by
  refine ⟨by simp, by simpa using h, fun i _ => ⟨w.heap.size, 0, rfl, fun j hj => ?_⟩⟩
  have : j = 0 := by simpa using hj
  subst this
  rw [cell_of_row _ _ _ _ _ _ (heap_alloc_new w _)]
  rfl

theorem shape_of {w : World} {base : Nat} {v : Value} {xs : List Int} (h : w.ownsRow base 2 1 v xs.length (xs.map (Value.int .i64))) (hn : v ≠ .slice none 0 0) (hl : xs.length ≤ 4294967296) (hb : ∀ x ∈ xs, I64 x) : OwnS w base v xs := by
  rcases h.2 with ⟨e, _⟩ | ⟨g, cap, cur, e, r⟩
  · exact absurd e hn
  · subst e; exact ⟨g, cap, rfl, h, hl, hb⟩

theorem appI (w : World) {ops : Array Oper} {rest : List Oper} {o : Oper} {a : Act} {Q : Exit → Act → World → Prop} (hgd : o.guard = none) (s x : Operand)
    (ho : o.op = .call { callee := .builtin .append, args := #[s, x], argTypes := #[40, 40] })
    (base : Nat) (v : Value) (xs news : List Int) (hs : a.eval s = v) (hown : OwnS w base v xs)
    (ao : Option Addr) (m c : Nat) (hx : a.eval x = .slice ao m c) (hm : news.length = m) (hc : ao = none → c = 0) (hnews : Reads w ao news)
    (hlen : xs.length + news.length ≤ 4294967296) (hbase : base ≤ w.heap.size)
    (h : ∀ v' w', OwnS w' base v' (xs ++ news) → w.grownBy w' v.ownBlock → wpList Try.prog ops Q rest (a.put o.dst v') w') : wpList Try.prog ops Q (o :: rest) a w := by
  obtain ⟨i0, hi, hz0, hz1, hz2⟩ := info_parts Try.info2
  subst hm
  have hbd : ∀ x ∈ xs ++ news, I64 x := by
    obtain ⟨g, cap, rfl, ho⟩ := hown
    intro x hx
    rcases List.mem_append.1 hx with hx | hx
    · exact ho.2.2 x hx
    · exact hnews.bd x hx
  cases ao with
  | none =>
    have hnil : news = [] := by
      cases news with
      | nil => rfl
      | cons y ys => obtain ⟨b, off, e, _⟩ := hnews.at_ 0 (by simp); cases e
    subst hnil
    have := hc rfl
    subst this
    obtain ⟨g, cap, rfl, ho'⟩ := hown
    refine wpList_append_own_none hgd s x 40 ho base 2 i0 1 Try.underlying40 hi _ _ _ hs ho'.1 hx ?_
    refine h _ w ?_ ⟨rfl, rfl, rfl, Nat.le_refl _, fun _ _ _ => rfl⟩
    rw [List.append_nil]
    exact ⟨g, cap, rfl, ho'⟩
  | some ad =>
    have hcell : ∀ j u, (news.map (Value.int .i64))[j]? = some u → w.cell? (ad.add j) = some u := by
      intro j u hu
      have hj : j < news.length := by
        have := (List.getElem?_eq_some_iff.1 hu).1
        simpa using this
      obtain ⟨b, off, e, hcc⟩ := hnews.at_ j hj
      simp only [Option.some.injEq] at e
      subst e
      rw [Addr.add_lit, hcc j hj]
      rw [List.getElem?_map, List.getElem?_eq_getElem hj] at hu
      rw [getD_at hj]
      simpa using hu
    obtain ⟨g, cap, rfl, ho'⟩ := hown
    refine wpList_append_own w hgd s x 40 ho base 2 i0 (.int .i64 0) 1 8 Try.underlying40 hi hz0 hz1 hz2 rfl (by decide) _ _ _ hs ho'.1 ad news.length c (news.map (Value.int .i64)) hx (by simp) hcell (ints_oneCell _ _) (by unfold maxLen; omega) (by omega) hbase ?_
    intro v' w' hv hg hnz
    refine h v' w' (shape_of ?_ ?_ (by simp; omega) hbd) hg
    · simpa using hv
    · intro e
      have := (hnz.1 e).1
      simp at this

/-- Where the block of an owned slice lies. -/
theorem own_lt {w : World} {base g n cap : Nat} {xs : List Int} (h : OwnI w base (.slice (some ⟨g, 0, none⟩) n cap) xs) : base ≤ g ∧ g < w.heap.size := h.1.lt g rfl
theorem own_ne {g g' n cap : Nat} (h : g ≠ g') : (Value.slice (some ⟨g, 0, none⟩) n cap).ownBlock = none ∨ (Value.slice (some ⟨g, 0, none⟩) n cap).ownBlock ≠ some g' := .inr (by simpa [Value.ownBlock] using h)
theorem one_blk {a g : Nat} (h : a ≤ g) : ∀ j, some g = some j → a ≤ j := by
  intro j hj
  simp only [Option.some.injEq] at hj
  omega
end Go.Proofs.Ytkfcchapfklpgaa
/-
  Slices of structs in memory, whatever the struct: reading one, owning one, 'append' of one element.
-/
namespace Go.Proofs.Ytkfcchapfklpgaa
open Go.RowKit

/-- How an element lies: its type, its cells. -/
structure Lay (α : Type) where
  ty : Nat
  sz : Nat
  cs : α → List Value
  pos : 0 < sz
  len : ∀ x, (cs x).length = sz
  one : ∀ x, ∀ u ∈ cs x, u.oneCell' = true

/-- A slice at the address ao reads as the elements xs. -/
structure ReadsG {α : Type} (L : Lay α) (w : World) (ao : Option Addr) (xs : List α) : Prop where
  len : xs.length ≤ 16777216
  at_ : ∀ i, i < xs.length → ∃ b off, ao = some ⟨b, off, none⟩ ∧ ∀ j (hj : j < xs.length) k, k < L.sz → w.cell? ⟨b, off + j * L.sz + k, none⟩ = (L.cs xs[j])[k]?

theorem ReadsG.nil {α : Type} (L : Lay α) (w : World) (ao : Option Addr) : ReadsG L w ao [] := ⟨by simp, by simp⟩
theorem ReadsG.keep {α : Type} {L : Lay α} {w w' : World} {ao : Option Addr} {xs : List α} {row : Option Nat} (h : ReadsG L w ao xs) (k : w.grownBy w' row) (hne : row = none ∨ blk ao ≠ row) : ReadsG L w' ao xs := by
  refine ⟨h.len, fun i hi => ?_⟩
  obtain ⟨b, off, e, hc⟩ := h.at_ i hi
  refine ⟨b, off, e, fun j hj q hq => ?_⟩
  have h0 := hc j hj q hq
  have hlt : q < (L.cs xs[j]).length := by rw [L.len]; exact hq
  rw [List.getElem?_eq_getElem hlt] at h0 ⊢
  refine k.cell h0 ?_
  rcases hne with rfl | hne
  · simp
  · intro hh
    apply hne
    rw [e, ← hh]
    rfl
theorem ReadsG.fr {α : Type} {L : Lay α} {w w' : World} {ao : Option Addr} {xs : List α} (h : ReadsG L w ao xs) (k : Fr w w') : ReadsG L w' ao xs := h.keep k (.inl rfl)

theorem cellsG_at {α : Type} (L : Lay α) (xs : List α) (j k : Nat) (hj : j < xs.length) (hk : k < L.sz) : (xs.flatMap L.cs)[j * L.sz + k]? = (L.cs xs[j])[k]? := by
  induction xs generalizing j with
  | nil => simp at hj
  | cons e es ih =>
    have h8 := L.len e
    cases j with
    | zero => rw [List.flatMap_cons, Nat.zero_mul, Nat.zero_add, List.getElem?_append_left (by omega)]; rfl
    | succ j =>
      have e1 : (j + 1) * L.sz + k - L.sz = j * L.sz + k := by rw [Nat.succ_mul]; omega
      rw [List.flatMap_cons, List.getElem?_append_right (by rw [Nat.succ_mul]; omega), h8, e1, ih j (by simpa using hj)]
      rfl

/-- The slice of the elements xs that a call owns: it begins at the head of a block from base on. -/
def OwnG {α : Type} (L : Lay α) (w : World) (base : Nat) (v : Value) (xs : List α) : Prop :=
  ∃ g cap, v = .slice (some ⟨g, 0, none⟩) xs.length cap ∧ w.ownsRow base L.ty L.sz (.slice (some ⟨g, 0, none⟩) xs.length cap) xs.length (xs.flatMap L.cs) ∧ xs.length ≤ 16777216

theorem own_readsG {α : Type} {L : Lay α} {w : World} {base g cap : Nat} {xs : List α} (h : w.ownsRow base L.ty L.sz (.slice (some ⟨g, 0, none⟩) xs.length cap) xs.length (xs.flatMap L.cs)) (hl : xs.length ≤ 16777216) : ReadsG L w (some ⟨g, 0, none⟩) xs := by
  refine ⟨hl, fun i hi => ⟨g, 0, rfl, fun j hj k hk => ?_⟩⟩
  have hm : (j + 1) * L.sz ≤ xs.length * L.sz := Nat.mul_le_mul_right _ hj
  rw [Nat.succ_mul] at hm
  have := h.cellAt (j * L.sz + k) (by omega)
  rw [Nat.zero_add, this, cellsG_at L xs j k hj hk]
theorem OwnG.keep {α : Type} {L : Lay α} {w w' : World} {base : Nat} {v : Value} {xs : List α} {row : Option Nat} (h : OwnG L w base v xs) (k : w.grownBy w' row) (hne : v.ownBlock ≠ row) : OwnG L w' base v xs := by
  obtain ⟨g, cap, rfl, ho, hl⟩ := h
  exact ⟨g, cap, rfl, ho.kept k (.inr hne), hl⟩
theorem OwnG.fr {α : Type} {L : Lay α} {w w' : World} {base : Nat} {v : Value} {xs : List α} (h : OwnG L w base v xs) (k : Fr w w') : OwnG L w' base v xs := by
  obtain ⟨g, cap, rfl, ho, hl⟩ := h
  exact ⟨g, cap, rfl, ho.kept k (by simp [Value.ownBlock]), hl⟩
theorem OwnG.blk {α : Type} {L : Lay α} {w : World} {base : Nat} {v : Value} {xs : List α} (h : OwnG L w base v xs) : ∀ j, v.ownBlock = some j → base ≤ j := by
  obtain ⟨g, cap, rfl, ho, hl⟩ := h
  intro j hj
  exact (ho.lt j hj).1
theorem OwnG.lt {α : Type} {L : Lay α} {w : World} {base : Nat} {v : Value} {xs : List α} (h : OwnG L w base v xs) : ∀ j, v.ownBlock = some j → j < w.heap.size := by
  obtain ⟨g, cap, rfl, ho, hl⟩ := h
  intro j hj
  exact (ho.lt j hj).2
theorem OwnG.lower {α : Type} {L : Lay α} {w : World} {base base' : Nat} {v : Value} {xs : List α} (h : OwnG L w base v xs) (hb : base' ≤ base) : OwnG L w base' v xs := by
  obtain ⟨g, cap, rfl, ho, hl⟩ := h
  refine ⟨g, cap, rfl, ⟨ho.1, ?_⟩, hl⟩
  rcases ho.2 with e | ⟨g, cap, cur, e, hg, r⟩
  · exact .inl e
  · exact .inr ⟨g, cap, cur, e, by omega, r⟩
theorem ownG_new {α : Type} (L : Lay α) (w : World) (base : Nat) (hb : base ≤ w.heap.size) : OwnG L (w.alloc (.cells #[] L.ty)) base (.slice (some ⟨w.heap.size, 0, none⟩) 0 0) [] :=
  ⟨w.heap.size, 0, rfl, ⟨by simp, .inr ⟨w.heap.size, 0, #[], rfl, hb, heap_alloc_new w _, Nat.le_refl _, by unfold maxLen; omega, by simp, by simp⟩⟩, by simp⟩

theorem appG {α : Type} (L : Lay α) (w : World) {ops : Array Oper} {rest : List Oper} {o : Oper} {a : Act} {Q : Exit → Act → World → Prop} (hgd : o.guard = none) (s x : Operand) (T : TypeId) (z : Value) (bytes : Nat)
    (ho : o.op = .call { callee := .builtin .append, args := #[s, x], argTypes := #[T, T] })
    (hT : Try.prog.underlying T = some (.slice L.ty)) (hI : (Try.prog.info? L.ty).map (fun i => (i.zero, i.size, i.bytes)) = some (some z, L.sz, bytes)) (hzs : z.cells.size = L.sz) (hby : bytes ≤ 1000)
    (base : Nat) (v : Value) (xs : List α) (e : α) (hs : a.eval s = v) (hown : OwnG L w base v xs)
    (b : Nat) (c : Nat) (hx : a.eval x = .slice (some ⟨b, 0, none⟩) 1 c) (hnew : ∀ k, k < L.sz → w.cell? ⟨b, k, none⟩ = (L.cs e)[k]?)
    (hlen : xs.length ≤ 16777215) (hbase : base ≤ w.heap.size)
    (h : ∀ v' w', OwnG L w' base v' (xs ++ [e]) → w.grownBy w' v.ownBlock → (v'.ownBlock = v.ownBlock ∨ v'.ownBlock = some w.heap.size) → wpList Try.prog ops Q rest (a.put o.dst v') w') : wpList Try.prog ops Q (o :: rest) a w := by
  obtain ⟨i0, hi, hz0, hz1, hz2⟩ := info_parts hI
  obtain ⟨g, cap, rfl, ho', hl⟩ := hown
  have hb : (xs.length + 1) * bytes ≤ 140737488355328 := by
    have := Nat.mul_le_mul (show xs.length + 1 ≤ 16777216 by omega) hby
    omega
  refine wpList_append_own_at w hgd s x T ho base L.ty i0 z L.sz bytes hT hi hz0 hz1 hz2 hzs L.pos _ _ _ hs ho' ⟨b, 0, none⟩ 1 c (L.cs e) hx (by rw [L.len, Nat.one_mul]) ?_ (L.one e) (by unfold maxLen; omega) hb hbase ?_
  · intro j u hu
    rw [Addr.add_lit]
    have hj : j < L.sz := by
      have := (List.getElem?_eq_some_iff.1 hu).1
      rwa [L.len] at this
    rw [Nat.zero_add, hnew j hj, hu]
  · intro v' w' hv hg hnz hat
    refine h v' w' ?_ hg hat
    rcases hv.2 with ⟨e', _⟩ | ⟨g', cap', cur, e', r⟩
    · have := (hnz.1 e').1
      simp at this
    · subst e'
      exact ⟨g', cap', by simp, by simpa [List.flatMap_append] using hv, by simp; omega⟩
end Go.Proofs.Ytkfcchapfklpgaa
/-
  Owns in memory; whose an Own is.
-/
namespace Go.Proofs.Ytkfcchapfklpgaa
open Go.RowKit

def owCells (o : Ow) : List Value := [.int .i64 o.g, .int .i64 o.f, .int .i64 o.b.l, .int .i64 o.b.s, .int .i64 o.b.g]
def LO : Lay Ow where
  ty := 53
  sz := 5
  cs := owCells
  pos := by decide
  len := fun _ => rfl
  one := fun x u hu => by
    simp only [owCells, List.mem_cons, List.not_mem_nil, or_false] at hu
    rcases hu with rfl | rfl | rfl | rfl | rfl <;> rfl
theorem ow_at {w : World} {ao : Option Addr} {os : List Ow} (h : ReadsG LO w ao os) (k : Nat) (hk : k < os.length) : ∃ b off, ao = some ⟨b, off, none⟩ ∧ w.cell? ⟨b, off + k * 5, none⟩ = some (.int .i64 os[k].g) ∧ w.cell? ⟨b, off + k * 5 + 1, none⟩ = some (.int .i64 os[k].f) ∧ w.cell? ⟨b, off + k * 5 + 2, none⟩ = some (.int .i64 os[k].b.l) ∧ w.cell? ⟨b, off + k * 5 + 3, none⟩ = some (.int .i64 os[k].b.s) ∧ w.cell? ⟨b, off + k * 5 + 4, none⟩ = some (.int .i64 os[k].b.g) := by
  obtain ⟨b, off, e, hc⟩ := h.at_ k hk
  exact ⟨b, off, e, hc k hk 0 (by decide), hc k hk 1 (by decide), hc k hk 2 (by decide), hc k hk 3 (by decide), hc k hk 4 (by decide)⟩
/-- A block that is an Own. -/
def OwZ (w : World) (b : Nat) (cs : Array Value) : Prop := w.heap[b]? = some (.cells cs 53 (0, 0))
theorem OwZ.lt {w : World} {b : Nat} {c : Array Value} (h : OwZ w b c) : b < w.heap.size := (Array.getElem?_eq_some_iff.1 h).1
theorem OwZ.keep {w w' : World} {b : Nat} {c : Array Value} {row : Option Nat} (h : OwZ w b c) (k : w.grownBy w' row) (hr : row ≠ some b) : OwZ w' b c := (k.block b h.lt (fun q => hr q.symm)).trans h
theorem OwZ.fr {w w' : World} {b : Nat} {c : Array Value} (h : OwZ w b c) (k : Fr w w') : OwZ w' b c := h.keep k (by simp)
theorem OwZ.free {w : World} {b : Nat} {c : Array Value} (h : OwZ w b c) (i : Nat) : w.frozen? ⟨b, i, none⟩ = false := frozen_of_row w b i _ _ h
theorem OwZ.cs {w : World} {b : Nat} {v0 v1 v2 v3 v4 : Value} (h : OwZ w b #[v0, v1, v2, v3, v4]) : w.cell? ⟨b, 0, none⟩ = some v0 ∧ w.cell? ⟨b, 1, none⟩ = some v1 ∧ w.cell? ⟨b, 2, none⟩ = some v2 ∧ w.cell? ⟨b, 3, none⟩ = some v3 ∧ w.cell? ⟨b, 4, none⟩ = some v4 := by
  refine ⟨?_, ?_, ?_, ?_, ?_⟩ <;> rw [cell_of_row _ _ _ _ _ _ h] <;> rfl
/-- A block of two numbers. -/
def KyZ (w : World) (b : Nat) (t : TypeId) (cs : Array Value) : Prop := w.heap[b]? = some (.cells cs t (0, 0))
theorem KyZ.lt {w : World} {b : Nat} {t : TypeId} {c : Array Value} (h : KyZ w b t c) : b < w.heap.size := (Array.getElem?_eq_some_iff.1 h).1
theorem KyZ.keep {w w' : World} {b : Nat} {t : TypeId} {c : Array Value} {row : Option Nat} (h : KyZ w b t c) (k : w.grownBy w' row) (hr : row ≠ some b) : KyZ w' b t c := (k.block b h.lt (fun q => hr q.symm)).trans h
theorem KyZ.fr {w w' : World} {b : Nat} {t : TypeId} {c : Array Value} (h : KyZ w b t c) (k : Fr w w') : KyZ w' b t c := h.keep k (by simp)
theorem KyZ.free {w : World} {b : Nat} {t : TypeId} {c : Array Value} (h : KyZ w b t c) (i : Nat) : w.frozen? ⟨b, i, none⟩ = false := frozen_of_row w b i _ _ h
theorem KyZ.c0 {w : World} {b : Nat} {t : TypeId} {x y : Value} (h : KyZ w b t #[x, y]) : w.cell? ⟨b, 0, none⟩ = some x := by rw [cell_of_row _ _ _ _ _ _ h]; rfl
theorem KyZ.c1 {w : World} {b : Nat} {t : TypeId} {x y : Value} (h : KyZ w b t #[x, y]) : w.cell? ⟨b, 1, none⟩ = some y := by rw [cell_of_row _ _ _ _ _ _ h]; rfl
theorem KyZ.c3 {w : World} {b : Nat} {t : TypeId} {x y z : Value} (h : KyZ w b t #[x, y, z]) : w.cell? ⟨b, 0, none⟩ = some x ∧ w.cell? ⟨b, 1, none⟩ = some y ∧ w.cell? ⟨b, 2, none⟩ = some z := by
  refine ⟨?_, ?_, ?_⟩ <;> rw [cell_of_row _ _ _ _ _ _ h] <;> rfl
theorem KyZ.put0 {w : World} {b : Nat} {t : TypeId} {x y z : Value} (h : KyZ w b t #[x, y, z]) (v : Value) : KyZ (w.setCell ⟨b, 0, none⟩ v) b t #[v, y, z] := heap_setCell_same w b 0 _ _ v h
theorem KyZ.put1 {w : World} {b : Nat} {t : TypeId} {x y z : Value} (h : KyZ w b t #[x, y, z]) (v : Value) : KyZ (w.setCell ⟨b, 1, none⟩ v) b t #[x, v, z] := heap_setCell_same w b 1 _ _ v h
theorem KyZ.put2 {w : World} {b : Nat} {t : TypeId} {x y z : Value} (h : KyZ w b t #[x, y, z]) (v : Value) : KyZ (w.setCell ⟨b, 2, none⟩ v) b t #[x, y, v] := heap_setCell_same w b 2 _ _ v h
theorem KyZ.set0 {w : World} {b : Nat} {t : TypeId} {x y : Value} (h : KyZ w b t #[x, y]) (v : Value) : KyZ (w.setCell ⟨b, 0, none⟩ v) b t #[v, y] := heap_setCell_same w b 0 _ _ v h
theorem KyZ.set1 {w : World} {b : Nat} {t : TypeId} {x y : Value} (h : KyZ w b t #[x, y]) (v : Value) : KyZ (w.setCell ⟨b, 1, none⟩ v) b t #[x, v] := heap_setCell_same w b 1 _ _ v h

set_option maxHeartbeats 1000000 in
theorem owner_any (o : Ow) (w : World) :
    Calls Try.prog 49 #[.agg #[.int .i64 o.g, .int .i64 o.f, .int .i64 o.b.l, .int .i64 o.b.s, .int .i64 o.b.g]] w fun e w' => e = .returned (.agg #[.int .i64 o.g, .int .i64 o.f]) ∧ Fr w w' := by
  obtain ⟨g, f, l, s, p⟩ := o
  simp only
  go_enter Try.func49, Try.ntmps49
  go_wp2_with fail
  refine bodyPost_ret (v := .agg #[.int .i64 g, .int .i64 f]) (by simp [results, Try.results49, go_sem]) rfl ⟨rfl, ?_⟩
  exact (Fr.alloc _ _).trans (Fr.alloc _ _)
theorem kyOk_any (g f : Int) (w : World) :
    Calls Try.prog 42 #[.agg #[.int .i64 g, .int .i64 f]] w fun e w' => e = .returned (.bool (inB 0 15 g && inB 0 999 f)) ∧ Fr w w' := by
  have c1 := fun u => gorIn_any g u
  have c2 := fun u => within_any f 0 999 u
  generalize inB 0 15 g = B1 at c1 ⊢
  generalize inB 0 999 f = B2 at c2 ⊢
  have k := Fr.alloc w (.cells #[.int .i64 g, .int .i64 f] 74)
  go_enter Try.func42, Try.ntmps42
  go_wp2_with fail
  refine (c1 _).mono ?_
  rintro e u1 ⟨rfl, rfl⟩
  cases B1
  · go_wp2_with fail
    go_ret
    exact ⟨rfl, k⟩
  go_wp2_with fail
  refine (c2 _).mono ?_
  rintro e u2 ⟨rfl, rfl⟩
  go_wp2_with fail
  go_ret
  exact ⟨rfl, k⟩
end Go.Proofs.Ytkfcchapfklpgaa
/-
  A burst that came in; the laws' own copy of it, and their comparison.
-/
namespace Go.Proofs.Ytkfcchapfklpgaa
open Go.ChangeShapes Go.WideShapes Go.ChangeAt Go.RowKit

/-- The numbers of a burst fit. -/
def BuI (b : Bu) : Prop := I64 b.l ∧ I64 b.s ∧ I64 b.g

theorem cells_bu : Try.prog.cellsOf 79 = 3 := by kernel_rfl

set_option maxRecDepth 20000 in
/-- A burst that came in. -/
theorem bu_of_arg {H : Type} {enc : TypeId × Value → H} {W : World} {base b0 : Nat} {sp : Nat → Bool} {held : Bool} {r : Reach} {v : Value} {d : DataW H} {p : List MemPlace}
    (hv : Value.okWide Try.prog W r b0 79 v) (h : DataW.Trod enc Try.prog W base sp held 79 v d p) : ∃ e : Bu, v = .agg #[.int .i64 e.l, .int .i64 e.s, .int .i64 e.g] ∧ BuI e := by
  obtain ⟨cs, rfl, hsz⟩ := okWide_struct Try.underlying79 hv
  obtain ⟨fuel, hf⟩ := h
  obtain ⟨xs, m, -, hx, hl, hn, hfs⟩ := DataW.trod_struct Try.underlying79 hf
  rw [cells_bu] at hsz
  obtain ⟨l⟩ := cs
  match l, hsz with
  | [c0, c1, c2], _ =>
    match xs, hn with
    | [x0, x1, x2], _ =>
      have h0 := hfs 0 _ rfl
      have h1 := hfs 1 _ rfl
      have h2 := hfs 2 _ rfl
      simp [cells_c64, Value.cells] at h0 h1 h2
      obtain ⟨n0, e0, -, w0⟩ := DataW.trod_int Try.underlying2 h0
      obtain ⟨n1, e1, -, w1⟩ := DataW.trod_int Try.underlying2 h1
      obtain ⟨n2, e2, -, w2⟩ := DataW.trod_int Try.underlying2 h2
      simp at e0 e1 e2
      subst e0 e1 e2
      exact ⟨⟨n0, n1, n2⟩, rfl, fitC w0, fitC w1, fitC w2⟩

set_option maxHeartbeats 1000000 in
theorem toBurst_any (c : Bu) (w : World) :
    Calls Try.prog 64 #[.agg #[.int .i64 c.l, .int .i64 c.s, .int .i64 c.g]] w fun x w' => x = .returned (.agg #[.int .i64 c.l, .int .i64 c.s, .int .i64 c.g]) ∧ Fr w w' := by
  obtain ⟨c0, c1, c2⟩ := c
  simp only
  go_enter Try.func64, Try.ntmps64
  go_wp2_with fail
  refine bodyPost_ret (v := .agg #[.int .i64 c0, .int .i64 c1, .int .i64 c2]) (by simp [results, Try.results64, go_sem]) rfl ⟨rfl, ?_⟩
  exact ((Fr.alloc _ _).trans (Fr.alloc _ _)).trans (Fr.alloc _ _)

set_option maxHeartbeats 1000000 in
/-- A burst is the same as itself. -/
theorem eqBurst_same (c : Bu) (w : World) :
    Calls Try.prog 68 #[.agg #[.int .i64 c.l, .int .i64 c.s, .int .i64 c.g], .agg #[.int .i64 c.l, .int .i64 c.s, .int .i64 c.g]] w fun x w' => x = .returned (.bool true) ∧ Fr w w' := by
  obtain ⟨c0, c1, c2⟩ := c
  simp only
  go_enter Try.func68, Try.ntmps68
  go_wp2_with fail
  go_ret
  exact ⟨rfl, (Fr.alloc _ _).trans (Fr.alloc _ _)⟩
end Go.Proofs.Ytkfcchapfklpgaa
/-
  A sampler that came in as an argument.
-/
namespace Go.Proofs.Ytkfcchapfklpgaa
open Go.ChangeShapes Go.WideShapes Go.ChangeAt Go.RowKit

theorem cz_own : Try.prog.cellsOf 81 = 5 := by kernel_rfl
theorem cz_burst : Try.prog.cellsOf 79 = 3 := by kernel_rfl
theorem cz_owns : Try.prog.cellsOf 24 = 1 := by kernel_rfl
theorem cz_sampler : Try.prog.cellsOf 26 = 3 := by kernel_rfl

/-- A list of things, one for each number below n. -/
theorem list_ofO {α : Type} (n : Nat) (P : Nat → α → Prop) (h : ∀ i, i < n → ∃ x, P i x) : ∃ l : List α, l.length = n ∧ ∀ i (hi : i < l.length), P i l[i] := by
  induction n with
  | zero => exact ⟨[], rfl, by simp⟩
  | succ n ih =>
    obtain ⟨l, hl, hp⟩ := ih (fun i hi => h i (by omega))
    obtain ⟨x, hx⟩ := h n (by omega)
    refine ⟨l ++ [x], by simp [hl], fun i hi => ?_⟩
    by_cases hin : i < l.length
    · rw [List.getElem_append_left hin]; exact hp i hin
    · have : i = n := by simp at hi; omega
      subst this
      rw [List.getElem_append_right (by omega)]
      simpa [hl] using hx
theorem readsO_of {α : Type} (L : Lay α) {a : Addr} {W : World} {n : Nat} (P : α → Prop) (hn : n ≤ 16777216) (h : ∀ i, i < n → ∃ x : α, P x ∧ ∀ k, k < L.sz → W.cell? ((a.add (i * L.sz)).add k) = (L.cs x)[k]?) :
    ∃ xs : List α, xs.length = n ∧ ReadsG L W (some a) xs ∧ ∀ x ∈ xs, P x := by
  obtain ⟨xs, hl, he⟩ := list_ofO n _ h
  refine ⟨xs, hl, ⟨by omega, fun i hi => ?_⟩, fun x hx => ?_⟩
  · obtain ⟨b, off, spot⟩ := a
    have hi0 : 0 < xs.length := by omega
    have hc := (he 0 hi0).2 0 L.pos
    have hspot : spot = none := by
      rw [List.getElem?_eq_getElem (by rw [L.len]; exact L.pos)] at hc
      have := World.cell?_spot hc
      simpa [Addr.add] using this
    subst hspot
    refine ⟨b, off, rfl, fun j hj k hk => ?_⟩
    have := (he j hj).2 k hk
    rw [Addr.add_lit, Addr.add_lit] at this
    exact this
  · obtain ⟨j, hj, rfl⟩ := List.mem_iff_getElem.1 hx
    exact (he j hj).1

/-- The numbers of an Own fit. -/
def OwI (o : Ow) : Prop := I64 o.g ∧ I64 o.f ∧ BuI o.b

section
variable {H : Type} {enc : TypeId × Value → H} {W : World} {base : Nat} {held : Bool} {fuel : Nat} {cs : List Value} {x : DataW H × List MemPlace}
set_option maxRecDepth 20000 in
theorem bu_of (hf : DataW.trod enc Try.prog W base (fun _ => true) held fuel 79 cs = some x) : ∃ b : Bu, cs = [.int .i64 b.l, .int .i64 b.s, .int .i64 b.g] ∧ BuI b := by
  obtain ⟨xs, m, -, hx, hl, hn, hfs⟩ := DataW.trod_struct Try.underlying79 hf
  rw [cz_burst] at hl
  match cs, hl with
  | [c0, c1, c2], _ =>
    match xs, hn with
    | [x0, x1, x2], _ =>
      have h0 := hfs 0 _ rfl
      have h1 := hfs 1 _ rfl
      have h2 := hfs 2 _ rfl
      simp [cells_c64] at h0 h1 h2
      obtain ⟨n0, e0, -, w0⟩ := DataW.trod_int Try.underlying2 h0
      obtain ⟨n1, e1, -, w1⟩ := DataW.trod_int Try.underlying2 h1
      obtain ⟨n2, e2, -, w2⟩ := DataW.trod_int Try.underlying2 h2
      simp at e0 e1 e2
      subst e0 e1 e2
      exact ⟨⟨n0, n1, n2⟩, rfl, fitC w0, fitC w1, fitC w2⟩
set_option maxRecDepth 20000 in
theorem own_of (hf : DataW.trod enc Try.prog W base (fun _ => true) held fuel 81 cs = some x) : ∃ o : Ow, cs = LO.cs o ∧ OwI o := by
  obtain ⟨xs, m, -, hx, hl, hn, hfs⟩ := DataW.trod_struct Try.underlying81 hf
  rw [cz_own] at hl
  match cs, hl with
  | [c0, c1, c2, c3, c4], _ =>
    match xs, hn with
    | [x0, x1, x2], _ =>
      have h0 := hfs 0 _ rfl
      have h1 := hfs 1 _ rfl
      have h2 := hfs 2 _ rfl
      simp [cells_c64, cz_burst] at h0 h1 h2
      obtain ⟨n0, e0, -, w0⟩ := DataW.trod_int Try.underlying2 h0
      obtain ⟨n1, e1, -, w1⟩ := DataW.trod_int Try.underlying2 h1
      obtain ⟨b, e2, w2⟩ := bu_of h2
      simp at e0 e1 e2
      obtain ⟨rfl, rfl, rfl⟩ := e2
      subst e0 e1
      exact ⟨⟨n0, n1, b⟩, rfl, fitC w0, fitC w1, w2⟩
theorem owns_of (hf : DataW.trod enc Try.prog W base (fun _ => true) held fuel 24 cs = some x) :
    ∃ ao n c, cs = [.slice ao n c] ∧ n ≤ 9223372036854775807 ∧ (n ≤ 1048576 → ∃ xs : List Ow, xs.length = n ∧ ReadsG LO W ao xs ∧ ∀ y ∈ xs, OwI y) := by
  rcases DataW.trod_slice Try.underlying24 hf with ⟨rfl, _⟩ | ⟨a, l, c, elems, rest, n, -, rfl, -, hb, hlc, hcm, hel, hat, -, -⟩
  · exact ⟨none, 0, 0, rfl, by omega, fun _ => ⟨[], rfl, ReadsG.nil _ _ _, by simp⟩⟩
  · refine ⟨some a, l, c, rfl, (by unfold maxLen at hcm; omega), fun hn => readsO_of LO OwI (by omega) fun i hi => ?_⟩
    have h1 := hat i hi
    rw [List.getElem?_eq_getElem (by omega), cz_own] at h1
    obtain ⟨ds, hds, htr⟩ := Option.bind_eq_some_iff.1 h1
    obtain ⟨y, rfl, hy⟩ := own_of htr
    exact ⟨y, hy, fun k hk => (World.cells?_some hds).2.2 k hk⟩
end

/-- A sampler that came in. -/
structure Sm where
  ao : Option Addr
  n : Nat
  c : Nat
  p : Int
  u : Int
structure InSm (W : World) (s : Sm) : Prop where
  ip : I64 s.p
  iu : I64 s.u
  mx : s.n ≤ 9223372036854775807
  os : s.n ≤ 1048576 → ∃ os : List Ow, os.length = s.n ∧ ReadsG LO W s.ao os ∧ ∀ o ∈ os, OwI o

set_option maxRecDepth 20000 in
theorem sm_of_arg {H : Type} {enc : TypeId × Value → H} {W : World} {base b0 : Nat} {held : Bool} {r : Reach} {v : Value} {d : DataW H} {p : List MemPlace}
    (hv : Value.okWide Try.prog W r b0 26 v) (h : DataW.Trod enc Try.prog W base (fun _ => true) held 26 v d p) : ∃ s : Sm, v = .agg #[.slice s.ao s.n s.c, .int .i64 s.p, .int .i64 s.u] ∧ InSm W s := by
  obtain ⟨cs, rfl, hsz⟩ := okWide_struct Try.underlying26 hv
  obtain ⟨fuel, hf⟩ := h
  obtain ⟨xs, m, -, hx, hl, hn, hfs⟩ := DataW.trod_struct Try.underlying26 hf
  rw [cz_sampler] at hsz
  obtain ⟨l⟩ := cs
  match l, hsz with
  | [c0, c1, c2], _ =>
    match xs, hn with
    | [x0, x1, x2], _ =>
      have h0 := hfs 0 _ rfl
      have h1 := hfs 1 _ rfl
      have h2 := hfs 2 _ rfl
      simp [cells_c64, cz_owns, Value.cells] at h0 h1 h2
      obtain ⟨a1, n1, k1, e0, p1, q1⟩ := owns_of h0
      obtain ⟨m1, e1, -, w1⟩ := DataW.trod_int Try.underlying2 h1
      obtain ⟨m2, e2, -, w2⟩ := DataW.trod_int Try.underlying2 h2
      simp at e0 e1 e2
      subst e0 e1 e2
      exact ⟨⟨a1, n1, k1, m1, m2⟩, rfl, ⟨fitC w1, fitC w2, p1, q1⟩⟩
end Go.Proofs.Ytkfcchapfklpgaa
/-
  A region that draws its order and has a pivot: what stands ahead of it is quiet in one class of worlds, what stands behind it in another one; the pivot turns the one into the other.
-/
namespace Go.Proofs.Ytkfcchapfklpgaa
open Go.RowKit

section
variable {P : Program} {md : Region.Mode} {ops : Array Oper} {C C2 : World → Prop}

/-- Each operation behind number n waits for one from n on. -/
def behindB (md : Region.Mode) (ops : Array Oper) (n : Nat) : Bool :=
  (List.range ops.size).all fun t => decide (t ≤ n) || (List.range t).any fun s => decide (n ≤ s) && Region.waitsFor md ops t s
/-- The first n come up in the text's order, then number n alone may; what follows it is lexical too. -/
def headB (md : Region.Mode) (ops : Array Oper) : Nat → Nat → Array Bool → Bool
  | 0, k, listed => decide (Region.ready md ops listed = [k]) && Region.lexFrom md ops (ops.size - k - 1) (k + 1) (listed.setIfInBounds k true)
  | f + 1, k, listed => (Region.ready md ops listed).contains k && Region.free md ops listed k && headB md ops f (k + 1) (listed.setIfInBounds k true)
def pivotB (md : Region.Mode) (ops : Array Oper) (n : Nat) : Bool :=
  Region.noSelect ops && decide (n < ops.size) && Region.sinkB md ops n && behindB md ops n && headB md ops n 0 (Array.replicate ops.size false)

theorem sink_wait {n i : Nat} (hs : Region.sinkB md ops n = true) (hi : i < n) : ∃ j, i < j ∧ j ≤ n ∧ Region.waitsFor md ops j i = true := by
  unfold Region.sinkB at hs
  have h1 := List.all_eq_true.1 hs i (List.mem_range.2 hi)
  obtain ⟨j, hj, h2⟩ := List.any_eq_true.1 h1
  simp only [Bool.and_eq_true, decide_eq_true_eq] at h2
  have := List.mem_range.1 hj
  exact ⟨j, h2.1, by omega, h2.2⟩
theorem pivot_waits {n : Nat} (hs : Region.sinkB md ops n = true) {listed : Array Bool} (inv : HeadInv md ops n listed) : ∀ (d i : Nat), n - i ≤ d → i < n → listed.getD i false = false → n ∉ Region.ready md ops listed
  | 0, i, hd, hi, _ => by omega
  | d + 1, i, hd, hi, hl => by
    obtain ⟨j, h1, h2, h3⟩ := sink_wait hs hi
    obtain ⟨oj, ho, e, he, hb, hon⟩ := Region.waitsFor_spec h3
    by_cases hjn : j = n
    · subst hjn
      intro hr
      obtain ⟨-, o, ho2, hall⟩ := mem_ready.1 hr
      rw [ho] at ho2
      cases ho2
      have := hall e he hb
      rw [hon, hl] at this
      cases this
    · refine pivot_waits hs inv d j (by omega) (by omega) ?_
      cases hj : listed.getD j false
      · rfl
      · have := inv.closed j oj ho hj e he hb
        rw [hon, hl] at this
        cases this
theorem behind_not {n t : Nat} (hb : behindB md ops n = true) {listed : Array Bool} (inv : HeadInv md ops n listed) (ht : n < t) : t ∉ Region.ready md ops listed := by
  intro hr
  obtain ⟨-, o, ho, hall⟩ := mem_ready.1 hr
  have hts := (Array.getElem?_eq_some_iff.1 ho).1
  unfold behindB at hb
  have h1 := List.all_eq_true.1 hb t (List.mem_range.2 hts)
  simp only [Bool.or_eq_true, decide_eq_true_eq] at h1
  rcases h1 with h1 | h1
  · omega
  · obtain ⟨s, hs, h2⟩ := List.any_eq_true.1 h1
    simp only [Bool.and_eq_true, decide_eq_true_eq] at h2
    obtain ⟨oj, ho2, e, he, hbd, hon⟩ := Region.waitsFor_spec h2.2
    rw [ho] at ho2
    cases ho2
    have h3 := hall e he hbd
    have h4 := inv.tail s h2.1 (by have := List.mem_range.1 hs; omega)
    rw [hon, getD_both h4] at h3
    cases h3

/-- Whatever order the first n come up in. -/
def wpHd (P : Program) (md : Region.Mode) (ops : Array Oper) (C : World → Prop) (n : Nat) (L : Array Bool → Act → Prop) : Nat → Array Bool → Act → Prop
  | 0, listed, a => L listed a
  | f + 1, listed, a => Region.ready md ops listed ≠ [] ∧ ∀ i ∈ Region.ready md ops listed, i < n ∧ qOp P ops C i (wpHd P md ops C n L f (listed.setIfInBounds i true)) a

theorem wpAny_of_hd {n g : Nat} {L : Array Bool → Act → Prop} {Q' : Exit → Act → World → Prop} (hL : ∀ listed a w, C w → L listed a → wpAny P md ops Q' g listed a w) :
    ∀ (f : Nat) (listed : Array Bool) (a : Act) (w : World), C w → wpHd P md ops C n L f listed a → wpAny P md ops Q' (f + g) listed a w
  | 0, listed, a, w, hw, h => by rw [Nat.zero_add]; exact hL _ _ _ hw h
  | f + 1, listed, a, w, hw, h => by
    have e : f + 1 + g = (f + g) + 1 := by omega
    rw [e]
    exact ⟨fun h0 => absurd h0 h.1, fun i hi => wpOp_of_qOp hw (fun a' w' hw' h' => wpAny_of_hd hL f _ a' w' hw' h') (h.2 i hi).2⟩

theorem hd_first {n i : Nat} {oi : Oper} {v : Value} {L : Array Bool → Act → Prop} (hi : ops[i]? = some oi) (hsel : Region.noSelect ops = true) (hs : Region.sinkB md ops n = true) (hb : behindB md ops n = true) (hin : i < n)
    (hdone : ∀ listed a, L listed a → ∀ j ∈ Region.ready md ops listed, n ≤ j) :
    ∀ (f : Nat) (listed : Array Bool) (a : Act), HeadInv md ops n listed →
      (∀ j oj, ops[j]? = some oj → j ≠ i → listed.getD j true = false → (∀ e ∈ oj.after, Region.binds md e = true → e.on ≠ i) → oi.apart ops oj = true) →
      i ∈ Region.ready md ops listed → YieldsIn P ops C oi v a →
      wpHd P md ops C n L f (listed.setIfInBounds i true) (a.put oi.dst v) → wpHd P md ops C n L (f + 1) listed a := by
  intro f
  induction f with
  | zero =>
    intro listed a inv _ hr hy H
    refine ⟨fun h => by rw [h] at hr; (cases hr), fun j hj => ?_⟩
    have hjn : j < n := by
      have h1 := pivot_waits hs inv (n - i) i (Nat.le_refl _) hin (getD_both (mem_ready.1 hr).1)
      have h2 := fun q : n < j => behind_not hb inv q hj
      by_cases e : j = n
      · rw [e] at hj; exact absurd hj h1
      · exact Nat.lt_of_le_of_ne (Nat.not_lt.1 h2) e
    refine ⟨hjn, ?_⟩
    by_cases hji : j = i
    · subst hji
      exact hy.qOp hi H
    · have := hdone _ _ H j (ready_mono hj hji)
      omega
  | succ f ih =>
    intro listed a inv hfree hr hy H
    refine ⟨fun h => by rw [h] at hr; (cases hr), fun j hj => ?_⟩
    have hjn : j < n := by
      have h1 := pivot_waits hs inv (n - i) i (Nat.le_refl _) hin (getD_both (mem_ready.1 hr).1)
      have h2 := fun q : n < j => behind_not hb inv q hj
      by_cases e : j = n
      · rw [e] at hj; exact absurd hj h1
      · exact Nat.lt_of_le_of_ne (Nat.not_lt.1 h2) e
    refine ⟨hjn, ?_⟩
    by_cases hji : j = i
    · subst hji
      exact hy.qOp hi H
    · have h1 := (H.2 j (ready_mono hj hji)).2
      obtain ⟨hjun, oj, hoj, hall⟩ := mem_ready.1 hj
      have hnot : ∀ e ∈ oj.after, Region.binds md e = true → e.on ≠ i := fun e he hbd heq => by
        have h3 := hall e he hbd
        rw [heq, getD_both (mem_ready.1 hr).1] at h3
        cases h3
      have h2 := qOp_put hoj (hfree j oj hoj hji hjun hnot) (fun cs b => Region.noSelect_spec hsel i oi cs b hi) (fun cs b => Region.noSelect_spec hsel j oj cs b hoj) hy h1
      refine qOp_mono (fun a' h3 => ih (listed.setIfInBounds j true) a' (inv.set hj hjn) (fun k ok hk hki hun hno => ?_) (ready_mono hr (Ne.symm hji)) h3.1 ?_) h2
      · refine hfree k ok hk hki ?_ hno
        by_cases hjk : j = k
        · subst hjk; exact hjun
        · rw [getD_set_ne true hjk] at hun; exact hun
      · rw [Array.setIfInBounds_comm _ _ hji]
        exact h3.2

theorem hd_lex {n : Nat} {Lq : Act → Prop} (hsel : Region.noSelect ops = true) (hs : Region.sinkB md ops n = true) (hb : behindB md ops n = true) :
    ∀ (l : List Oper) (k : Nat) (listed : Array Bool) (a : Act), (∀ j, j < l.length → l[j]? = ops[k + j]?) → k + l.length = n → HeadInv md ops n listed →
    headB md ops l.length k listed = true → wpQuiet P ops C Lq l a →
    wpHd P md ops C n (fun listed' a' => headB md ops 0 n listed' = true ∧ Lq a') l.length listed a
  | [], k, listed, a, _, hk, _, hB, h => by
    have : k = n := by simpa using hk
    subst this
    exact ⟨hB, h⟩
  | o :: l, k, listed, a, hl, hk, inv, hB, h => by
    have h0 : ops[k]? = some o := by simpa using (hl 0 (by simp)).symm
    simp only [List.length_cons, headB, Bool.and_eq_true] at hB
    obtain ⟨⟨hr, hf⟩, hB'⟩ := hB
    have hkn : k < n := by simp only [List.length_cons] at hk; omega
    have hr' : k ∈ Region.ready md ops listed := by simpa using hr
    have hst : qOp P ops C k (wpQuiet P ops C Lq l) a := by unfold qOp; simp only [h0]; exact h
    obtain ⟨v, hy, hK⟩ := yieldsIn_of_qOp h0 hst
    refine hd_first h0 hsel hs hb hkn (fun listed' a' hL j hj => ?_) l.length listed a inv (Region.free_spec h0 hf) hr' hy
      (hd_lex hsel hs hb l (k + 1) _ _ (fun j hj => by have := hl (j + 1) (by simpa using hj); simpa [Nat.add_assoc, Nat.add_comm 1 j] using this) (by simp only [List.length_cons] at hk; omega) (inv.set hr' hkn) hB' hK)
    have h1 := hL.1
    simp only [headB, Bool.and_eq_true, decide_eq_true_eq] at h1
    rw [h1.1] at hj
    simp only [List.mem_singleton] at hj
    omega

theorem wp_region_pivot {id : Nat} {Q : Exit → Act → World → Prop} {a : Act} {w : World} {l : List Oper} (n : Nat) (hm : P.follows .mixedOrders = true) (hB : pivotB .any l.toArray n = true) (hC : C w.drew)
    (h : wpQuiet P l.toArray C (fun a1 => ∀ u, C u → ∀ o, l[n]? = some o → Region.wanted o (yielded l.toArray a1.tmps) = true ∧
      o.wp P a1 u (fun a2 u2 => C2 u2 ∧ wpQuiet P l.toArray C2 (fun a' => ∀ w', C2 w' → Q .normal a' w') (l.drop (n + 1)) a2) Q) (l.take n) a) : (Code.region id l.toArray true).wp P Q a w := by
  simp only [pivotB, Bool.and_eq_true, decide_eq_true_eq] at hB
  obtain ⟨⟨⟨⟨hsel, hn⟩, hs⟩, hb⟩, hh⟩ := hB
  have hn' : n < l.length := by simpa using hn
  have htl : (l.take n).length = n := by simp; omega
  have inv0 : HeadInv .any l.toArray n (Array.replicate l.toArray.size false) :=
    ⟨by simp, fun j oj _ hl => (by rw [getD_replicate_false] at hl; cases hl), fun t _ ht => getD_in (by simpa using ht) (getD_replicate_false _ _)⟩
  have H := hd_lex (P := P) (C := C) (md := .any) hsel hs hb (l.take n) 0 (Array.replicate l.toArray.size false) a (fun j hj => by
    have hj' : j < n := by rw [htl] at hj; exact hj
    simp [hj']) (by simpa using htl) inv0 (by rw [htl]; exact hh) h
  refine wp_region_any hm ?_
  have hgo := wpAny_of_hd (P := P) (C := C) (md := .any) (Q' := Q) (g := l.toArray.size - n) (fun listed a1 u hu hL => ?_) _ _ _ w.drew hC H
  · rw [htl] at hgo
    have e : n + (l.toArray.size - n) = l.toArray.size := by omega
    rw [e] at hgo
    exact hgo
  · obtain ⟨h1, h2⟩ := hL
    simp only [headB, Bool.and_eq_true, decide_eq_true_eq] at h1
    obtain ⟨hr, hlex⟩ := h1
    have e : l.toArray.size - n = (l.toArray.size - n - 1) + 1 := by omega
    rw [e]
    refine ⟨fun h0 => (by rw [hr] at h0; cases h0), fun i hi => ?_⟩
    rw [hr] at hi
    simp only [List.mem_singleton] at hi
    subst hi
    obtain ⟨o, ho⟩ : ∃ o, l[i]? = some o := ⟨l[i], by simp [hn']⟩
    have hoA : l.toArray[i]? = some o := by simpa using ho
    obtain ⟨hw, hwp⟩ := h2 u hu o ho
    unfold wpOp
    simp only [hoA]
    rw [if_pos hw]
    refine .inl (Oper.wp_mono (fun a2 u2 hq => ?_) hwp)
    have hdl : (l.drop (i + 1)).length = l.toArray.size - i - 1 := by simp; omega
    have hq2 := wpAnyQ_lex (P := P) (C := C2) (md := .any) hsel (l.drop (i + 1)) (i + 1) _ a2 (fun j => by simp [List.getElem?_drop]) (by rw [hdl]; exact hlex) hq.2
    rw [hdl] at hq2
    exact wpAny_of_quiet (fun a' w' hw' h' => h' w' hw') _ _ _ _ hq.1 hq2
end
end Go.Proofs.Ytkfcchapfklpgaa
/-
  NewBurst and BurstStep: the program's and the specification's.
-/
namespace Go.Proofs.Ytkfcchapfklpgaa
open Go.RowKit

set_option maxRecDepth 20000 in
set_option maxHeartbeats 4000000 in
theorem nwB_spec (c : Cf) (W : World) :
    Calls Try.prog 54 #[.agg #[.int .i64 c.r, .int .i64 c.s, .int .i64 c.b, .int .i64 c.m, .int .i64 c.q, .int .i64 c.c, .int .i64 c.w]] W fun e w' => e = .returned (.agg #[.int .i64 (nwB c).l, .int .i64 (nwB c).s, .int .i64 (nwB c).g]) ∧ Fr W w' := by
  have cS := fun u => cfOk_spec c u
  simp only [nwB]
  generalize cfB c = B at cS ⊢
  obtain ⟨r, s, b, m, q, c, w⟩ := c
  have cM := fun u => l1Min_any b m u
  simp only at cS ⊢
  have aC := CfAt.new W ⟨r, s, b, m, q, c, w⟩ 29
  have f := Fr.alloc W (.cells #[.int .i64 r, .int .i64 s, .int .i64 b, .int .i64 m, .int .i64 q, .int .i64 c, .int .i64 w] 29)
  have aB : BuZ ((W.alloc (.cells #[.int .i64 r, .int .i64 s, .int .i64 b, .int .i64 m, .int .i64 q, .int .i64 c, .int .i64 w] 29)).alloc (.cells #[.int .i64 0, .int .i64 0, .int .i64 0] 51)) (W.alloc (.cells #[.int .i64 r, .int .i64 s, .int .i64 b, .int .i64 m, .int .i64 q, .int .i64 c, .int .i64 w] 29)).heap.size #[.int .i64 0, .int .i64 0, .int .i64 0] := heap_alloc_new _ _
  have f' := Fr.alloc (W.alloc (.cells #[.int .i64 r, .int .i64 s, .int .i64 b, .int .i64 m, .int .i64 q, .int .i64 c, .int .i64 w] 29)) (.cells #[.int .i64 0, .int .i64 0, .int .i64 0] 51)
  replace f := f.trans f'
  replace aC := aC.fr f'
  clear f'
  have hs : (W.alloc (.cells #[.int .i64 r, .int .i64 s, .int .i64 b, .int .i64 m, .int .i64 q, .int .i64 c, .int .i64 w] 29)).heap.size = W.heap.size + 1 := by simp
  rw [hs] at aB
  clear hs
  go_enter Try.func54, Try.ntmps54
  go_wp2_with fail
  obtain ⟨U, hU⟩ : ∃ U, U = (W.alloc (.cells #[.int .i64 r, .int .i64 s, .int .i64 b, .int .i64 m, .int .i64 q, .int .i64 c, .int .i64 w] 29)).alloc (.cells #[.int .i64 0, .int .i64 0, .int .i64 0] 51) := ⟨_, rfl⟩
  rw [← hU] at aC aB f ⊢
  clear hU
  refine (cS _).mono ?_
  rintro e u0 ⟨rfl, f0⟩
  clear cS
  obtain ⟨k0, k1, k2, k3, k4, k5, k6⟩ := aC.fr f0
  simp only [Nat.zero_add] at k0 k1 k2 k3 k4 k5 k6
  replace aB := aB.fr f0
  have l0 := aB.c0
  have l1 := aB.c1
  have l2 := aB.c2
  have n0 := aB.free
  replace f := f.trans f0
  clear f0
  cases B
  · go_wp2_with fail
    have z := ((aB.set0 (.int .i64 0)).set1 (.int .i64 0)).set2 (.int .i64 0)
    have g := grown_trans (grown_trans (grown_set u0 (W.heap.size + 1) 0 (.int .i64 0)) (grown_set _ (W.heap.size + 1) 1 (.int .i64 0))) (grown_set _ (W.heap.size + 1) 2 (.int .i64 0))
    have z0 := z.c0
    have z1 := z.c1
    have z2 := z.c2
    refine bodyPost_ret (v := .agg #[.int .i64 0, .int .i64 0, .int .i64 0]) (by simp [results, Try.results54, go_sem, z0, z1, z2]) rfl ⟨by simp, ?_⟩
    exact f.then g (by intro j hj; cases hj; omega)
  go_wp2_with fail
  have e1 : ∀ s : Later u0, s.u.cell? ⟨W.heap.size, 2, none⟩ = some (.int .i64 b) := fun s => s.fr.cell k2
  have e2 : ∀ s : Later u0, s.u.cell? ⟨W.heap.size, 3, none⟩ = some (.int .i64 m) := fun s => s.fr.cell k3
  have hne := Later.some u0
  refine wp_region_pivot (C := fun w' => ∃ s : Later u0, w' = s.u) (C2 := fun w' => BuZ w' (W.heap.size + 1) #[.int .i64 b, .int .i64 0, .int .i64 (min b m)] ∧ Fr W w') 8 (by kernel_rfl) (by kernel_rfl) ⟨⟨u0.drew, Fr.drew u0⟩, rfl⟩ ?_
  simp only [List.take_succ_cons, List.take_zero, List.drop_succ_cons, List.drop_zero]
  repeat (go_big_quiet_step (first | with_reducible exact Calls.grown_same (cM _)))
  refine wpQuiet_nil ?_
  rintro _ ⟨σ, rfl⟩ o ho
  simp only [List.getElem?_cons_succ, List.getElem?_cons_zero, Option.some.injEq] at ho
  subst ho
  refine ⟨rfl, ?_⟩
  have aB := aB.fr σ.fr
  have n0 := aB.free
  have l0 := aB.c0
  have l1 := aB.c1
  have l2 := aB.c2
  have z := ((aB.set0 (.int .i64 b)).set1 (.int .i64 0)).set2 (.int .i64 (min b m))
  have g := grown_trans (grown_trans (grown_set σ.u (W.heap.size + 1) 0 (.int .i64 b)) (grown_set _ (W.heap.size + 1) 1 (.int .i64 0))) (grown_set _ (W.heap.size + 1) 2 (.int .i64 (min b m)))
  have HR : Hid (BuZ (((σ.u.setCell ⟨W.heap.size + 1, 0, none⟩ (.int .i64 b)).setCell ⟨W.heap.size + 1, 1, none⟩ (.int .i64 0)).setCell ⟨W.heap.size + 1, 2, none⟩ (.int .i64 (min b m))) (W.heap.size + 1) #[.int .i64 b, .int .i64 0, .int .i64 (min b m)] ∧ Fr W (((σ.u.setCell ⟨W.heap.size + 1, 0, none⟩ (.int .i64 b)).setCell ⟨W.heap.size + 1, 1, none⟩ (.int .i64 0)).setCell ⟨W.heap.size + 1, 2, none⟩ (.int .i64 (min b m)))) := ⟨z, (f.trans σ.fr).then g (by intro j hj; cases hj; omega)⟩
  clear z g
  go_simp
  refine ⟨HR.out, ?_⟩
  refine wpQuiet_nil ?_
  first | (rintro u2 ⟨z, f2⟩) | (intro u2 z f2)
  have z0 := z.c0
  have z1 := z.c1
  have z2 := z.c2
  clear HR l0 l1 l2 aB n0
  go_wp2_with fail
  refine bodyPost_ret (v := .agg #[.int .i64 b, .int .i64 0, .int .i64 (min b m)]) (by simp [results, Try.results54, go_sem, z0, z1, z2]) rfl ⟨rfl, ?_⟩
  exact f2

set_option maxRecDepth 20000 in
set_option maxHeartbeats 4000000 in
theorem nwB_impl (c : Cf) (W : World) :
    Calls Try.prog 70 #[.agg #[.int .i64 c.r, .int .i64 c.s, .int .i64 c.b, .int .i64 c.m, .int .i64 c.q, .int .i64 c.c, .int .i64 c.w]] W fun e w' => e = .returned (.agg #[.int .i64 (nwB c).l, .int .i64 (nwB c).s, .int .i64 (nwB c).g]) ∧ Fr W w' := by
  have cS := fun u => cfOk_impl c u
  simp only [nwB]
  generalize cfB c = B at cS ⊢
  obtain ⟨r, s, b, m, q, c, w⟩ := c
  simp only at cS ⊢
  have aC := CfAt.new W ⟨r, s, b, m, q, c, w⟩ 29
  have f := Fr.alloc W (.cells #[.int .i64 r, .int .i64 s, .int .i64 b, .int .i64 m, .int .i64 q, .int .i64 c, .int .i64 w] 29)
  have aB : BuZ ((W.alloc (.cells #[.int .i64 r, .int .i64 s, .int .i64 b, .int .i64 m, .int .i64 q, .int .i64 c, .int .i64 w] 29)).alloc (.cells #[.int .i64 0, .int .i64 0, .int .i64 0] 51)) (W.alloc (.cells #[.int .i64 r, .int .i64 s, .int .i64 b, .int .i64 m, .int .i64 q, .int .i64 c, .int .i64 w] 29)).heap.size #[.int .i64 0, .int .i64 0, .int .i64 0] := heap_alloc_new _ _
  have f' := Fr.alloc (W.alloc (.cells #[.int .i64 r, .int .i64 s, .int .i64 b, .int .i64 m, .int .i64 q, .int .i64 c, .int .i64 w] 29)) (.cells #[.int .i64 0, .int .i64 0, .int .i64 0] 51)
  replace f := f.trans f'
  replace aC := aC.fr f'
  clear f'
  have hs : (W.alloc (.cells #[.int .i64 r, .int .i64 s, .int .i64 b, .int .i64 m, .int .i64 q, .int .i64 c, .int .i64 w] 29)).heap.size = W.heap.size + 1 := by simp
  rw [hs] at aB
  clear hs
  go_enter Try.func70, Try.ntmps70
  go_wp2_with fail
  obtain ⟨U, hU⟩ : ∃ U, U = (W.alloc (.cells #[.int .i64 r, .int .i64 s, .int .i64 b, .int .i64 m, .int .i64 q, .int .i64 c, .int .i64 w] 29)).alloc (.cells #[.int .i64 0, .int .i64 0, .int .i64 0] 51) := ⟨_, rfl⟩
  rw [← hU] at aC aB f ⊢
  clear hU
  refine (cS _).mono ?_
  rintro e u0 ⟨rfl, f0⟩
  clear cS
  obtain ⟨k0, k1, k2, k3, k4, k5, k6⟩ := aC.fr f0
  simp only [Nat.zero_add] at k0 k1 k2 k3 k4 k5 k6
  replace aB := aB.fr f0
  have l0 := aB.c0
  have l1 := aB.c1
  have l2 := aB.c2
  have n0 := aB.free
  replace f := f.trans f0
  clear f0
  cases B
  · go_wp2_with fail
    have z := ((aB.set0 (.int .i64 0)).set1 (.int .i64 0)).set2 (.int .i64 0)
    have g := grown_trans (grown_trans (grown_set u0 (W.heap.size + 1) 0 (.int .i64 0)) (grown_set _ (W.heap.size + 1) 1 (.int .i64 0))) (grown_set _ (W.heap.size + 1) 2 (.int .i64 0))
    have z0 := z.c0
    have z1 := z.c1
    have z2 := z.c2
    refine bodyPost_ret (v := .agg #[.int .i64 0, .int .i64 0, .int .i64 0]) (by simp [results, Try.results70, go_sem, z0, z1, z2]) rfl ⟨by simp, ?_⟩
    exact f.then g (by intro j hj; cases hj; omega)
  by_cases hbm : b ≤ m
  · have hm : min b m = b := by omega
    go_wp2_with fail
    have z := ((aB.set0 (.int .i64 b)).set1 (.int .i64 0)).set2 (.int .i64 b)
    have g := grown_trans (grown_trans (grown_set u0 (W.heap.size + 1) 0 (.int .i64 b)) (grown_set _ (W.heap.size + 1) 1 (.int .i64 0))) (grown_set _ (W.heap.size + 1) 2 (.int .i64 b))
    have z0 := z.c0
    have z1 := z.c1
    have z2 := z.c2
    refine bodyPost_ret (v := .agg #[.int .i64 b, .int .i64 0, .int .i64 b]) (by simp [results, Try.results70, go_sem, z0, z1, z2]) rfl ⟨rfl, ?_⟩
    exact f.then g (by intro j hj; cases hj; omega)
  · have hm : min b m = m := by omega
    go_wp2_with fail
    have z := ((aB.set0 (.int .i64 b)).set1 (.int .i64 0)).set2 (.int .i64 m)
    have g := grown_trans (grown_trans (grown_set u0 (W.heap.size + 1) 0 (.int .i64 b)) (grown_set _ (W.heap.size + 1) 1 (.int .i64 0))) (grown_set _ (W.heap.size + 1) 2 (.int .i64 m))
    have z0 := z.c0
    have z1 := z.c1
    have z2 := z.c2
    refine bodyPost_ret (v := .agg #[.int .i64 b, .int .i64 0, .int .i64 m]) (by simp [results, Try.results70, go_sem, z0, z1, z2]) rfl ⟨rfl, ?_⟩
    exact f.then g (by intro j hj; cases hj; omega)
end Go.Proofs.Ytkfcchapfklpgaa
