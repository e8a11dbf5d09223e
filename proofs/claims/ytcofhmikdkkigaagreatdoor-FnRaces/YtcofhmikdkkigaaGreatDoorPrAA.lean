/-
  Pack AA: Ints, IntsApp, RowG, Range, ScInts, Grown, GrownSet, Ev, ScRange, IntsApp2.
-/
import Derived.Test.YtcofhmikdkkigaaGreatDoorRows
import Derived.WalkKit
import Derived.WalkLawsBesides
import Derived.Below
import Derived.BigQuiet
import Derived.Deep.QuietTactic
import Derived.OpenShut
import Derived.Laws.AppendOwnNone
import Derived.Maps.AppendAt
import Derived.RangeFuncNested
import Derived.RangeFuncBound
import Derived.RangeFuncCalls
import Derived.RangeFuncLeaves
namespace Go.Proofs.YtcofhmikdkkigaaGreatDoor
open Go.RowKit

def Fr (w w' : World) : Prop := w.grownBy w' none

theorem Fr.refl (w : World) : Fr w w := ⟨rfl, rfl, rfl, Nat.le_refl _, fun _ _ _ => rfl⟩
theorem Fr.trans {a b c : World} (h : Fr a b) (k : Fr b c) : Fr a c :=
  ⟨k.os.trans h.os, k.tape.trans h.tape, k.output.trans h.output, Nat.le_trans h.size k.size, fun i hi _ => (k.block i (Nat.lt_of_lt_of_le hi h.size) (by simp)).trans (h.block i hi (by simp))⟩
theorem Fr.drewN (w : World) (n : Nat) : Fr w (w.drewN n) := ⟨rfl, rfl, rfl, Nat.le_refl _, fun _ _ _ => rfl⟩
theorem drew2 (w : World) (a b : Nat) : (w.drewN a).drewN b = w.drewN (a + b) := by simp [World.drewN, Nat.add_assoc]
theorem Fr.drew (w : World) : Fr w w.drew := ⟨rfl, rfl, rfl, Nat.le_refl _, fun _ _ _ => rfl⟩
theorem Fr.alloc (w : World) (o : Obj) : Fr w (w.alloc o) := World.grownBy_alloc w o none
theorem Fr.then {a b c : World} {row : Option Nat} (h : Fr a b) (k : b.grownBy c row) (hr : ∀ j, row = some j → a.heap.size ≤ j) : Fr a c :=
  ⟨k.os.trans h.os, k.tape.trans h.tape, k.output.trans h.output, Nat.le_trans h.size k.size,
    fun i hi _ => (k.block i (Nat.lt_of_lt_of_le hi h.size) (fun e => by have := hr i e.symm; omega)).trans (h.block i hi (by simp))⟩
theorem Fr.below {w w' : World} (h : Fr w w') : Below w.heap.size w w' := ⟨h.os, h.tape, h.output, h.size, fun k hk => h.block k hk (by simp)⟩
theorem Fr.cell {w w' : World} (h : Fr w w') {p : Addr} {v : Value} (hc : w.cell? p = some v) : w'.cell? p = some v := World.grownBy.cell h hc (by simp)

def I64 (x : Int) : Prop := -9223372036854775808 ≤ x ∧ x ≤ 9223372036854775807

structure Reads (w : World) (ao : Option Addr) (xs : List Int) : Prop where
  len : xs.length ≤ 4294967296
  bd : ∀ x ∈ xs, I64 x
  at_ : ∀ i, i < xs.length → ∃ b off, ao = some ⟨b, off, none⟩ ∧ ∀ j, j < xs.length → w.cell? ⟨b, off + j, none⟩ = some (.int .i64 (xs.getD j 0))

theorem Reads.nil (w : World) (ao : Option Addr) : Reads w ao [] := ⟨by simp, by simp, by simp⟩

def blk (ao : Option Addr) : Option Nat := ao.map (·.block)

theorem Reads.keep {w w' : World} {ao : Option Addr} {xs : List Int} {row : Option Nat} (h : Reads w ao xs) (k : w.grownBy w' row) (hne : row = none ∨ blk ao ≠ row) : Reads w' ao xs := by
  refine ⟨h.len, h.bd, fun i hi => ?_⟩
  obtain ⟨b, off, e, hc⟩ := h.at_ i hi
  refine ⟨b, off, e, fun j hj => k.cell (hc j hj) ?_⟩
  rcases hne with rfl | hne
  · simp
  · intro hh
    apply hne
    rw [e, ← hh]
    rfl
theorem Reads.fr {w w' : World} {ao : Option Addr} {xs : List Int} (h : Reads w ao xs) (k : Fr w w') : Reads w' ao xs := h.keep k (.inl rfl)

def OwnI (w : World) (base : Nat) (v : Value) (xs : List Int) : Prop :=
  w.ownsRow base 2 1 v xs.length (xs.map (Value.int .i64)) ∧ xs.length ≤ 4294967296 ∧ ∀ x ∈ xs, I64 x

theorem OwnI.reads {w : World} {base : Nat} {g n cap : Nat} {xs : List Int} (h : OwnI w base (.slice (some ⟨g, 0, none⟩) n cap) xs) : Reads w (some ⟨g, 0, none⟩) xs := by
  obtain ⟨ho, hl, hb⟩ := h
  have hn : n = xs.length := by
    rcases ho.2 with ⟨e, _⟩ | ⟨g', c', cur, e, _⟩
    · simp at e
    · simp at e; exact e.2.1
  subst hn
  refine ⟨hl, hb, fun i _ => ⟨g, 0, rfl, fun j hj => ?_⟩⟩
  have := ho.cellAt j (by simpa using hj)
  simp only [Nat.zero_add]
  rw [this]
  simp [List.getElem?_eq_getElem hj, List.getD]

theorem getD_at {xs : List Int} {k : Nat} (h : k < xs.length) : xs.getD k 0 = xs[k] := by
  rw [List.getD_eq_getElem?_getD, List.getElem?_eq_getElem h]; rfl

theorem Tryz.info2 : (Tryz.prog.info? 2).map (fun i => (i.zero, i.size, i.bytes)) = some (some (.int .i64 0), 1, 8) := by kernel_rfl

theorem eq_step {a b : List Int} {k : Nat} (hab : a.length = b.length) (hk : k < a.length) (h : a.take k = b.take k) (e : a[k] = b[k]'(by omega)) : a.take (k + 1) = b.take (k + 1) := by
  rw [List.take_succ_eq_append_getElem hk, List.take_succ_eq_append_getElem (by omega : k < b.length), h, e]

theorem ne_of_at {a b : List Int} {k : Nat} (hk : k < a.length) (hk' : k < b.length) (e : a[k] ≠ b[k]) : (decide (a = b)) = false := by
  simp only [decide_eq_false_iff_not]
  intro h; subst h; exact e rfl
end Go.Proofs.YtcofhmikdkkigaaGreatDoor
namespace Go.Proofs.YtcofhmikdkkigaaGreatDoor
open Go.RowKit

def OwnS (w : World) (base : Nat) (v : Value) (xs : List Int) : Prop :=
  ∃ g cap, v = .slice (some ⟨g, 0, none⟩) xs.length cap ∧ OwnI w base (.slice (some ⟨g, 0, none⟩) xs.length cap) xs

theorem OwnI.keep {w w' : World} {base : Nat} {v : Value} {xs : List Int} {row : Option Nat} (h : OwnI w base v xs) (k : w.grownBy w' row) (hne : v.ownBlock = none ∨ v.ownBlock ≠ row) : OwnI w' base v xs :=
  ⟨h.1.kept k hne, h.2⟩
theorem OwnI.fr {w w' : World} {base : Nat} {v : Value} {xs : List Int} (h : OwnI w base v xs) (k : Fr w w') : OwnI w' base v xs :=
  h.keep k (by cases v.ownBlock <;> simp)
theorem OwnS.keep {w w' : World} {base : Nat} {v : Value} {xs : List Int} {row : Option Nat} (h : OwnS w base v xs) (k : w.grownBy w' row) (hne : v.ownBlock ≠ row) : OwnS w' base v xs := by
  obtain ⟨g, cap, rfl, ho⟩ := h
  exact ⟨g, cap, rfl, ho.keep k (.inr hne)⟩
theorem OwnS.fr {w w' : World} {base : Nat} {v : Value} {xs : List Int} (h : OwnS w base v xs) (k : Fr w w') : OwnS w' base v xs := by
  obtain ⟨g, cap, rfl, ho⟩ := h
  exact ⟨g, cap, rfl, ho.fr k⟩
theorem OwnI.lower {w : World} {base base' : Nat} {v : Value} {xs : List Int} (h : OwnI w base v xs) (hb : base' ≤ base) : OwnI w base' v xs := by
  refine ⟨⟨h.1.1, ?_⟩, h.2⟩
  rcases h.1.2 with e | ⟨g, cap, cur, e, hg, r⟩
  · exact .inl e
  · exact .inr ⟨g, cap, cur, e, by omega, r⟩
theorem OwnS.lower {w : World} {base base' : Nat} {v : Value} {xs : List Int} (h : OwnS w base v xs) (hb : base' ≤ base) : OwnS w base' v xs := by
  obtain ⟨g, cap, rfl, ho⟩ := h
  exact ⟨g, cap, rfl, ho.lower hb⟩
theorem OwnS.blk {w : World} {base : Nat} {v : Value} {xs : List Int} (h : OwnS w base v xs) : ∀ j, v.ownBlock = some j → base ≤ j := by
  obtain ⟨g, cap, rfl, ho⟩ := h
  intro j hj
  exact (ho.1.lt j hj).1
theorem OwnS.len {w : World} {base : Nat} {v : Value} {xs : List Int} (h : OwnS w base v xs) : xs.length ≤ 4294967296 := by
  obtain ⟨g, cap, rfl, ho⟩ := h
  exact ho.2.1

theorem OwnS.ne {w : World} {base : Nat} {v : Value} {xs : List Int} (h : OwnS w base v xs) {g : Nat} (hg : g < base) : v.ownBlock ≠ some g := by
  intro e
  have := h.blk g e
  omega
theorem OwnS.past {w : World} {base : Nat} {v : Value} {xs : List Int} (h : OwnS w base v xs) {g : Nat} (hg : g < base) : ∀ j, v.ownBlock = some j → g < j := by
  intro j e
  have := h.blk j e
  omega
theorem OwnS.bd {w : World} {base : Nat} {v : Value} {xs : List Int} (h : OwnS w base v xs) : ∀ x ∈ xs, I64 x := by
  obtain ⟨g, cap, rfl, ho⟩ := h
  exact ho.2.2

theorem own_empty (w : World) (base : Nat) (hb : base ≤ w.heap.size) : OwnS (w.alloc (.cells #[] 2)) base (.slice (some ⟨w.heap.size, 0, none⟩) 0 0) [] :=
  ⟨w.heap.size, 0, rfl, World.ownsRow_made w #[] 0 hb (by unfold maxLen; omega) rfl, by simp, by simp⟩

theorem reads_one (w : World) (x : Int) (h : I64 x) : Reads (w.alloc (.cells #[.int .i64 x] 2)) (some ⟨w.heap.size, 0, none⟩) [x] := by
  refine ⟨by simp, by simpa using h, fun i _ => ⟨w.heap.size, 0, rfl, fun j hj => ?_⟩⟩
  have : j = 0 := by simpa using hj
  subst this
  rw [cell_of_row _ _ _ _ _ _ (heap_alloc_new w _)]
  rfl

theorem shape_of {w : World} {base : Nat} {v : Value} {xs : List Int} (h : w.ownsRow base 2 1 v xs.length (xs.map (Value.int .i64))) (hn : v ≠ .slice none 0 0) (hl : xs.length ≤ 4294967296) (hb : ∀ x ∈ xs, I64 x) : OwnS w base v xs := by
  rcases h.2 with ⟨e, _⟩ | ⟨g, cap, cur, e, r⟩
  · exact absurd e hn
  · subst e; exact ⟨g, cap, rfl, h, hl, hb⟩

theorem appI (w : World) {ops : Array Oper} {rest : List Oper} {o : Oper} {a : Act} {Q : Exit → Act → World → Prop} (hgd : o.guard = none) (s x : Operand)
    (ho : o.op = .call { callee := .builtin .append, args := #[s, x], argTypes := #[27, 27] })
    (base : Nat) (v : Value) (xs news : List Int) (hs : a.eval s = v) (hown : OwnS w base v xs)
    (ao : Option Addr) (m c : Nat) (hx : a.eval x = .slice ao m c) (hm : news.length = m) (hc : ao = none → c = 0) (hnews : Reads w ao news)
    (hlen : xs.length + news.length ≤ 4294967296) (hbase : base ≤ w.heap.size)
    (h : ∀ v' w', OwnS w' base v' (xs ++ news) → w.grownBy w' v.ownBlock → wpList Tryz.prog ops Q rest (a.put o.dst v') w') : wpList Tryz.prog ops Q (o :: rest) a w := by
  obtain ⟨i0, hi, hz0, hz1, hz2⟩ := info_parts Tryz.info2
  subst hm
  have hbd : ∀ x ∈ xs ++ news, I64 x := by
    obtain ⟨g, cap, rfl, ho⟩ := hown
    intro x hx
    rcases List.mem_append.1 hx with hx | hx
    · exact ho.2.2 x hx
    · exact hnews.bd x hx
  cases ao with
  | none =>
    have hnil : news = [] := by
      cases news with
      | nil => rfl
      | cons y ys => obtain ⟨b, off, e, _⟩ := hnews.at_ 0 (by simp); cases e
    subst hnil
    have := hc rfl
    subst this
    obtain ⟨g, cap, rfl, ho'⟩ := hown
    refine wpList_append_own_none hgd s x 27 ho base 2 i0 1 Tryz.underlying27 hi _ _ _ hs ho'.1 hx ?_
    refine h _ w ?_ ⟨rfl, rfl, rfl, Nat.le_refl _, fun _ _ _ => rfl⟩
    rw [List.append_nil]
    exact ⟨g, cap, rfl, ho'⟩
  | some ad =>
    have hcell : ∀ j u, (news.map (Value.int .i64))[j]? = some u → w.cell? (ad.add j) = some u := by
      intro j u hu
      have hj : j < news.length := by
        have := (List.getElem?_eq_some_iff.1 hu).1
        simpa using this
      obtain ⟨b, off, e, hcc⟩ := hnews.at_ j hj
      simp only [Option.some.injEq] at e
      subst e
      rw [Addr.add_lit, hcc j hj]
      rw [List.getElem?_map, List.getElem?_eq_getElem hj] at hu
      rw [getD_at hj]
      simpa using hu
    obtain ⟨g, cap, rfl, ho'⟩ := hown
    refine wpList_append_own w hgd s x 27 ho base 2 i0 (.int .i64 0) 1 8 Tryz.underlying27 hi hz0 hz1 hz2 rfl (by decide) _ _ _ hs ho'.1 ad news.length c (news.map (Value.int .i64)) hx (by simp) hcell (ints_oneCell _ _) (by unfold maxLen; omega) (by omega) hbase ?_
    intro v' w' hv hg hnz
    refine h v' w' (shape_of ?_ ?_ (by simp; omega) hbd) hg
    · simpa using hv
    · intro e
      have := (hnz.1 e).1
      simp at this

theorem own_lt {w : World} {base g n cap : Nat} {xs : List Int} (h : OwnI w base (.slice (some ⟨g, 0, none⟩) n cap) xs) : base ≤ g ∧ g < w.heap.size := h.1.lt g rfl
theorem own_ne {g g' n cap : Nat} (h : g ≠ g') : (Value.slice (some ⟨g, 0, none⟩) n cap).ownBlock = none ∨ (Value.slice (some ⟨g, 0, none⟩) n cap).ownBlock ≠ some g' := .inr (by simpa [Value.ownBlock] using h)
theorem one_blk {a g : Nat} (h : a ≤ g) : ∀ j, some g = some j → a ≤ j := by
  intro j hj
  simp only [Option.some.injEq] at hj
  omega
end Go.Proofs.YtcofhmikdkkigaaGreatDoor
namespace Go.Proofs.YtcofhmikdkkigaaGreatDoor
open Go.RowKit

structure Lay (α : Type) where
  ty : Nat
  sz : Nat
  cs : α → List Value
  pos : 0 < sz
  len : ∀ x, (cs x).length = sz
  one : ∀ x, ∀ u ∈ cs x, u.oneCell' = true

structure ReadsG {α : Type} (L : Lay α) (w : World) (ao : Option Addr) (xs : List α) : Prop where
  len : xs.length ≤ 16777216
  at_ : ∀ i, i < xs.length → ∃ b off, ao = some ⟨b, off, none⟩ ∧ ∀ j (hj : j < xs.length) k, k < L.sz → w.cell? ⟨b, off + j * L.sz + k, none⟩ = (L.cs xs[j])[k]?

theorem ReadsG.nil {α : Type} (L : Lay α) (w : World) (ao : Option Addr) : ReadsG L w ao [] := ⟨by simp, by simp⟩
theorem ReadsG.keep {α : Type} {L : Lay α} {w w' : World} {ao : Option Addr} {xs : List α} {row : Option Nat} (h : ReadsG L w ao xs) (k : w.grownBy w' row) (hne : row = none ∨ blk ao ≠ row) : ReadsG L w' ao xs := by
  refine ⟨h.len, fun i hi => ?_⟩
  obtain ⟨b, off, e, hc⟩ := h.at_ i hi
  refine ⟨b, off, e, fun j hj q hq => ?_⟩
  have h0 := hc j hj q hq
  have hlt : q < (L.cs xs[j]).length := by rw [L.len]; exact hq
  rw [List.getElem?_eq_getElem hlt] at h0 ⊢
  refine k.cell h0 ?_
  rcases hne with rfl | hne
  · simp
  · intro hh
    apply hne
    rw [e, ← hh]
    rfl
theorem ReadsG.fr {α : Type} {L : Lay α} {w w' : World} {ao : Option Addr} {xs : List α} (h : ReadsG L w ao xs) (k : Fr w w') : ReadsG L w' ao xs := h.keep k (.inl rfl)

theorem cellsG_at {α : Type} (L : Lay α) (xs : List α) (j k : Nat) (hj : j < xs.length) (hk : k < L.sz) : (xs.flatMap L.cs)[j * L.sz + k]? = (L.cs xs[j])[k]? := by
  induction xs generalizing j with
  | nil => simp at hj
  | cons e es ih =>
    have h8 := L.len e
    cases j with
    | zero => rw [List.flatMap_cons, Nat.zero_mul, Nat.zero_add, List.getElem?_append_left (by omega)]; rfl
    | succ j =>
      have e1 : (j + 1) * L.sz + k - L.sz = j * L.sz + k := by rw [Nat.succ_mul]; omega
      rw [List.flatMap_cons, List.getElem?_append_right (by rw [Nat.succ_mul]; omega), h8, e1, ih j (by simpa using hj)]
      rfl

def OwnG {α : Type} (L : Lay α) (w : World) (base : Nat) (v : Value) (xs : List α) : Prop :=
  ∃ g cap, v = .slice (some ⟨g, 0, none⟩) xs.length cap ∧ w.ownsRow base L.ty L.sz (.slice (some ⟨g, 0, none⟩) xs.length cap) xs.length (xs.flatMap L.cs) ∧ xs.length ≤ 16777216

theorem own_readsG {α : Type} {L : Lay α} {w : World} {base g cap : Nat} {xs : List α} (h : w.ownsRow base L.ty L.sz (.slice (some ⟨g, 0, none⟩) xs.length cap) xs.length (xs.flatMap L.cs)) (hl : xs.length ≤ 16777216) : ReadsG L w (some ⟨g, 0, none⟩) xs := by
  refine ⟨hl, fun i hi => ⟨g, 0, rfl, fun j hj k hk => ?_⟩⟩
  have hm : (j + 1) * L.sz ≤ xs.length * L.sz := Nat.mul_le_mul_right _ hj
  rw [Nat.succ_mul] at hm
  have := h.cellAt (j * L.sz + k) (by omega)
  rw [Nat.zero_add, this, cellsG_at L xs j k hj hk]
theorem OwnG.keep {α : Type} {L : Lay α} {w w' : World} {base : Nat} {v : Value} {xs : List α} {row : Option Nat} (h : OwnG L w base v xs) (k : w.grownBy w' row) (hne : v.ownBlock ≠ row) : OwnG L w' base v xs := by
  obtain ⟨g, cap, rfl, ho, hl⟩ := h
  exact ⟨g, cap, rfl, ho.kept k (.inr hne), hl⟩
theorem OwnG.fr {α : Type} {L : Lay α} {w w' : World} {base : Nat} {v : Value} {xs : List α} (h : OwnG L w base v xs) (k : Fr w w') : OwnG L w' base v xs := by
  obtain ⟨g, cap, rfl, ho, hl⟩ := h
  exact ⟨g, cap, rfl, ho.kept k (by simp [Value.ownBlock]), hl⟩
theorem OwnG.blk {α : Type} {L : Lay α} {w : World} {base : Nat} {v : Value} {xs : List α} (h : OwnG L w base v xs) : ∀ j, v.ownBlock = some j → base ≤ j := by
  obtain ⟨g, cap, rfl, ho, hl⟩ := h
  intro j hj
  exact (ho.lt j hj).1
theorem OwnG.lt {α : Type} {L : Lay α} {w : World} {base : Nat} {v : Value} {xs : List α} (h : OwnG L w base v xs) : ∀ j, v.ownBlock = some j → j < w.heap.size := by
  obtain ⟨g, cap, rfl, ho, hl⟩ := h
  intro j hj
  exact (ho.lt j hj).2
theorem OwnG.lower {α : Type} {L : Lay α} {w : World} {base base' : Nat} {v : Value} {xs : List α} (h : OwnG L w base v xs) (hb : base' ≤ base) : OwnG L w base' v xs := by
  obtain ⟨g, cap, rfl, ho, hl⟩ := h
  refine ⟨g, cap, rfl, ⟨ho.1, ?_⟩, hl⟩
  rcases ho.2 with e | ⟨g, cap, cur, e, hg, r⟩
  · exact .inl e
  · exact .inr ⟨g, cap, cur, e, by omega, r⟩
theorem ownG_new {α : Type} (L : Lay α) (w : World) (base : Nat) (hb : base ≤ w.heap.size) : OwnG L (w.alloc (.cells #[] L.ty)) base (.slice (some ⟨w.heap.size, 0, none⟩) 0 0) [] :=
  ⟨w.heap.size, 0, rfl, ⟨by simp, .inr ⟨w.heap.size, 0, #[], rfl, hb, heap_alloc_new w _, Nat.le_refl _, by unfold maxLen; omega, by simp, by simp⟩⟩, by simp⟩

theorem appG {α : Type} (L : Lay α) (w : World) {ops : Array Oper} {rest : List Oper} {o : Oper} {a : Act} {Q : Exit → Act → World → Prop} (hgd : o.guard = none) (s x : Operand) (T : TypeId) (z : Value) (bytes : Nat)
    (ho : o.op = .call { callee := .builtin .append, args := #[s, x], argTypes := #[T, T] })
    (hT : Tryz.prog.underlying T = some (.slice L.ty)) (hI : (Tryz.prog.info? L.ty).map (fun i => (i.zero, i.size, i.bytes)) = some (some z, L.sz, bytes)) (hzs : z.cells.size = L.sz) (hby : bytes ≤ 1000)
    (base : Nat) (v : Value) (xs : List α) (e : α) (hs : a.eval s = v) (hown : OwnG L w base v xs)
    (b : Nat) (c : Nat) (hx : a.eval x = .slice (some ⟨b, 0, none⟩) 1 c) (hnew : ∀ k, k < L.sz → w.cell? ⟨b, k, none⟩ = (L.cs e)[k]?)
    (hlen : xs.length ≤ 16777215) (hbase : base ≤ w.heap.size)
    (h : ∀ v' w', OwnG L w' base v' (xs ++ [e]) → w.grownBy w' v.ownBlock → (v'.ownBlock = v.ownBlock ∨ v'.ownBlock = some w.heap.size) → wpList Tryz.prog ops Q rest (a.put o.dst v') w') : wpList Tryz.prog ops Q (o :: rest) a w := by
  obtain ⟨i0, hi, hz0, hz1, hz2⟩ := info_parts hI
  obtain ⟨g, cap, rfl, ho', hl⟩ := hown
  have hb : (xs.length + 1) * bytes ≤ 140737488355328 := by
    have := Nat.mul_le_mul (show xs.length + 1 ≤ 16777216 by omega) hby
    omega
  refine wpList_append_own_at w hgd s x T ho base L.ty i0 z L.sz bytes hT hi hz0 hz1 hz2 hzs L.pos _ _ _ hs ho' ⟨b, 0, none⟩ 1 c (L.cs e) hx (by rw [L.len, Nat.one_mul]) ?_ (L.one e) (by unfold maxLen; omega) hb hbase ?_
  · intro j u hu
    rw [Addr.add_lit]
    have hj : j < L.sz := by
      have := (List.getElem?_eq_some_iff.1 hu).1
      rwa [L.len] at this
    rw [Nat.zero_add, hnew j hj, hu]
  · intro v' w' hv hg hnz hat
    refine h v' w' ?_ hg hat
    rcases hv.2 with ⟨e', _⟩ | ⟨g', cap', cur, e', r⟩
    · have := (hnz.1 e').1
      simp at this
    · subst e'
      exact ⟨g', cap', by simp, by simpa [List.flatMap_append] using hv, by simp; omega⟩
end Go.Proofs.YtcofhmikdkkigaaGreatDoor
namespace Go.Proofs.YtcofhmikdkkigaaGreatDoor
open Go.RowKit

def inB (lo hi x : Int) : Bool := decide (lo ≤ x) && decide (x ≤ hi)

theorem inB_true {lo hi x : Int} (h : inB lo hi x = true) : lo ≤ x ∧ x ≤ hi := by simpa [inB] using h
theorem inB_mk {lo hi x : Int} (h1 : lo ≤ x) (h2 : x ≤ hi) : inB lo hi x = true := by simp [inB, h1, h2]
theorem inB_not {lo hi x : Int} (h : x < lo ∨ hi < x) : inB lo hi x = false := by
  simp only [inB, Bool.and_eq_false_iff, decide_eq_false_iff_not]; omega
theorem ret_int {k : IntKind} {a b : Int} (h : a = b) : Ending.returned (.int k a) = .returned (.int k b) := by rw [h]
theorem ret_bool {a b : Bool} (h : a = b) : Ending.returned (.bool a) = .returned (.bool b) := by rw [h]

theorem l1In_any (x lo hi : Int) (w : World) :
    Calls Tryz.prog 60 #[.int .i64 x, .int .i64 lo, .int .i64 hi] w fun e w' => e = .returned (.bool (inB lo hi x)) ∧ w' = w := by
  by_cases h : lo ≤ x
  · by_cases h2 : x ≤ hi
    · rw [inB_mk h h2]
      go_enter Tryz.func60, Tryz.ntmps60
      go_wp2
      go_ret
      exact ⟨rfl, rfl⟩
    · rw [inB_not (by omega)]
      go_enter Tryz.func60, Tryz.ntmps60
      go_wp2
      go_ret
      exact ⟨rfl, rfl⟩
  · rw [inB_not (by omega)]
    go_enter Tryz.func60, Tryz.ntmps60
    go_wp2
    go_ret
    exact ⟨rfl, rfl⟩

theorem gorIn_any (x : Int) (w : World) :
    Calls Tryz.prog 159 #[.int .i64 x] w fun e w' => e = .returned (.bool (inB 0 15 x)) ∧ w' = w := by
  by_cases h : 0 ≤ x
  · by_cases h2 : x < 16
    · rw [inB_mk h (by omega)]
      go_enter Tryz.func159, Tryz.ntmps159
      go_wp2
      go_ret
      exact ⟨rfl, rfl⟩
    · rw [inB_not (by omega)]
      go_enter Tryz.func159, Tryz.ntmps159
      go_wp2
      go_ret
      exact ⟨rfl, rfl⟩
  · rw [inB_not (by omega)]
    go_enter Tryz.func159, Tryz.ntmps159
    go_wp2
    go_ret
    exact ⟨rfl, rfl⟩


theorem within_any (x lo hi : Int) (w : World) :
    Calls Tryz.prog 65 #[.int .i64 x, .int .i64 lo, .int .i64 hi] w fun e w' => e = .returned (.bool (inB lo hi x)) ∧ w' = w := by
  by_cases h : lo ≤ x
  · by_cases h2 : x ≤ hi
    · rw [inB_mk h h2]
      go_enter Tryz.func65, Tryz.ntmps65
      go_wp2
      go_ret
      exact ⟨rfl, rfl⟩
    · rw [inB_not (by omega)]
      go_enter Tryz.func65, Tryz.ntmps65
      go_wp2
      go_ret
      exact ⟨rfl, rfl⟩
  · rw [inB_not (by omega)]
    go_enter Tryz.func65, Tryz.ntmps65
    go_wp2
    go_ret
    exact ⟨rfl, rfl⟩
end Go.Proofs.YtcofhmikdkkigaaGreatDoor
namespace Go.Proofs.YtcofhmikdkkigaaGreatDoor
open Go.RowKit

theorem l4Obj_any (x : Int) (w : World) :
    Calls Tryz.prog 63 #[.int .i64 x] w fun e w' => e = .returned (.bool (inB 0 15 x)) ∧ w' = w := by
  go_enter Tryz.func63, Tryz.ntmps63
  go_wp2_with (go_at_call 60; refine (l1In_any _ _ _ _).mono ?_; rintro e w' ⟨rfl, rfl⟩)
  go_ret
  exact ⟨rfl, rfl⟩

def memB (xs : List Int) (x : Int) : Bool := xs.any (· == x)
theorem memB_yes {xs : List Int} {x : Int} {k : Nat} (hk : k < xs.length) (h : xs[k] = x) : memB xs x = true := by
  rw [memB, List.any_eq_true]
  exact ⟨xs[k], List.getElem_mem hk, by simp [h]⟩
theorem memB_no {xs : List Int} {x : Int} (h : ∀ j, j < xs.length → xs.getD j 0 ≠ x) : memB xs x = false := by
  rw [memB, List.any_eq_false]
  intro y hy
  obtain ⟨j, hj, rfl⟩ := List.mem_iff_getElem.1 hy
  have := h j hj
  rw [getD_at hj] at this
  simpa using this

set_option maxHeartbeats 400000 in
theorem l4In_any (ao : Option Addr) (n cap : Nat) (xs : List Int) (x : Int) (w : World) (hn : xs.length = n) (h : Reads w ao xs) :
    Calls Tryz.prog 58 #[.slice ao n cap, .int .i64 x] w fun e w' => e = .returned (.bool (memB xs x)) ∧ w' = w := by
  subst hn
  have hl := h.len
  go_enter Tryz.func58, Tryz.ntmps58
  go_wp2
  go_loop [5] (fun i => ∃ k : Nat, k ≤ xs.length ∧ i = .int .i64 k ∧ Hid (∀ j, j < k → xs.getD j 0 ≠ x)) (fun i => xs.length - (intOf i).toNat)
  case atStart => exact ⟨0, Nat.zero_le _, rfl, fun j hj => by omega⟩
  case round =>
    obtain ⟨k, hk, rfl, HA⟩ := hrel
    by_cases hlt : k < xs.length
    · obtain ⟨b, off, rfl, hc⟩ := h.at_ k hlt
      have hck := hc k hlt
      rw [getD_at hlt] at hck
      clear hc
      by_cases he : xs[k] = x
      · have hb : (xs[k] == x) = true := beq_iff_eq.2 he
        have HE : Hid (memB xs x = true) := memB_yes hlt he
        clear he
        go_wp2
        go_ret
        exact ⟨ret_bool HE.out.symm, rfl⟩
      · have hb : (xs[k] == x) = false := beq_eq_false_iff_ne.2 he
        have HE : Hid (xs[k] ≠ x) := he
        clear he
        go_wp2
        go_round
        case rel =>
          refine ⟨k + 1, by omega, by go_num, fun j hj => ?_⟩
          by_cases e : j = k
          · subst e; rw [getD_at hlt]; exact HE.out
          · exact HA.out j (by omega)
        case measure => simp [intOf]; omega
    · have HN : Hid (memB xs x = false) := memB_no (fun j hj => HA.out j (by omega))
      go_wp2
      go_ret
      exact ⟨ret_bool HN.out.symm, rfl⟩

def outL (xs : List Int) (x : Int) : List Int := xs.filter fun y => !(y == x)
theorem outL_yes (xs : List Int) (x : Int) (k : Nat) (hk : k < xs.length) (h : (xs[k] == x) = false) : outL (xs.take (k + 1)) x = outL (xs.take k) x ++ [xs[k]] := by
  rw [outL, List.take_succ_eq_append_getElem hk, List.filter_append]
  simp [outL, h]
theorem outL_no (xs : List Int) (x : Int) (k : Nat) (hk : k < xs.length) (h : (xs[k] == x) = true) : outL (xs.take (k + 1)) x = outL (xs.take k) x := by
  rw [outL, List.take_succ_eq_append_getElem hk, List.filter_append]
  simp [outL, h]
theorem outL_len (xs : List Int) (x : Int) : (outL xs x).length ≤ xs.length := List.length_filter_le _ _

set_option maxHeartbeats 800000 in
theorem l4Without_any (ao : Option Addr) (n cap : Nat) (xs : List Int) (x : Int) (w : World) (hn : xs.length = n) (h : Reads w ao xs) (hl : xs.length ≤ 4294967000) :
    Calls Tryz.prog 167 #[.slice ao n cap, .int .i64 x] w fun e w' => ∃ v, e = .returned v ∧ OwnS w' w.heap.size v (outL xs x) ∧ Fr w w' := by
  subst hn
  go_enter Tryz.func167, Tryz.ntmps167
  go_wp2_with fail
  go_loopw [5, 6] (fun u i wr => ∃ k : Nat, k ≤ xs.length ∧ i = .int .i64 k ∧ OwnS wr w.heap.size u (outL (xs.take k) x) ∧ Fr w wr) (fun _ i _ => xs.length - (intOf i).toNat)
  case atStart => exact ⟨0, Nat.zero_le _, rfl, own_empty w _ (Nat.le_refl _), Fr.alloc w _⟩
  case round =>
    obtain ⟨k, hk, rfl, ho, hf⟩ := hrel
    have hs := hf.size
    by_cases hlt : k < xs.length
    · obtain ⟨b, off, rfl, hc⟩ := (h.fr hf).at_ k hlt
      have hck := hc k hlt
      rw [getD_at hlt] at hck
      have hI := h.bd _ (List.getElem_mem hlt)
      have hll := outL_len (xs.take k) x
      have hlk : (xs.take k).length ≤ k := by simp; omega
      cases hb : (xs[k] == x)
      · have HN : Hid (outL (xs.take (k + 1)) x = outL (xs.take k) x ++ [xs[k]]) := outL_yes xs x k hlt hb
        obtain ⟨z, hz⟩ : ∃ z, z = xs[k] := ⟨_, rfl⟩
        rw [← hz] at hck hb HN hI
        clear hz hc
        have hm := reads_one wr z hI
        go_wp2_with (at_builtin; refine appI _ rfl _ _ rfl w.heap.size _ _ [z] rfl (ho.fr (Fr.alloc _ _)) _ _ _ rfl rfl (by simp) hm (by simp; omega) (by simp; omega) ?_; intro v1 w4 hv1 hg1)
        go_roundw
        case rel => exact ⟨k + 1, by omega, by go_num, by rw [HN.out]; exact hv1, (hf.trans (Fr.alloc _ _)).then hg1 ho.blk⟩
        case measure => simp [intOf]; omega
      · have HN : Hid (outL (xs.take (k + 1)) x = outL (xs.take k) x) := outL_no xs x k hlt hb
        obtain ⟨z, hz⟩ : ∃ z, z = xs[k] := ⟨_, rfl⟩
        rw [← hz] at hck hb
        clear hz hc
        go_wp2_with fail
        go_roundw
        case rel => exact ⟨k + 1, by omega, by go_num, by rw [HN.out]; exact ho, hf⟩
        case measure => simp [intOf]; omega
    · have et : k = xs.length := by omega
      subst et
      rw [List.take_length] at ho
      go_wp2_with fail
      go_ret
      exact ⟨_, rfl, ho, hf⟩

def inS (x : Int) (a : List Int × Bool) (y : Int) : List Int × Bool :=
  if !a.2 && decide (x < y) then (a.1 ++ [x] ++ [y], true) else (a.1 ++ [y], a.2)
def inP (xs : List Int) (x : Int) : List Int × Bool := xs.foldl (inS x) ([], false)
def withL (xs : List Int) (x : Int) : List Int := if (inP xs x).2 then (inP xs x).1 else (inP xs x).1 ++ [x]
theorem inP_step (xs : List Int) (x : Int) (k : Nat) (hk : k < xs.length) : inP (xs.take (k + 1)) x = inS x (inP (xs.take k) x) xs[k] := by
  rw [inP, List.take_succ_eq_append_getElem hk, List.foldl_append]
  rfl
theorem inS_len (x : Int) (a : List Int × Bool) (y : Int) : (inS x a y).1.length ≤ a.1.length + 2 := by
  unfold inS
  split <;> simp
theorem inP_len (xs : List Int) (x : Int) (k : Nat) (hk : k ≤ xs.length) : (inP (xs.take k) x).1.length ≤ 2 * k := by
  induction k with
  | zero => simp [inP]
  | succ k ih =>
    have := ih (by omega)
    have h2 := inS_len x (inP (xs.take k) x) (xs[k]'(by omega))
    rw [inP_step xs x k (by omega)]
    omega

theorem cell_at {w w1 w4 : World} {bl off k : Nat} {xs : List Int} {z : Int} (h : Reads w (some ⟨bl, off, none⟩) xs) (hk : k < xs.length) (f : Fr w w4) (hc : w1.cell? ⟨bl, off + k, none⟩ = some (.int .i64 z)) (f1 : Fr w w1) : w4.cell? ⟨bl, off + k, none⟩ = some (.int .i64 z) := by
  obtain ⟨b, o, e, hh⟩ := h.at_ k hk
  simp only [Option.some.injEq, Addr.mk.injEq, and_true] at e
  obtain ⟨rfl, rfl⟩ := e
  have h0 := hh k hk
  have := f1.cell h0
  rw [hc] at this
  rw [f.cell h0, this]

set_option maxRecDepth 20000 in
set_option maxHeartbeats 1000000 in
theorem l4With_any (ao : Option Addr) (n cap : Nat) (xs : List Int) (x : Int) (w : World) (hn : xs.length = n) (hx : I64 x) (h : Reads w ao xs) (hl : xs.length ≤ 2000000000) :
    Calls Tryz.prog 166 #[.slice ao n cap, .int .i64 x] w fun e w' => ∃ v, e = .returned v ∧ OwnS w' w.heap.size v (withL xs x) ∧ Fr w w' := by
  subst hn
  go_enter Tryz.func166, Tryz.ntmps166
  go_wp2_with fail
  go_loopw [5, 6, 7] (fun u q i wr => ∃ (k : Nat) (ys : List Int) (b : Bool), k ≤ xs.length ∧ i = .int .i64 k ∧ q = .bool b ∧ Hid (inP (xs.take k) x = (ys, b)) ∧ ys.length ≤ 2 * k ∧ OwnS wr w.heap.size u ys ∧ Fr w wr) (fun _ _ i _ => xs.length - (intOf i).toNat)
  case atStart => exact ⟨0, [], false, Nat.zero_le _, rfl, rfl, rfl, by simp, own_empty w _ (Nat.le_refl _), Fr.alloc w _⟩
  case round =>
    obtain ⟨k, ys, b, hk, rfl, rfl, HP, hyl, ho, hf⟩ := hrel
    have hs := hf.size
    by_cases hlt : k < xs.length
    · obtain ⟨bl, off, rfl, hc⟩ := (h.fr hf).at_ k hlt
      have hck := hc k hlt
      rw [getD_at hlt] at hck
      have hI := h.bd _ (List.getElem_mem hlt)
      have HS : Hid (inP (xs.take (k + 1)) x = inS x (ys, b) xs[k]) := by
        show inP (xs.take (k + 1)) x = inS x (ys, b) xs[k]
        rw [inP_step xs x k hlt, HP.out]
      obtain ⟨z, hz⟩ : ∃ z, z = xs[k] := ⟨_, rfl⟩
      rw [← hz] at hck HS hI
      clear hz hc HP
      have hm := reads_one wr z hI
      cases b
      · by_cases hxz : x < z
        · have HN : Hid (inP (xs.take (k + 1)) x = (ys ++ [x] ++ [z], true)) := by
            show inP (xs.take (k + 1)) x = (ys ++ [x] ++ [z], true)
            rw [HS.out]; simp [inS, hxz]
          clear HS
          have hm1 := reads_one wr x hx
          have hbk := ho.blk
          clear hm
          go_wp2_with (at_builtin; first | (refine appI _ rfl _ _ rfl w.heap.size _ _ [x] rfl (ho.fr (Fr.alloc _ _)) _ _ _ rfl rfl (by simp) hm1 (by simp; omega) (by simp; omega) ?_; intro v1 w4 hv1 hg1; have f4 := (hf.trans (Fr.alloc wr (.cells #[.int .i64 x] 2))).then hg1 hbk; have hck4 := cell_at h hlt f4 hck hf; have hm4 := reads_one w4 z hI; have s4 := f4.size; clear hg1 hm1 hck) | (refine appI _ rfl _ _ rfl w.heap.size _ _ [z] rfl (hv1.fr (Fr.alloc _ _)) _ _ _ rfl rfl (by simp) hm4 (by simp; omega) (by simp; omega) ?_; intro v5 w5 hv5 hg5))
          go_roundw
          case rel => exact ⟨k + 1, _, _, by omega, by go_num, rfl, HN, by simp; omega, hv5, (f4.trans (Fr.alloc _ _)).then hg5 hv1.blk⟩
          case measure => simp [intOf]; omega
        · have HN : Hid (inP (xs.take (k + 1)) x = (ys ++ [z], false)) := by
            show inP (xs.take (k + 1)) x = (ys ++ [z], false)
            rw [HS.out]; simp [inS, hxz]
          clear HS
          have hxz : z ≤ x := by omega
          go_wp2_with (at_builtin; refine appI _ rfl _ _ rfl w.heap.size _ _ [z] rfl (ho.fr (Fr.alloc _ _)) _ _ _ rfl rfl (by simp) hm (by simp; omega) (by simp; omega) ?_; intro v1 w4 hv1 hg1)
          go_roundw
          case rel => exact ⟨k + 1, _, _, by omega, by go_num, rfl, HN, by simp; omega, hv1, (hf.trans (Fr.alloc _ _)).then hg1 ho.blk⟩
          case measure => simp [intOf]; omega
      · have HN : Hid (inP (xs.take (k + 1)) x = (ys ++ [z], true)) := by
          show inP (xs.take (k + 1)) x = (ys ++ [z], true)
          rw [HS.out]; simp [inS]
        clear HS
        go_wp2_with (at_builtin; refine appI _ rfl _ _ rfl w.heap.size _ _ [z] rfl (ho.fr (Fr.alloc _ _)) _ _ _ rfl rfl (by simp) hm (by simp; omega) (by simp; omega) ?_; intro v1 w4 hv1 hg1)
        go_roundw
        case rel => exact ⟨k + 1, _, _, by omega, by go_num, rfl, HN, by simp; omega, hv1, (hf.trans (Fr.alloc _ _)).then hg1 ho.blk⟩
        case measure => simp [intOf]; omega
    · have et : k = xs.length := by omega
      subst et
      rw [List.take_length] at HP
      cases b
      · have HN : Hid (withL xs x = ys ++ [x]) := by
          show withL xs x = ys ++ [x]
          rw [withL, HP.out]; rfl
        have hm1 := reads_one wr x hx
        go_wp2_with (at_builtin; refine appI _ rfl _ _ rfl w.heap.size _ _ [x] rfl (ho.fr (Fr.alloc _ _)) _ _ _ rfl rfl (by simp) hm1 (by simp; omega) (by simp; omega) ?_; intro v1 w4 hv1 hg1)
        go_ret
        exact ⟨_, rfl, by rw [HN.out]; exact hv1, (hf.trans (Fr.alloc _ _)).then hg1 ho.blk⟩
      · have HN : Hid (withL xs x = ys) := by
          show withL xs x = ys
          rw [withL, HP.out]; rfl
        go_wp2_with fail
        go_ret
        exact ⟨_, rfl, by rw [HN.out]; exact ho, hf⟩
end Go.Proofs.YtcofhmikdkkigaaGreatDoor
namespace Go.Proofs.YtcofhmikdkkigaaGreatDoor
open Go.RowKit

structure Later (w : World) where
  u : World
  fr : Fr w u

theorem Later.some (w : World) : Nonempty (Later w) := ⟨⟨w, Fr.refl w⟩⟩

theorem wp_region_grown {P : Program} {id : Nat} {Q : Exit → Act → World → Prop} {a : Act} {w : World} {l : List Oper} (hm : P.follows .mixedOrders = true) (hB : Region.lexB .any l.toArray = true)
    (h : wpQuiet P l.toArray (fun w' => ∃ s : Later w, w' = s.u) (fun a' => ∀ w', (∃ s : Later w, w' = s.u) → Q .normal a' w') l a) : (Code.region id l.toArray true).wp P Q a w :=
  wp_region_quiet (C := fun w' => ∃ s : Later w, w' = s.u) hm hB ⟨⟨w.drew, Fr.drew w⟩, rfl⟩ (by simpa using h)

theorem Calls.grown_of {P : Program} {f : FuncId} {args : Array Value} {w : World} {s : Later w} {v : Value}
    (h : Calls P f args s.u fun e w' => e = .returned v ∧ Fr s.u w') : Calls P f args s.u fun e w'' => e = .returned v ∧ ∃ s' : Later w, w'' = s'.u :=
  h.mono fun _ w' ⟨he, hf⟩ => ⟨he, ⟨w', s.fr.trans hf⟩, rfl⟩
theorem Calls.grown_same {P : Program} {f : FuncId} {args : Array Value} {w : World} {s : Later w} {v : Value}
    (h : Calls P f args s.u fun e w' => e = .returned v ∧ w' = s.u) : Calls P f args s.u fun e w'' => e = .returned v ∧ ∃ s' : Later w, w'' = s'.u :=
  h.mono fun _ _ ⟨he, hm⟩ => ⟨he, s, hm⟩
end Go.Proofs.YtcofhmikdkkigaaGreatDoor
namespace Go.Proofs.YtcofhmikdkkigaaGreatDoor
open Go.RowKit

theorem grown_trans {a b c : World} {row : Option Nat} (h : a.grownBy b row) (k : b.grownBy c row) : a.grownBy c row :=
  ⟨k.os.trans h.os, k.tape.trans h.tape, k.output.trans h.output, Nat.le_trans h.size k.size, fun i hi hne => (k.block i (Nat.lt_of_lt_of_le hi h.size) hne).trans (h.block i hi hne)⟩
theorem grown_draw (w : World) (n : Nat) (row : Option Nat) : w.grownBy (w.drewN n) row := ⟨rfl, rfl, rfl, Nat.le_refl _, fun _ _ _ => rfl⟩
theorem grown_set (w : World) (g o : Nat) (v : Value) : w.grownBy (w.setCell ⟨g, o, none⟩ v) (some g) :=
  ⟨rfl, rfl, rfl, by simp, fun k _ hk => heap_setCell_other w ⟨g, o, none⟩ k v (fun e => hk (by simp [e]))⟩

theorem Fr.wide {w w' : World} {row : Option Nat} (h : Fr w w') : w.grownBy w' row := ⟨h.os, h.tape, h.output, h.size, fun i hi _ => h.block i hi (by simp)⟩
end Go.Proofs.YtcofhmikdkkigaaGreatDoor
namespace Go.Proofs.YtcofhmikdkkigaaGreatDoor
open Go.RowKit

structure Ev where
  (k g o w l s f t : Int)

def fldN (n : Nat) : Int := [1, 1, 1, 1, 1, 9, 1, 1, 3, 1, 1, 9, 1, 1, 1, 1, 1, 1, 1, 60, 60, 12].getD n 0
def fldV (k : Int) : Int := if inB 1 22 k then fldN (k - 1).toNat else -1
def loV (k : Int) : Int := if k = 12 ∨ k = 20 ∨ k = 21 ∨ k = 22 then 1 else 0
def hiV (k : Int) : Int := if k = 6 then 8 else if k = 12 then 9 else if k = 20 ∨ k = 21 then 8 else if k = 22 then 64 else 0
def hasB (k d : Int) : Bool := ((fldV k).tdiv d).tmod 2 == 1
def fitB (h : Bool) (n lo hi : Int) : Bool := if h then inB lo hi n else n == 0
def ev1 (e : Ev) : Bool := fitB (hasB e.k 1) e.o 0 15
def ev2 (e : Ev) : Bool := fitB (hasB e.k 2) e.w 0 15
def ev3 (e : Ev) : Bool := fitB (hasB e.k 4) e.l 0 65535
def ev4 (e : Ev) : Bool := fitB (hasB e.k 8) e.s (loV e.k) (hiV e.k)
def ev5 (e : Ev) : Bool := fitB (hasB e.k 16) e.f 0 999
def ev6 (e : Ev) : Bool := fitB (hasB e.k 32) e.t 0 999
def evOk (e : Ev) : Bool := inB 1 22 e.k && inB 0 15 e.g && ev1 e && ev2 e && ev3 e && ev4 e && ev5 e && ev6 e

theorem kinds {k : Int} (h : inB 1 22 k = true) : ∃ n : Nat, n < 22 ∧ k = (n : Int) + 1 := by
  have := inB_true h
  exact ⟨(k - 1).toNat, by omega, by omega⟩

theorem fldV_at (n : Nat) (h : n < 22) : fldV ((n : Int) + 1) = fldN n := by
  rw [fldV, if_pos (inB_mk (by omega) (by omega))]
  congr 1
  omega
theorem fldN_in (n : Nat) : 0 ≤ fldN n ∧ fldN n ≤ 60 := by
  by_cases h : n < 22
  · exact (by decide : ∀ m, m < 22 → 0 ≤ fldN m ∧ fldN m ≤ 60) n h
  · rw [fldN, List.getD_eq_getElem?_getD, List.getElem?_eq_none (by simp; omega)]; decide
theorem fldV_in (k : Int) : -1 ≤ fldV k ∧ fldV k ≤ 60 := by
  rw [fldV]; split
  · have := fldN_in (k - 1).toNat; omega
  · omega

theorem mask_has (n : Nat) (h : n < 22) (d : Int) (hd : d ∈ ([1, 2, 4, 8, 16, 32] : List Int)) : (bits .and .i64 (fldN n) d == 0) = !hasB ((n : Int) + 1) d := by
  rw [hasB, fldV_at n h]
  exact (by decide +kernel : ∀ m, m < 22 → ∀ d ∈ ([1, 2, 4, 8, 16, 32] : List Int), (bits .and .i64 (fldN m) d == 0) = !(((fldN m).tdiv d).tmod 2 == 1)) n h d hd

theorem kindIn_any (x : Int) (w : World) :
    Calls Tryz.prog 158 #[.int .i64 x] w fun e w' => e = .returned (.bool (inB 1 22 x)) ∧ w' = w := by
  by_cases h : 1 ≤ x
  · by_cases h2 : x ≤ 22
    · rw [inB_mk h (by omega)]
      go_enter Tryz.func158, Tryz.ntmps158
      go_wp2
      go_ret
      exact ⟨rfl, rfl⟩
    · rw [inB_not (by omega)]
      go_enter Tryz.func158, Tryz.ntmps158
      go_wp2
      go_ret
      exact ⟨rfl, rfl⟩
  · rw [inB_not (by omega)]
    go_enter Tryz.func158, Tryz.ntmps158
    go_wp2
    go_ret
    exact ⟨rfl, rfl⟩

theorem mostObj_any (x : Int) (w : World) :
    Calls Tryz.prog 161 #[.int .i64 x] w fun e w' => e = .returned (.int .i64 15) ∧ w' = w := by
  by_cases h : x = 1
  · subst h
    go_enter Tryz.func161, Tryz.ntmps161
    go_wp2
    go_ret
    exact ⟨rfl, rfl⟩
  · go_enter Tryz.func161, Tryz.ntmps161
    go_wp2
    go_ret
    exact ⟨rfl, rfl⟩

theorem fits_any (F L M d n lo hi : Int) (h : Bool) (hh : (bits .and .i64 F d == 0) = !h) (w : World) :
    Calls Tryz.prog 160 #[.agg #[.int .i64 F, .int .i64 L, .int .i64 M], .int .i64 d, .int .i64 n, .int .i64 lo, .int .i64 hi] w fun e w' => e = .returned (.bool (fitB h n lo hi)) ∧ Fr w w' := by
  cases h
  · simp only [Bool.not_false] at hh
    go_enter Tryz.func160, Tryz.ntmps160
    go_wp2
    go_ret
    exact ⟨rfl, Fr.alloc _ _⟩
  · simp only [Bool.not_true] at hh
    by_cases h1 : lo ≤ n
    · by_cases h2 : n ≤ hi
      · go_enter Tryz.func160, Tryz.ntmps160
        go_wp2
        go_ret
        exact ⟨ret_bool (by rw [fitB, if_pos rfl, inB_mk h1 h2]), Fr.alloc _ _⟩
      · go_enter Tryz.func160, Tryz.ntmps160
        go_wp2
        go_ret
        exact ⟨ret_bool (by rw [fitB, if_pos rfl, inB_not (by omega)]), Fr.alloc _ _⟩
    · go_enter Tryz.func160, Tryz.ntmps160
      go_wp2
      go_ret
      exact ⟨ret_bool (by rw [fitB, if_pos rfl, inB_not (by omega)]), Fr.alloc _ _⟩

theorem lit_at {w : World} {t : TypeId} (zs : List Int) (k : Nat) (hk : k < zs.length) :
    (w.alloc (.cells (zs.map (Value.int .i64)).toArray t)).cell? ⟨w.heap.size, k, none⟩ = some (.int .i64 (zs.getD k 0)) := by
  rw [cell_of_row _ _ _ _ _ _ (heap_alloc_new w _)]
  simp [hk]

theorem specFields_any (k : Int) (w : World) :
    Calls Tryz.prog 107 #[.int .i64 k] w fun e w' => e = .returned (.int .i64 (fldV k)) ∧ Fr w w' := by
  cases h : inB 1 22 k
  · have e : fldV k = -1 := by rw [fldV, h]; rfl
    rw [e]
    clear e
    have c1 := fun w => l1In_any k 1 22 w
    simp only [h] at c1
    clear h
    go_enter Tryz.func107, Tryz.ntmps107
    go_wp2_with fail
    refine (c1 _).mono ?_
    rintro e w1 ⟨rfl, rfl⟩
    go_wp2_with fail
    go_ret
    exact ⟨rfl, Fr.refl _⟩
  · have c1 := fun w => l1In_any k 1 22 w
    simp only [h] at c1
    obtain ⟨n, hn, rfl⟩ := kinds h
    rw [fldV_at n hn]
    clear h
    have hc := lit_at (w := w) (t := 2) [1, 1, 1, 1, 1, 9, 1, 1, 3, 1, 1, 9, 1, 1, 1, 1, 1, 1, 1, 60, 60, 12] n hn
    change _ = some (Value.int IntKind.i64 (fldN n)) at hc
    obtain ⟨z, hz⟩ : ∃ z, z = fldN n := ⟨_, rfl⟩
    rw [← hz] at hc ⊢
    clear hz
    simp only [List.map_cons, List.map_nil] at hc
    go_enter Tryz.func107, Tryz.ntmps107
    go_wp2_with fail
    refine (c1 _).mono ?_
    rintro e w1 ⟨rfl, rfl⟩
    go_wp2_with fail
    go_ret
    exact ⟨rfl, Fr.alloc _ _⟩
end Go.Proofs.YtcofhmikdkkigaaGreatDoor
namespace Go.Proofs.YtcofhmikdkkigaaGreatDoor
open Go.RowKit

end Go.Proofs.YtcofhmikdkkigaaGreatDoor
namespace Go.Proofs.YtcofhmikdkkigaaGreatDoor
open Go.RowKit

theorem appI2 (w : World) {ops : Array Oper} {rest : List Oper} {o : Oper} {a : Act} {Q : Exit → Act → World → Prop} (hgd : o.guard = none) (s x : Operand)
    (ho : o.op = .call { callee := .builtin .append, args := #[s, x], argTypes := #[27, 27] })
    (base : Nat) (v : Value) (xs news : List Int) (hs : a.eval s = v) (hown : OwnS w base v xs)
    (ao : Option Addr) (m c : Nat) (hx : a.eval x = .slice ao m c) (hm : news.length = m) (hc : ao = none → c = 0) (hnews : Reads w ao news)
    (hlen : xs.length + news.length ≤ 4294967296) (hbase : base ≤ w.heap.size)
    (h : ∀ v' w', OwnS w' base v' (xs ++ news) → w.grownBy w' v.ownBlock → (v'.ownBlock = v.ownBlock ∨ v'.ownBlock = some w.heap.size) → wpList Tryz.prog ops Q rest (a.put o.dst v') w') : wpList Tryz.prog ops Q (o :: rest) a w := by
  obtain ⟨i0, hi, hz0, hz1, hz2⟩ := info_parts Tryz.info2
  subst hm
  have hbd : ∀ x ∈ xs ++ news, I64 x := by
    obtain ⟨g, cap, rfl, ho⟩ := hown
    intro x hx
    rcases List.mem_append.1 hx with hx | hx
    · exact ho.2.2 x hx
    · exact hnews.bd x hx
  cases ao with
  | none =>
    have hnil : news = [] := by
      cases news with
      | nil => rfl
      | cons y ys => obtain ⟨b, off, e, _⟩ := hnews.at_ 0 (by simp); cases e
    subst hnil
    have := hc rfl
    subst this
    obtain ⟨g, cap, rfl, ho'⟩ := hown
    refine wpList_append_own_none hgd s x 27 ho base 2 i0 1 Tryz.underlying27 hi _ _ _ hs ho'.1 hx ?_
    refine h _ w ?_ ⟨rfl, rfl, rfl, Nat.le_refl _, fun _ _ _ => rfl⟩ (.inl rfl)
    rw [List.append_nil]
    exact ⟨g, cap, rfl, ho'⟩
  | some ad =>
    have hcell : ∀ j u, (news.map (Value.int .i64))[j]? = some u → w.cell? (ad.add j) = some u := by
      intro j u hu
      have hj : j < news.length := by
        have := (List.getElem?_eq_some_iff.1 hu).1
        simpa using this
      obtain ⟨b, off, e, hcc⟩ := hnews.at_ j hj
      simp only [Option.some.injEq] at e
      subst e
      rw [Addr.add_lit, hcc j hj]
      rw [List.getElem?_map, List.getElem?_eq_getElem hj] at hu
      rw [getD_at hj]
      simpa using hu
    obtain ⟨g, cap, rfl, ho'⟩ := hown
    refine wpList_append_own_at w hgd s x 27 ho base 2 i0 (.int .i64 0) 1 8 Tryz.underlying27 hi hz0 hz1 hz2 rfl (by decide) _ _ _ hs ho'.1 ad news.length c (news.map (Value.int .i64)) hx (by simp) hcell (ints_oneCell _ _) (by unfold maxLen; omega) (by omega) hbase ?_
    intro v' w' hv hg hnz hat
    refine h v' w' (shape_of ?_ ?_ (by simp; omega) hbd) hg hat
    · simpa using hv
    · intro e
      have := (hnz.1 e).1
      simp at this
end Go.Proofs.YtcofhmikdkkigaaGreatDoor
