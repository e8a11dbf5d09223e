/-
  Reading a number: the specification's ReadNumber.
-/
import Derived.Test.YtihdablgnmkjnaaGreatDoorPackAP
import Derived.Test.YtihdablgnmkjnaaGreatDoorPackAO
import Derived.Laws.AppendOwnNone
import Derived.Test.YtihdablgnmkjnaaGreatDoorPackAA
import Derived.Test.YtihdablgnmkjnaaGreatDoorPackAB
import Derived.Test.YtihdablgnmkjnaaGreatDoorPackAC
import Derived.Test.YtihdablgnmkjnaaGreatDoorPackAF
import Derived.Deep.RegionHeld3
import Derived.Test.YtihdablgnmkjnaaGreatDoorPackAX
import Derived.Deep.DeepCutAuto
namespace Go.Proofs.YtihdablgnmkjnaaGreatDoor
open Go.RowKit

/-- What ReadNumber answers. -/
def rdV (bs : List Int) (i : Int) : Int × Int × Bool :=
  if 0 ≤ i then (match rdN bs i.toNat with | some (n, q) => (n, (q : Int), true) | none => (0, i, false)) else (0, i, false)

theorem rdV_at (bs : List Int) (p : Nat) : rdV bs (p : Int) = (match rdN bs p with | some (n, q) => (n, (q : Int), true) | none => (0, (p : Int), false)) := by
  rw [rdV, if_pos (by omega)]
  rfl
theorem rdV_none {bs : List Int} {p : Nat} (h : rdN bs p = none) : rdV bs (p : Int) = (0, (p : Int), false) := by rw [rdV_at, h]
theorem rdV_some {bs : List Int} {p q : Nat} {n : Int} (h : rdN bs p = some (n, q)) : rdV bs (p : Int) = (n, (q : Int), true) := by rw [rdV_at, h]
theorem rdN_out {bs : List Int} {p : Nat} (h : bs.length ≤ p) : rdN bs p = none := by
  rw [rdN, rdG, List.getElem?_eq_none h]
theorem rdV_out {bs : List Int} {i : Int} (h : i < 0 ∨ (bs.length : Int) ≤ i) : rdV bs i = (0, i, false) := by
  rw [rdV]
  by_cases h0 : 0 ≤ i
  · rw [if_pos h0, rdN_out (by omega)]
  · rw [if_neg h0]

/-- The number was read up to the place p: f bytes may come. -/
structure RS (bs : List Int) (s f p : Nat) (u acc : Int) : Prop where
  sp : s ≤ p
  fp : p + f = s + 6
  same : rdG bs s f p u acc = rdN bs s
  unit : u = 128 ^ (6 - f)
  acc0 : 0 ≤ acc
  acc1 : acc < u

theorem RS.start (bs : List Int) (s : Nat) : RS bs s 6 s 1 0 := ⟨Nat.le_refl _, rfl, rfl, rfl, by omega, by omega⟩
theorem RS.unit_in {bs : List Int} {s f p : Nat} {u acc : Int} (h : RS bs s f p u acc) : 1 ≤ u ∧ u ≤ 4398046511104 ∧ (0 < f → u ≤ 34359738368) := by
  have hf : f ≤ 6 ∨ 6 < f := by omega
  rcases hf with hf | hf
  · rw [h.unit]
    rcases (by omega : f = 0 ∨ f = 1 ∨ f = 2 ∨ f = 3 ∨ f = 4 ∨ f = 5 ∨ f = 6) with rfl | rfl | rfl | rfl | rfl | rfl | rfl <;> decide
  · have : u = 1 := by rw [h.unit, Nat.sub_eq_zero_of_le (by omega)]; rfl
    omega
theorem RS.more {bs : List Int} {s f p : Nat} {u acc b : Int} (h : RS bs s (f + 1) p u acc) (hb : bs[p]? = some b) (h1 : 128 ≤ b) (h2 : b ≤ 255) : RS bs s f (p + 1) (u * 128) (acc + (b - 128) * u) := by
  have hu := h.unit_in
  have h3 : 0 ≤ (b - 128) * u := Int.mul_nonneg (by omega) (by omega)
  have h4 : (b - 128) * u ≤ 127 * u := Int.mul_le_mul_of_nonneg_right (by omega) (by omega)
  have := h.acc0
  have := h.acc1
  have h5 := h.fp
  have h6 := h.sp
  refine ⟨by omega, by omega, ?_, ?_, by omega, by omega⟩
  · rw [← h.same, rdG, hb]
    simp only []
    rw [if_pos h1]
  · rw [h.unit, ← Int.pow_succ]
    congr 1
    omega
theorem RS.last {bs : List Int} {s f p : Nat} {u acc b : Int} (h : RS bs s (f + 1) p u acc) (hb : bs[p]? = some b) (h1 : b < 128) : rdN bs s = if b = 0 ∧ s < p then none else some (acc + b * u, p + 1) := by
  rw [← h.same, rdG, hb]
  simp only []
  rw [if_neg (by omega)]
theorem RS.stop {bs : List Int} {s f p : Nat} {u acc : Int} (h : RS bs s f p u acc) (hb : f = 0 ∨ bs.length ≤ p) : rdN bs s = none := by
  rw [← h.same]
  cases f with
  | zero => rfl
  | succ f => rw [rdG, List.getElem?_eq_none (by omega)]

/-- ReadNumber's three results. -/
def rdT (x : Int × Int × Bool) : Value := .tuple #[.int .i64 x.1, .int .i64 x.2.1, .bool x.2.2]

end Go.Proofs.YtihdablgnmkjnaaGreatDoor
/-
  'append' on a slice of int64 that the call owns.
-/
namespace Go.Proofs.YtihdablgnmkjnaaGreatDoor
open Go.RowKit

/-- A slice that a call owns, not nil: it begins at the head of a block from base on. -/
def OwnBS (w : World) (base : Nat) (v : Value) (xs : List Int) : Prop :=
  ∃ g cap, v = .slice (some ⟨g, 0, none⟩) xs.length cap ∧ OwnB w base (.slice (some ⟨g, 0, none⟩) xs.length cap) xs

theorem OwnB.keep {w w' : World} {base : Nat} {v : Value} {xs : List Int} {row : Option Nat} (h : OwnB w base v xs) (k : w.grownBy w' row) (hne : v.ownBlock = none ∨ v.ownBlock ≠ row) : OwnB w' base v xs :=
  ⟨h.1.kept k hne, h.2⟩
theorem OwnB.fr {w w' : World} {base : Nat} {v : Value} {xs : List Int} (h : OwnB w base v xs) (k : Fr w w') : OwnB w' base v xs :=
  h.keep k (by cases v.ownBlock <;> simp)
theorem OwnBS.keep {w w' : World} {base : Nat} {v : Value} {xs : List Int} {row : Option Nat} (h : OwnBS w base v xs) (k : w.grownBy w' row) (hne : v.ownBlock ≠ row) : OwnBS w' base v xs := by
  obtain ⟨g, cap, rfl, ho⟩ := h
  exact ⟨g, cap, rfl, ho.keep k (.inr hne)⟩
theorem OwnBS.fr {w w' : World} {base : Nat} {v : Value} {xs : List Int} (h : OwnBS w base v xs) (k : Fr w w') : OwnBS w' base v xs := by
  obtain ⟨g, cap, rfl, ho⟩ := h
  exact ⟨g, cap, rfl, ho.fr k⟩
theorem OwnB.lower {w : World} {base base' : Nat} {v : Value} {xs : List Int} (h : OwnB w base v xs) (hb : base' ≤ base) : OwnB w base' v xs := by
  refine ⟨⟨h.1.1, ?_⟩, h.2⟩
  rcases h.1.2 with e | ⟨g, cap, cur, e, hg, r⟩
  · exact .inl e
  · exact .inr ⟨g, cap, cur, e, by omega, r⟩
theorem OwnBS.lower {w : World} {base base' : Nat} {v : Value} {xs : List Int} (h : OwnBS w base v xs) (hb : base' ≤ base) : OwnBS w base' v xs := by
  obtain ⟨g, cap, rfl, ho⟩ := h
  exact ⟨g, cap, rfl, ho.lower hb⟩
theorem OwnBS.blk {w : World} {base : Nat} {v : Value} {xs : List Int} (h : OwnBS w base v xs) : ∀ j, v.ownBlock = some j → base ≤ j := by
  obtain ⟨g, cap, rfl, ho⟩ := h
  intro j hj
  exact (ho.1.lt j hj).1
theorem OwnBS.len {w : World} {base : Nat} {v : Value} {xs : List Int} (h : OwnBS w base v xs) : xs.length ≤ 4294967296 := by
  obtain ⟨g, cap, rfl, ho⟩ := h
  exact ho.2.1

/-- '[]int64{}' -/
theorem ownB_empty (w : World) (base : Nat) (hb : base ≤ w.heap.size) : OwnBS (w.alloc (.cells #[] 5)) base (.slice (some ⟨w.heap.size, 0, none⟩) 0 0) [] :=
  ⟨w.heap.size, 0, rfl, World.ownsRow_made w #[] 0 hb (by unfold maxLen; omega) rfl, by simp, by simp⟩

/-- The one new element of 'append(l, x)' lies in a block of its own. -/
theorem readsB_one (w : World) (x : Int) (h : U8 x) : ReadsB (w.alloc (.cells #[.int .u8 x] 5)) (some ⟨w.heap.size, 0, none⟩) [x] := by
  refine ⟨by simp, by simpa using h, fun i _ => ⟨w.heap.size, 0, rfl, fun j hj => ?_⟩⟩
  have : j = 0 := by simpa using hj
  subst this
  rw [cell_of_row _ _ _ _ _ _ (heap_alloc_new w _)]
  rfl

theorem shapeB_of {w : World} {base : Nat} {v : Value} {xs : List Int} (h : w.ownsRow base 5 1 v xs.length (xs.map (Value.int .u8))) (hn : v ≠ .slice none 0 0) (hl : xs.length ≤ 4294967296) (hb : ∀ x ∈ xs, U8 x) : OwnBS w base v xs := by
  rcases h.2 with ⟨e, _⟩ | ⟨g, cap, cur, e, r⟩
  · exact absurd e hn
  · subst e; exact ⟨g, cap, rfl, h, hl, hb⟩

theorem appB (w : World) {ops : Array Oper} {rest : List Oper} {o : Oper} {a : Act} {Q : Exit → Act → World → Prop} (hgd : o.guard = none) (s x : Operand)
    (ho : o.op = .call { callee := .builtin .append, args := #[s, x], argTypes := #[22, 22] })
    (base : Nat) (v : Value) (xs news : List Int) (hs : a.eval s = v) (hown : OwnBS w base v xs)
    (ao : Option Addr) (m c : Nat) (hx : a.eval x = .slice ao m c) (hm : news.length = m) (hc : ao = none → c = 0) (hnews : ReadsB w ao news)
    (hlen : xs.length + news.length ≤ 4294967296) (hbase : base ≤ w.heap.size)
    (h : ∀ v' w', OwnBS w' base v' (xs ++ news) → w.grownBy w' v.ownBlock → wpList Tryz.prog ops Q rest (a.put o.dst v') w') : wpList Tryz.prog ops Q (o :: rest) a w := by
  obtain ⟨i0, hi, hz0, hz1, hz2⟩ := info_parts Tryz.info5
  subst hm
  have hbd : ∀ x ∈ xs ++ news, U8 x := by
    obtain ⟨g, cap, rfl, ho⟩ := hown
    intro x hx
    rcases List.mem_append.1 hx with hx | hx
    · exact ho.2.2 x hx
    · exact hnews.bd x hx
  cases ao with
  | none =>
    have hnil : news = [] := by
      cases news with
      | nil => rfl
      | cons y ys => obtain ⟨b, off, e, _⟩ := hnews.at_ 0 (by simp); cases e
    subst hnil
    have := hc rfl
    subst this
    obtain ⟨g, cap, rfl, ho'⟩ := hown
    refine wpList_append_own_none hgd s x 22 ho base 5 i0 1 Tryz.underlying22 hi _ _ _ hs ho'.1 hx ?_
    refine h _ w ?_ ⟨rfl, rfl, rfl, Nat.le_refl _, fun _ _ _ => rfl⟩
    rw [List.append_nil]
    exact ⟨g, cap, rfl, ho'⟩
  | some ad =>
    have hcell : ∀ j u, (news.map (Value.int .u8))[j]? = some u → w.cell? (ad.add j) = some u := by
      intro j u hu
      have hj : j < news.length := by
        have := (List.getElem?_eq_some_iff.1 hu).1
        simpa using this
      obtain ⟨b, off, e, hcc⟩ := hnews.at_ j hj
      simp only [Option.some.injEq] at e
      subst e
      rw [Addr.add_lit, hcc j hj]
      rw [List.getElem?_map, List.getElem?_eq_getElem hj] at hu
      rw [getD_at hj]
      simpa using hu
    obtain ⟨g, cap, rfl, ho'⟩ := hown
    refine wpList_append_own w hgd s x 22 ho base 5 i0 (.int .u8 0) 1 1 Tryz.underlying22 hi hz0 hz1 hz2 rfl (by decide) _ _ _ hs ho'.1 ad news.length c (news.map (Value.int .u8)) hx (by simp) hcell (ints_oneCell _ _) (by unfold maxLen; omega) (by omega) hbase ?_
    intro v' w' hv hg hnz
    refine h v' w' (shapeB_of ?_ ?_ (by simp; omega) hbd) hg
    · simpa using hv
    · intro e
      have := (hnz.1 e).1
      simp at this

/-- Where the block of an owned slice lies. -/
theorem ownB_lt {w : World} {base g n cap : Nat} {xs : List Int} (h : OwnB w base (.slice (some ⟨g, 0, none⟩) n cap) xs) : base ≤ g ∧ g < w.heap.size := h.1.lt g rfl
theorem own_neB {g g' n cap : Nat} (h : g ≠ g') : (Value.slice (some ⟨g, 0, none⟩) n cap).ownBlock = none ∨ (Value.slice (some ⟨g, 0, none⟩) n cap).ownBlock ≠ some g' := .inr (by simpa [Value.ownBlock] using h)
theorem one_blkB {a g : Nat} (h : a ≤ g) : ∀ j, some g = some j → a ≤ j := by
  intro j hj
  simp only [Option.some.injEq] at hj
  omega
end Go.Proofs.YtihdablgnmkjnaaGreatDoor
/-
  PutNumber, of the program and of its specification: what is put, in new memory.
-/
namespace Go.Proofs.YtihdablgnmkjnaaGreatDoor
open Go.RowKit

/-- A block of bytes. -/
def isB (w : World) (b : Nat) : Prop := ∃ cur fz, w.heap[b]? = some (.cells cur 5 fz)
/-- What lies below base, and what is no block of bytes, stays. -/
structure FrB (base : Nat) (w w' : World) : Prop where
  os : w'.os = w.os
  tape : w'.tape = w.tape
  output : w'.output = w.output
  size : w.heap.size ≤ w'.heap.size
  block : ∀ b, b < w.heap.size → (b < base ∨ ¬ isB w b) → w'.heap[b]? = w.heap[b]?

theorem FrB.refl (base : Nat) (w : World) : FrB base w w := ⟨rfl, rfl, rfl, Nat.le_refl _, fun _ _ _ => rfl⟩
theorem Fr.toB {w w' : World} (base : Nat) (h : Fr w w') : FrB base w w' := ⟨h.os, h.tape, h.output, h.size, fun b hb _ => h.block b hb (by simp)⟩
theorem FrB.trans {base : Nat} {a b c : World} (h : FrB base a b) (k : FrB base b c) : FrB base a c := by
  refine ⟨k.os.trans h.os, k.tape.trans h.tape, k.output.trans h.output, Nat.le_trans h.size k.size, fun i hi hb => ?_⟩
  have h1 := h.block i hi hb
  rw [← h1]
  refine k.block i (Nat.lt_of_lt_of_le hi h.size) (hb.imp id fun hn => ?_)
  rintro ⟨cur, fz, e⟩
  exact hn ⟨cur, fz, by rw [← h1]; exact e⟩
theorem FrB.lower {base base' : Nat} {w w' : World} (h : FrB base w w') (hb : base' ≤ base) : FrB base' w w' :=
  ⟨h.os, h.tape, h.output, h.size, fun i hi hx => h.block i hi (hx.imp (fun q => by omega) id)⟩
/-- Where all that was there lies below base. -/
theorem Fr.thenB {a b c : World} {base : Nat} (h : Fr a b) (k : FrB base b c) (hb : a.heap.size ≤ base) : Fr a c :=
  ⟨k.os.trans h.os, k.tape.trans h.tape, k.output.trans h.output, Nat.le_trans h.size k.size, fun i hi _ => (k.block i (Nat.lt_of_lt_of_le hi h.size) (.inl (by omega))).trans (h.block i hi (by simp))⟩

theorem OwnBS.isB {w : World} {base : Nat} {v : Value} {xs : List Int} (h : OwnBS w base v xs) : ∃ g, v.ownBlock = some g ∧ base ≤ g ∧ isB w g := by
  obtain ⟨g, cap, rfl, ho⟩ := h
  rcases ho.1.2 with ⟨e, _⟩ | ⟨g', c', cur, e, hg, h1, h2⟩
  · simp at e
  · simp only [Value.slice.injEq, Option.some.injEq, Addr.mk.injEq, and_true] at e
    obtain ⟨rfl, -, rfl⟩ := e
    exact ⟨g, rfl, hg, cur, _, h1⟩
theorem OwnBS.frB {w w' : World} {base : Nat} {v : Value} {xs : List Int} (h : OwnBS w base v xs) (k : w.grownBy w' v.ownBlock) : FrB base w w' := by
  obtain ⟨g, e, hb, hg⟩ := h.isB
  refine ⟨k.os, k.tape, k.output, k.size, fun i hi hx => k.block i hi ?_⟩
  rw [e]
  intro q
  simp only [Option.some.injEq] at q
  subst q
  rcases hx with hx | hx
  · omega
  · exact hx hg

theorem ReadsB.take {w : World} {ao : Option Addr} {xs : List Int} (h : ReadsB w ao xs) (k : Nat) : ReadsB w ao (xs.take k) := by
  refine ⟨by have := h.len; simp; omega, fun x hx => h.bd x (List.mem_of_mem_take hx), fun i hi => ?_⟩
  simp only [List.length_take] at hi
  obtain ⟨b, off, e, hc⟩ := h.at_ i (by omega)
  refine ⟨b, off, e, fun j hj => ?_⟩
  simp only [List.length_take] at hj
  rw [hc j (by omega)]
  simp [List.getD, show j < k by omega]
theorem ownB_cap {w : World} {base g n cap : Nat} {xs : List Int} (h : OwnB w base (.slice (some ⟨g, 0, none⟩) n cap) xs) : n = xs.length ∧ n ≤ cap := by
  rcases h.1.2 with ⟨e, _⟩ | ⟨g', c', cur, e, _, _, h4, _⟩
  · simp at e
  · simp only [Value.slice.injEq] at e
    obtain ⟨-, rfl, rfl⟩ := e
    exact ⟨rfl, h4⟩
/-- '[]byte{..}' -/
theorem ownB_lit (w : World) (xs : List Int) (hl : xs.length ≤ 4294967296) (hb : ∀ x ∈ xs, U8 x) : OwnBS (w.alloc (.cells (xs.map (Value.int .u8)).toArray 5)) w.heap.size (.slice (some ⟨w.heap.size, 0, none⟩) xs.length xs.length) xs :=
  ⟨w.heap.size, xs.length, rfl, ⟨by simp, .inr ⟨w.heap.size, xs.length, _, rfl, Nat.le_refl _, heap_alloc_new w _, Nat.le_refl _, by unfold maxLen; omega, by simp, by rw [Nat.mul_one]; exact List.take_of_length_le (by simp)⟩⟩, hl, hb⟩
/-- '[]byte{}' -/
theorem ownB_new (w : World) : OwnBS (w.alloc (.cells #[] 5)) w.heap.size (.slice (some ⟨w.heap.size, 0, none⟩) 0 0) [] := ownB_empty w _ (Nat.le_refl _)

/-- What PutNumber answers. -/
def putA (n : Int) : List Int := if inB 0 4398046511103 n then putL n else []

end Go.Proofs.YtihdablgnmkjnaaGreatDoor
/-
  The bytes of one event, by the specification: l3Fields, l3Has, l3Event.
-/
namespace Go.Proofs.YtihdablgnmkjnaaGreatDoor
open Go.RowKit

theorem I64.small {x : Int} (h : 0 ≤ x ∧ x ≤ 65535) : I64 x := ⟨by omega, by omega⟩

/-- '[]int64{..}' -/
theorem own_lit (w : World) (xs : List Int) (hl : xs.length ≤ 4294967296) (hb : ∀ x ∈ xs, I64 x) : OwnS (w.alloc (.cells (xs.map (Value.int .i64)).toArray 2)) w.heap.size (.slice (some ⟨w.heap.size, 0, none⟩) xs.length xs.length) xs :=
  ⟨w.heap.size, xs.length, rfl, ⟨by simp, .inr ⟨w.heap.size, xs.length, _, rfl, Nat.le_refl _, heap_alloc_new w _, Nat.le_refl _, by unfold maxLen; omega, by simp, by rw [Nat.mul_one]; exact List.take_of_length_le (by simp)⟩⟩, hl, hb⟩

/-- The fields' numbers. -/
def flds (e : Ev) : List Int := [e.o, e.w, e.l, e.s, e.f, e.t]
theorem flds_at (e : Ev) (j : Nat) (h : j < 6) : (flds e).getD j 0 = e.at (j + 2) := by
  rcases (by omega : j = 0 ∨ j = 1 ∨ j = 2 ∨ j = 3 ∨ j = 4 ∨ j = 5) with rfl | rfl | rfl | rfl | rfl | rfl <;> rfl

/-- The numbers that are kept of an event: its Kind, its Gor, those of its first i fields that it has. -/
def nums (e : Ev) (i : Nat) : List Int := e.k :: e.g :: ((List.range i).filter fun j => hasB e.k (2 ^ j)).map fun j => e.at (j + 2)
theorem nums_yes (e : Ev) (i : Nat) (h : hasB e.k (2 ^ i) = true) : nums e (i + 1) = nums e i ++ [e.at (i + 2)] := by
  simp [nums, List.range_succ, List.filter_append, h]
theorem nums_no (e : Ev) (i : Nat) (h : hasB e.k (2 ^ i) = false) : nums e (i + 1) = nums e i := by
  simp [nums, List.range_succ, List.filter_append, h]
theorem nums_len (e : Ev) (i : Nat) : (nums e i).length ≤ i + 2 := by
  have := List.length_filter_le (fun j => hasB e.k (2 ^ j)) (List.range i)
  simp [nums] at this ⊢
  omega
theorem nums_mem (e : Ev) (i : Nat) (x : Int) (h : x ∈ nums e i) : ∃ j, x = e.at j := by
  simp only [nums, List.mem_cons, List.mem_map] at h
  rcases h with rfl | rfl | ⟨j, -, rfl⟩
  · exact ⟨0, rfl⟩
  · exact ⟨1, rfl⟩
  · exact ⟨j + 2, rfl⟩
theorem nums_ev (e : Ev) : (nums e 6).flatMap putL = evL e := by
  rw [nums, evL, numsL, offs, offF, ← List.range_eq_range']
  simp only [List.flatMap_cons, List.flatMap_map]
  rfl
theorem flat_take (L : List Int) (t : Nat) (h : t < L.length) : ((L.take t).flatMap putL) ++ putL L[t] = (L.take (t + 1)).flatMap putL := by
  rw [List.take_succ_eq_append_getElem h, List.flatMap_append]
  simp
theorem flat_len (L : List Int) : (L.flatMap putL).length ≤ L.length * 6 := by
  induction L with
  | nil => simp
  | cons x L ih =>
    have := (putL_len x).2
    rw [List.flatMap_cons, List.length_append, List.length_cons]
    omega

end Go.Proofs.YtihdablgnmkjnaaGreatDoor
/-
  One event at a place, by the specification: l3Read.
-/
namespace Go.Proofs.YtihdablgnmkjnaaGreatDoor
open Go.RowKit

/-- An event of its Kind, its Gor and six numbers. -/
def evOf (k g : Int) (f : List Int) : Ev := ⟨k, g, f.getD 0 0, f.getD 1 0, f.getD 2 0, f.getD 3 0, f.getD 4 0, f.getD 5 0⟩
theorem evOf_put (k g : Int) (f : List Int) (i : Nat) (n : Int) (hi : i < 6) (hf : f.length = 6) : (evOf k g f).put (i + 2) n = evOf k g (f.set i n) := by
  match f, hf with
  | [a, b, c, d, e, h], _ =>
    rcases (by omega : i = 0 ∨ i = 1 ∨ i = 2 ∨ i = 3 ∨ i = 4 ∨ i = 5) with rfl | rfl | rfl | rfl | rfl | rfl <;> rfl
theorem offF_yes (k : Int) (i : Nat) (hi : i < 6) (h : hasB k (2 ^ i) = true) : offF k i = (i + 2) :: offF k (i + 1) := by
  have e : 6 - i = (6 - (i + 1)) + 1 := by omega
  rw [offF, e, List.range'_succ, List.filter_cons_of_pos (by simpa using h)]
  rfl
theorem offF_no (k : Int) (i : Nat) (hi : i < 6) (h : hasB k (2 ^ i) = false) : offF k i = offF k (i + 1) := by
  have e : 6 - i = (6 - (i + 1)) + 1 := by omega
  rw [offF, e, List.range'_succ, List.filter_cons_of_neg (by simp [h])]
  rfl
theorem offF_end (k : Int) : offF k 6 = [] := rfl

/-- The reading so far: the fields from the i-th on come from the place p. -/
def RE (bs : List Int) (k : Int) (q : Nat) (i p : Nat) (g : Int) (f : List Int) : Prop := rdSeq bs (offF k i) p (evOf k g f) = rdSeq bs (offs k) q (ev0 k) ∧ f.length = 6 ∧ ∀ x ∈ f, I64 x
theorem RE.start {bs : List Int} {k : Int} {q p : Nat} {g : Int} (h : rdN bs q = some (g, p)) : RE bs k q 0 p g [0, 0, 0, 0, 0, 0] := by
  refine ⟨?_, rfl, ?_⟩
  · rw [offs, rdSeq, h]; rfl
  · intro x hx; simp at hx; subst hx; exact ⟨by decide, by decide⟩
theorem RE.no {bs : List Int} {k : Int} {q i p : Nat} {g : Int} {f : List Int} (h : RE bs k q i p g f) (hi : i < 6) (hh : hasB k (2 ^ i) = false) : RE bs k q (i + 1) p g f := by
  refine ⟨?_, h.2⟩
  rw [← h.1, offF_no k i hi hh]
theorem RE.yes {bs : List Int} {k : Int} {q i p p' : Nat} {g n : Int} {f : List Int} (h : RE bs k q i p g f) (hi : i < 6) (hh : hasB k (2 ^ i) = true) (hr : rdN bs p = some (n, p')) (hn : I64 n) : RE bs k q (i + 1) p' g (f.set i n) := by
  refine ⟨?_, by rw [List.length_set]; exact h.2.1, fun x hx => ?_⟩
  · rw [← h.1, offF_yes k i hi hh, rdSeq, hr]
    simp only []
    rw [evOf_put k g f i n hi h.2.1]
  · rcases List.mem_or_eq_of_mem_set hx with hx | rfl
    · exact h.2.2 x hx
    · exact hn
theorem RE.stop {bs : List Int} {k : Int} {q i p : Nat} {g : Int} {f : List Int} (h : RE bs k q i p g f) (hi : i < 6) (hh : hasB k (2 ^ i) = true) (hr : rdN bs p = none) : rdSeq bs (offs k) q (ev0 k) = none := by
  rw [← h.1, offF_yes k i hi hh, rdSeq, hr]
theorem RE.fin {bs : List Int} {k : Int} {q p : Nat} {g : Int} {f : List Int} (h : RE bs k q 6 p g f) : rdSeq bs (offs k) q (ev0 k) = some (evOf k g f, p) := by
  rw [← h.1, offF_end]; rfl

/-- An event stored over another one. -/
theorem EvB.set8 {w : World} {b : Nat} {e0 : Ev} (h : EvB w b e0) (e : Ev) : EvB ((((((((w.setCell ⟨b, 0, none⟩ (.int .i64 e.k)).setCell ⟨b, 1, none⟩ (.int .i64 e.g)).setCell ⟨b, 2, none⟩ (.int .i64 e.o)).setCell ⟨b, 3, none⟩ (.int .i64 e.w)).setCell ⟨b, 4, none⟩ (.int .i64 e.l)).setCell ⟨b, 5, none⟩ (.int .i64 e.s)).setCell ⟨b, 6, none⟩ (.int .i64 e.f)).setCell ⟨b, 7, none⟩ (.int .i64 e.t)) b e :=
  (((((((h.setK e.k).setG e.g).setO e.o).setW e.w).setL e.l).setS e.s).setF e.f).setT e.t
theorem grown_st (w : World) (g o : Nat) (v : Value) : w.grownBy (w.setCell ⟨g, o, none⟩ v) (some g) :=
  ⟨rfl, rfl, rfl, by simp, fun k _ hk => heap_setCell_other w ⟨g, o, none⟩ k v (fun e => hk (by simp [e]))⟩
theorem grown_tw {a b c : World} {row : Option Nat} (h : a.grownBy b row) (k : b.grownBy c row) : a.grownBy c row :=
  ⟨k.os.trans h.os, k.tape.trans h.tape, k.output.trans h.output, Nat.le_trans h.size k.size, fun i hi hne => (k.block i (Nat.lt_of_lt_of_le hi h.size) hne).trans (h.block i hi hne)⟩
theorem grown_st8 (w : World) (r : Nat) (v0 v1 v2 v3 v4 v5 v6 v7 : Value) :
    w.grownBy ((((((((w.setCell ⟨r, 0, none⟩ v0).setCell ⟨r, 1, none⟩ v1).setCell ⟨r, 2, none⟩ v2).setCell ⟨r, 3, none⟩ v3).setCell ⟨r, 4, none⟩ v4).setCell ⟨r, 5, none⟩ v5).setCell ⟨r, 6, none⟩ v6).setCell ⟨r, 7, none⟩ v7) (some r) :=
  grown_tw (grown_tw (grown_tw (grown_tw (grown_tw (grown_tw (grown_tw (grown_st _ r 0 _) (grown_st _ r 1 _)) (grown_st _ r 2 _)) (grown_st _ r 3 _)) (grown_st _ r 4 _)) (grown_st _ r 5 _)) (grown_st _ r 6 _)) (grown_st _ r 7 _)

theorem ownI_st {w : World} {base g cap n : Nat} {xs : List Int} (h : OwnI w base (.slice (some ⟨g, 0, none⟩) n cap) xs) (hn : n = xs.length) (j : Nat) (x : Int) (hx : I64 x) :
    OwnI (w.setCell ⟨g, j, none⟩ (.int .i64 x)) base (.slice (some ⟨g, 0, none⟩) n cap) (xs.set j x) ∧ w.grownBy (w.setCell ⟨g, j, none⟩ (.int .i64 x)) (some g) := by
  subst hn
  have hst := h.1.stored j (.int .i64 x)
  refine ⟨⟨?_, by simpa using h.2.1, fun y hy => ?_⟩, hst.2⟩
  · have e : (xs.set j x).map (Value.int .i64) = (xs.map (Value.int .i64)).set j (.int .i64 x) := by rw [List.map_set]
    rw [e, List.length_set]
    exact hst.1
  · rcases List.mem_or_eq_of_mem_set hy with hy | rfl
    · exact h.2.2 y hy
    · exact hx

/-- What l3Read answers. -/
def ReadC (bs : List Int) (p : Nat) (w : World) (x : Ending) (w' : World) : Prop :=
  Fr w w' ∧ ((∃ e q, rdEv bs p = .ok (e, q) ∧ x = .returned (.tuple #[.agg #[.int .i64 e.k, .int .i64 e.g, .int .i64 e.o, .int .i64 e.w, .int .i64 e.l, .int .i64 e.s, .int .i64 e.f, .int .i64 e.t], .int .i64 (q : Int), .int .i64 0])) ∨
    (∃ c y, rdEv bs p = .error c ∧ (c = 2 ∨ c = 3) ∧ x = .returned (.tuple #[.agg #[.int .i64 0, .int .i64 0, .int .i64 0, .int .i64 0, .int .i64 0, .int .i64 0, .int .i64 0, .int .i64 0], .int .i64 y, .int .i64 c])))

theorem rdEv_no {bs : List Int} {p : Nat} (h : rdN bs p = none) : rdEv bs p = .error 2 := by rw [rdEv, h]
theorem rdEv_kind {bs : List Int} {p q : Nat} {k : Int} (h : rdN bs p = some (k, q)) (hk : inB 1 22 k = false) : rdEv bs p = .error 3 := by
  rw [rdEv, h]; simp [hk]
theorem rdEv_seq {bs : List Int} {p q : Nat} {k : Int} (h : rdN bs p = some (k, q)) (hk : inB 1 22 k = true) (hs : rdSeq bs (offs k) q (ev0 k) = none) : rdEv bs p = .error 2 := by
  rw [rdEv, h]; simp [hk, hs]
theorem rdEv_fin {bs : List Int} {p q r : Nat} {k : Int} {e : Ev} (h : rdN bs p = some (k, q)) (hk : inB 1 22 k = true) (hs : rdSeq bs (offs k) q (ev0 k) = some (e, r)) : rdEv bs p = if evOk e then .ok (e, r) else .error 3 := by
  rw [rdEv, h]; simp [hk, hs]
theorem rdSeq_gor {bs : List Int} {q : Nat} {k : Int} (h : rdN bs q = none) : rdSeq bs (offs k) q (ev0 k) = none := by rw [offs, rdSeq, h]

end Go.Proofs.YtihdablgnmkjnaaGreatDoor
/-
  An event that can mostly be done next: l5Next.
-/
namespace Go.Proofs.YtihdablgnmkjnaaGreatDoor
open Go.RowKit

theorem l1Max_any2 (a b : Int) (w : World) :
    Calls Tryz.prog 154 #[.int .i64 a, .int .i64 b] w fun e w' => e = .returned (.int .i64 (max a b)) ∧ w' = w := by
  by_cases h : b < a
  · go_enter Tryz.func154, Tryz.ntmps154
    go_wp2
    go_ret
    exact ⟨ret_int (by omega), rfl⟩
  · go_enter Tryz.func154, Tryz.ntmps154
    go_wp2
    go_ret
    exact ⟨ret_int (by omega), rfl⟩

/-- The state in the midst of l5Next: the cursor in g, the boxed scene in sb, the answer's cell in rb, the event in eb. -/
structure NX (B : Nat → Prop) (w0 : World) (g sb rb eb : Nat) (s : Sv) (m : Scn) (e : Ev) (wr : World) : Prop where
  cur : Cur wr g
  gro : w0.grownBy wr (some g)
  sc : ScK wr sb s
  rs : EvB wr rb ⟨0, 0, 0, 0, 0, 0, 0, 0⟩
  ev : EvB wr eb e
  scr : ScR B wr s m
  gl : g < w0.heap.size
  sl : w0.heap.size ≤ sb
  rl : sb < rb
  el : rb < eb
  bB : ∀ b, B b → b < w0.heap.size ∧ b ≠ g
theorem NX.draw {B : Nat → Prop} {w0 wr w' : World} {g sb rb eb : Nat} {s : Sv} {m : Scn} {e : Ev} (h : NX B w0 g sb rb eb s m e wr) (c : Cur w' g) (k : wr.grownBy w' (some g)) : NX B w0 g sb rb eb s m e w' := by
  have h1 := h.gl; have h2 := h.sl; have h3 := h.rl; have h4 := h.el
  exact { h with cur := c, gro := grown_trans h.gro k, sc := h.sc.keep k (by simp; omega), rs := h.rs.keep k (by simp; omega), ev := h.ev.keep k (by simp; omega), scr := h.scr.keep k (fun j hj => by cases hj; exact fun q => (h.bB _ q).2 rfl) }
theorem NX.fr {B : Nat → Prop} {w0 wr w' : World} {g sb rb eb : Nat} {s : Sv} {m : Scn} {e : Ev} (h : NX B w0 g sb rb eb s m e wr) (k : Fr wr w') : NX B w0 g sb rb eb s m e w' :=
  { h with cur := h.cur.fr k, gro := grown_trans h.gro k.wide, sc := h.sc.fr k, rs := h.rs.keep k (by simp), ev := h.ev.keep k (by simp), scr := h.scr.fr k }
theorem NX.wrote {B : Nat → Prop} {w0 wr w' : World} {g sb rb eb : Nat} {s : Sv} {m : Scn} {e e' : Ev} (h : NX B w0 g sb rb eb s m e wr) (k : wr.grownBy w' (some eb)) (hb : EvB w' eb e') : NX B w0 g sb rb eb s m e' w' := by
  have h1 := h.gl; have h2 := h.sl; have h3 := h.rl; have h4 := h.el
  exact { h with cur := h.cur.other k (by intro j hj; simp only [Option.some.injEq] at hj; omega), gro := grown_then h.gro k (by intro j hj; simp only [Option.some.injEq] at hj; omega), sc := h.sc.keep k (by simp; omega), rs := h.rs.keep k (by simp; omega), ev := hb, scr := h.scr.keep k (fun j hj => by cases hj; intro q; have := (h.bB _ q).1; omega) }

theorem NX.fin {B : Nat → Prop} {w0 wr : World} {g sb rb eb : Nat} {s : Sv} {m : Scn} {e : Ev} (h : NX B w0 g sb rb eb s m e wr) (v0 v1 v2 v3 v4 v5 v6 v7 : Value) :
    Cur ((((((((wr.setCell ⟨rb, 0, none⟩ v0).setCell ⟨rb, 1, none⟩ v1).setCell ⟨rb, 2, none⟩ v2).setCell ⟨rb, 3, none⟩ v3).setCell ⟨rb, 4, none⟩ v4).setCell ⟨rb, 5, none⟩ v5).setCell ⟨rb, 6, none⟩ v6).setCell ⟨rb, 7, none⟩ v7) g ∧
    w0.grownBy ((((((((wr.setCell ⟨rb, 0, none⟩ v0).setCell ⟨rb, 1, none⟩ v1).setCell ⟨rb, 2, none⟩ v2).setCell ⟨rb, 3, none⟩ v3).setCell ⟨rb, 4, none⟩ v4).setCell ⟨rb, 5, none⟩ v5).setCell ⟨rb, 6, none⟩ v6).setCell ⟨rb, 7, none⟩ v7) (some g) := by
  have k := grown_st8 wr rb v0 v1 v2 v3 v4 v5 v6 v7
  have h1 := h.gl; have h2 := h.sl; have h3 := h.rl
  exact ⟨h.cur.other k (by intro j hj; simp only [Option.some.injEq] at hj; omega), grown_then h.gro k (by intro j hj; simp only [Option.some.injEq] at hj; omega)⟩

set_option maxRecDepth 20000 in
set_option maxHeartbeats 8000000 in
theorem l5Next_any {B : Nat → Prop} (g : Nat) (s : Sv) (m : Scn) (w : World) (hc : Cur w g) (hB : ∀ b, B b → b < w.heap.size ∧ b ≠ g) (h : ScR B w s m) :
    Calls Tryz.prog 95 #[.pointer (some ⟨g, 0, none⟩), .agg #[.int .i64 s.g, .slice s.lo s.ll s.lc, .slice s.co s.cl s.cc, .slice s.no s.nl s.nc, .slice s.oo s.ol s.oc]] w fun x w' => ∃ e : Ev, x = .returned (.agg #[.int .i64 e.k, .int .i64 e.g, .int .i64 e.o, .int .i64 e.w, .int .i64 e.l, .int .i64 e.s, .int .i64 e.f, .int .i64 e.t]) ∧ EvI e ∧ Cur w' g ∧ w.grownBy w' (some g) := by
  have hgl := hc.lt
  have f1 := Fr.alloc w (.cells #[.int .i64 s.g, .slice s.lo s.ll s.lc, .slice s.co s.cl s.cc, .slice s.no s.nl s.nc, .slice s.oo s.ol s.oc] 29)
  have f2 := Fr.alloc (w.alloc (.cells #[.int .i64 s.g, .slice s.lo s.ll s.lc, .slice s.co s.cl s.cc, .slice s.no s.nl s.nc, .slice s.oo s.ol s.oc] 29)) (.cells #[.int .i64 0, .int .i64 0, .int .i64 0, .int .i64 0, .int .i64 0, .int .i64 0, .int .i64 0, .int .i64 0] 31)
  have f3 := Fr.alloc ((w.alloc (.cells #[.int .i64 s.g, .slice s.lo s.ll s.lc, .slice s.co s.cl s.cc, .slice s.no s.nl s.nc, .slice s.oo s.ol s.oc] 29)).alloc (.cells #[.int .i64 0, .int .i64 0, .int .i64 0, .int .i64 0, .int .i64 0, .int .i64 0, .int .i64 0, .int .i64 0] 31)) (.cells #[.int .i64 20, .int .i64 0, .int .i64 0, .int .i64 0, .int .i64 0, .int .i64 0, .int .i64 0, .int .i64 0] 31)
  have hN : NX B w g w.heap.size (w.heap.size + 1) (w.heap.size + 1 + 1) s m ⟨20, 0, 0, 0, 0, 0, 0, 0⟩ (((w.alloc (.cells #[.int .i64 s.g, .slice s.lo s.ll s.lc, .slice s.co s.cl s.cc, .slice s.no s.nl s.nc, .slice s.oo s.ol s.oc] 29)).alloc (.cells #[.int .i64 0, .int .i64 0, .int .i64 0, .int .i64 0, .int .i64 0, .int .i64 0, .int .i64 0, .int .i64 0] 31)).alloc (.cells #[.int .i64 20, .int .i64 0, .int .i64 0, .int .i64 0, .int .i64 0, .int .i64 0, .int .i64 0, .int .i64 0] 31)) := by
    have fA := (f1.trans f2).trans f3
    have r1 := (EvB.new (w.alloc (.cells #[.int .i64 s.g, .slice s.lo s.ll s.lc, .slice s.co s.cl s.cc, .slice s.no s.nl s.nc, .slice s.oo s.ol s.oc] 29)) ⟨0, 0, 0, 0, 0, 0, 0, 0⟩).keep f3 (by simp)
    have r2 := EvB.new ((w.alloc (.cells #[.int .i64 s.g, .slice s.lo s.ll s.lc, .slice s.co s.cl s.cc, .slice s.no s.nl s.nc, .slice s.oo s.ol s.oc] 29)).alloc (.cells #[.int .i64 0, .int .i64 0, .int .i64 0, .int .i64 0, .int .i64 0, .int .i64 0, .int .i64 0, .int .i64 0] 31)) ⟨20, 0, 0, 0, 0, 0, 0, 0⟩
    simp only [World.size_alloc] at r1 r2
    exact ⟨hc.fr fA, fA.wide, (ScK.new w s).fr (f2.trans f3), r1, r2, h.fr fA, hgl, Nat.le_refl _, by omega, by omega, hB⟩
  have hsg : I64 s.g := by rw [h.g]; exact h.ig
  obtain ⟨sg, lo, ll, lc, co, cl, cc, no, nl, nc, oo, ol, oc⟩ := s
  simp only at hN hsg ⊢
  clear h hB hc f1 f2 f3 hgl
  go_enter Tryz.func95, Tryz.ntmps95
  go_wp2_with fail
  obtain ⟨W, hW⟩ : ∃ W, W = (((w.alloc (.cells #[.int .i64 sg, .slice lo ll lc, .slice co cl cc, .slice no nl nc, .slice oo ol oc] 29)).alloc (.cells #[.int .i64 0, .int .i64 0, .int .i64 0, .int .i64 0, .int .i64 0, .int .i64 0, .int .i64 0, .int .i64 0] 31)).alloc (.cells #[.int .i64 20, .int .i64 0, .int .i64 0, .int .i64 0, .int .i64 0, .int .i64 0, .int .i64 0, .int .i64 0] 31)) := ⟨_, rfl⟩
  rw [← hW] at hN ⊢
  obtain ⟨sb, hsb⟩ : ∃ sb, sb = w.heap.size := ⟨_, rfl⟩
  obtain ⟨rb, hrb⟩ : ∃ rb, rb = w.heap.size + 1 := ⟨_, rfl⟩
  obtain ⟨eb, heb⟩ : ∃ eb, eb = w.heap.size + 1 + 1 := ⟨_, rfl⟩
  rw [← heb] at hN ⊢
  rw [← hrb] at hN ⊢
  rw [← hsb] at hN ⊢
  clear hW hsb hrb heb
  go_loopw [6] (fun i wr => ∃ (k : Nat) (e : Ev), k ≤ 12 ∧ i = .int .i64 k ∧ EvI e ∧ NX B w g sb rb eb ⟨sg, lo, ll, lc, co, cl, cc, no, nl, nc, oo, ol, oc⟩ m e wr) (fun i _ => 12 - (intOf i).toNat)
  case atStart => exact ⟨0, _, by omega, rfl, ⟨⟨by decide, by decide⟩, ⟨by decide, by decide⟩, ⟨by decide, by decide⟩, ⟨by decide, by decide⟩, ⟨by decide, by decide⟩, ⟨by decide, by decide⟩, ⟨by decide, by decide⟩, ⟨by decide, by decide⟩⟩, hN⟩
  case round =>
    clear hN
    obtain ⟨i, e, hi, rfl, hE, hN⟩ := hrel
    by_cases hlt : i < 12
    · go_wp2_with fail
      refine (l2Draw_any _ _ hN.cur).mono ?_
      rintro x w1 ⟨⟨k, gr, o, wi, l, sz, f, t⟩, rfl, ⟨i0, i1, i2, i3, i4, i5, i6, i7⟩, c1, g1⟩
      simp only at i0 i1 i2 i3 i4 i5 i6 i7 ⊢
      have h1 := hN.draw c1 g1
      clear hN hE c1 g1
      obtain ⟨a0, a1, a2, a3, a4, a5, a6, a7⟩ := h1.ev.at
      have af := fun i => h1.ev.free i
      have h2 := h1.wrote (grown_st8 w1 eb (.int .i64 k) (.int .i64 gr) (.int .i64 o) (.int .i64 wi) (.int .i64 l) (.int .i64 sz) (.int .i64 f) (.int .i64 t)) (h1.ev.set8 ⟨k, gr, o, wi, l, sz, f, t⟩)
      clear h1
      go_upto_region 6 with fail
      clear a0 a1 a2 a3 a4 a5 a6 a7 af
      obtain ⟨w2, hw2⟩ : ∃ w2, w2 = ((((((((w1.setCell ⟨eb, 0, none⟩ (.int .i64 k)).setCell ⟨eb, 1, none⟩ (.int .i64 gr)).setCell ⟨eb, 2, none⟩ (.int .i64 o)).setCell ⟨eb, 3, none⟩ (.int .i64 wi)).setCell ⟨eb, 4, none⟩ (.int .i64 l)).setCell ⟨eb, 5, none⟩ (.int .i64 sz)).setCell ⟨eb, 6, none⟩ (.int .i64 f)).setCell ⟨eb, 7, none⟩ (.int .i64 t)) := ⟨_, rfl⟩
      rw [← hw2] at h2 ⊢
      clear hw2
      have c0 := h2.sc.at.c0
      simp only at c0
      go_wp2_with fail
      refine (l1Min_any _ _ _).mono ?_
      rintro e y ⟨rfl, rfl⟩
      obtain ⟨q, hq⟩ : ∃ q, q = min sg 16 := ⟨_, rfl⟩
      simp only [← hq]
      clear hq
      go_wp2_with fail
      refine (l1Max_any2 _ _ _).mono ?_
      rintro e y ⟨rfl, rfl⟩
      obtain ⟨q2, hq2⟩ : ∃ q2, q2 = max 1 q := ⟨_, rfl⟩
      simp only [← hq2]
      clear hq2
      go_wp2_with fail
      refine (l1Below_any _ _ _ h2.cur).mono ?_
      rintro e w3 ⟨x, rfl, x0, -, x2, c3, g3⟩
      have h3 := h2.draw c3 g3
      have xf := h3.ev.free 1
      have xc := h3.ev.at.2.1
      simp only at xc
      have h4 := h3.wrote (grown_set w3 eb 1 (.int .i64 x)) (h3.ev.setG x)
      simp only at h4
      clear h2 h3 c3 g3 c0 y
      go_upto_region 7 with fail
      clear xf xc
      obtain ⟨w4, hw4⟩ : ∃ w4, w4 = w3.setCell ⟨eb, 1, none⟩ (.int .i64 x) := ⟨_, rfl⟩
      rw [← hw4] at h4 ⊢
      clear hw4
      have n0 := h4.ev.at.1
      simp only at n0
      have ix : I64 x := ⟨by omega, by omega⟩
      by_cases hk1 : k = 1
      · subst hk1
        by_cases h5g : 5 ≤ sg
        · have hd : decide (5 ≤ sg) = true := decide_eq_true h5g
          obtain ⟨a0, a1, a2, a3, a4, a5, a6, a7⟩ := h4.ev.at
          have af := fun i => h4.ev.free i
          have cg := h4.sc.at.c0
          have h5 := h4.wrote (grown_st8 w4 eb (.int .i64 17) (.int .i64 x) (.int .i64 0) (.int .i64 0) (.int .i64 0) (.int .i64 0) (.int .i64 0) (.int .i64 0)) (h4.ev.set8 ⟨17, x, 0, 0, 0, 0, 0, 0⟩)
          simp only at a0 a1 a2 a3 a4 a5 a6 a7 cg h5
          clear h4 n0
          go_upto_region 14 with fail
          clear a0 a1 a2 a3 a4 a5 a6 a7 af cg
          obtain ⟨w5, hw5⟩ : ∃ w5, w5 = ((((((((w4.setCell ⟨eb, 0, none⟩ (.int .i64 17)).setCell ⟨eb, 1, none⟩ (.int .i64 x)).setCell ⟨eb, 2, none⟩ (.int .i64 0)).setCell ⟨eb, 3, none⟩ (.int .i64 0)).setCell ⟨eb, 4, none⟩ (.int .i64 0)).setCell ⟨eb, 5, none⟩ (.int .i64 0)).setCell ⟨eb, 6, none⟩ (.int .i64 0)).setCell ⟨eb, 7, none⟩ (.int .i64 0)) := ⟨_, rfl⟩
          rw [← hw5] at h5 ⊢
          clear hw5
          have ho2 : I64 0 := ⟨by decide, by decide⟩
          have cI := fun u (hs : ScR B u ⟨sg, lo, ll, lc, co, cl, cc, no, nl, nc, oo, ol, oc⟩ m) => codeIn_any ⟨sg, lo, ll, lc, co, cl, cc, no, nl, nc, oo, ol, oc⟩ m ⟨17, x, 0, 0, 0, 0, 0, 0⟩ u ho2 hs
          simp only at cI
          have hE : EvI ⟨17, x, 0, 0, 0, 0, 0, 0⟩ := ⟨(show I64 17 from ⟨by decide, by decide⟩), ix, ho2, ho2, ho2, ho2, ho2, ho2⟩
          obtain ⟨R, hR⟩ : ∃ R, R = codeIn m ⟨17, x, 0, 0, 0, 0, 0, 0⟩ := ⟨_, rfl⟩
          simp only [← hR] at cI
          clear hR
          obtain ⟨s0, s1, s2, s3, s4⟩ := h5.sc.at
          obtain ⟨e0, e1, e2, e3, e4, e5, e6, e7⟩ := h5.ev.at
          simp only at s0 s1 s2 s3 s4 e0 e1 e2 e3 e4 e5 e6 e7
          go_wp2_with fail
          refine (cI _ h5.scr).mono ?_
          rintro y w6 ⟨rfl, f6⟩
          have h6 := h5.fr f6
          clear cI s0 s1 s2 s3 s4 e0 e1 e2 e3 e4 e5 e6 e7 h5 f6
          cases hr : (R == 0)
          · go_wp2_with fail
            go_roundw
            case rel => exact ⟨i + 1, _, by omega, by go_num, hE, h6⟩
            case measure => simp [intOf]; omega
          · obtain ⟨e0, e1, e2, e3, e4, e5, e6, e7⟩ := h6.ev.at
            obtain ⟨u0, u1, u2, u3, u4, u5, u6, u7⟩ := h6.rs.at
            simp only at e0 e1 e2 e3 e4 e5 e6 e7 u0 u1 u2 u3 u4 u5 u6 u7
            have uf := fun i => h6.rs.free i
            have HF : Hid (Cur (((((((((w6.setCell ⟨rb, 0, none⟩ (.int .i64 17)).setCell ⟨rb, 1, none⟩ (.int .i64 x)).setCell ⟨rb, 2, none⟩ (.int .i64 0)).setCell ⟨rb, 3, none⟩ (.int .i64 0)).setCell ⟨rb, 4, none⟩ (.int .i64 0)).setCell ⟨rb, 5, none⟩ (.int .i64 0)).setCell ⟨rb, 6, none⟩ (.int .i64 0)).setCell ⟨rb, 7, none⟩ (.int .i64 0))) g ∧ w.grownBy (((((((((w6.setCell ⟨rb, 0, none⟩ (.int .i64 17)).setCell ⟨rb, 1, none⟩ (.int .i64 x)).setCell ⟨rb, 2, none⟩ (.int .i64 0)).setCell ⟨rb, 3, none⟩ (.int .i64 0)).setCell ⟨rb, 4, none⟩ (.int .i64 0)).setCell ⟨rb, 5, none⟩ (.int .i64 0)).setCell ⟨rb, 6, none⟩ (.int .i64 0)).setCell ⟨rb, 7, none⟩ (.int .i64 0))) (some g)) := h6.fin _ _ _ _ _ _ _ _
            clear h6
            go_wp2_with fail
            refine bodyPost_ret (v := .agg #[.int .i64 17, .int .i64 x, .int .i64 0, .int .i64 0, .int .i64 0, .int .i64 0, .int .i64 0, .int .i64 0]) (by simp [results, Tryz.results95, go_sem, u0, u1, u2, u3, u4, u5, u6, u7]) rfl ⟨⟨17, x, 0, 0, 0, 0, 0, 0⟩, rfl, hE, HF.out.1, HF.out.2⟩
        · have hd : decide (5 ≤ sg) = false := decide_eq_false h5g
          have h5g' : sg < 5 := by omega
          have a2 := h4.ev.at.2.2.1
          have af := h4.ev.free 2
          have cg := h4.sc.at.c0
          have h5 := h4.wrote (grown_set w4 eb 2 (.int .i64 sg)) (h4.ev.setO sg)
          simp only at a2 cg h5
          clear h4
          go_upto_region 14 with fail
          clear a2 af cg n0
          obtain ⟨w5, hw5⟩ : ∃ w5, w5 = w4.setCell ⟨eb, 2, none⟩ (.int .i64 sg) := ⟨_, rfl⟩
          rw [← hw5] at h5 ⊢
          clear hw5
          have ho2 : I64 sg := hsg
          have cI := fun u (hs : ScR B u ⟨sg, lo, ll, lc, co, cl, cc, no, nl, nc, oo, ol, oc⟩ m) => codeIn_any ⟨sg, lo, ll, lc, co, cl, cc, no, nl, nc, oo, ol, oc⟩ m ⟨1, x, sg, wi, l, sz, f, t⟩ u ho2 hs
          simp only at cI
          have hE : EvI ⟨1, x, sg, wi, l, sz, f, t⟩ := ⟨i0, ix, hsg, i3, i4, i5, i6, i7⟩
          obtain ⟨R, hR⟩ : ∃ R, R = codeIn m ⟨1, x, sg, wi, l, sz, f, t⟩ := ⟨_, rfl⟩
          simp only [← hR] at cI
          clear hR
          obtain ⟨s0, s1, s2, s3, s4⟩ := h5.sc.at
          obtain ⟨e0, e1, e2, e3, e4, e5, e6, e7⟩ := h5.ev.at
          simp only at s0 s1 s2 s3 s4 e0 e1 e2 e3 e4 e5 e6 e7
          go_wp2_with fail
          refine (cI _ h5.scr).mono ?_
          rintro y w6 ⟨rfl, f6⟩
          have h6 := h5.fr f6
          clear cI s0 s1 s2 s3 s4 e0 e1 e2 e3 e4 e5 e6 e7 h5 f6
          cases hr : (R == 0)
          · go_wp2_with fail
            go_roundw
            case rel => exact ⟨i + 1, _, by omega, by go_num, hE, h6⟩
            case measure => simp [intOf]; omega
          · obtain ⟨e0, e1, e2, e3, e4, e5, e6, e7⟩ := h6.ev.at
            obtain ⟨u0, u1, u2, u3, u4, u5, u6, u7⟩ := h6.rs.at
            simp only at e0 e1 e2 e3 e4 e5 e6 e7 u0 u1 u2 u3 u4 u5 u6 u7
            have uf := fun i => h6.rs.free i
            have HF : Hid (Cur (((((((((w6.setCell ⟨rb, 0, none⟩ (.int .i64 1)).setCell ⟨rb, 1, none⟩ (.int .i64 x)).setCell ⟨rb, 2, none⟩ (.int .i64 sg)).setCell ⟨rb, 3, none⟩ (.int .i64 wi)).setCell ⟨rb, 4, none⟩ (.int .i64 l)).setCell ⟨rb, 5, none⟩ (.int .i64 sz)).setCell ⟨rb, 6, none⟩ (.int .i64 f)).setCell ⟨rb, 7, none⟩ (.int .i64 t))) g ∧ w.grownBy (((((((((w6.setCell ⟨rb, 0, none⟩ (.int .i64 1)).setCell ⟨rb, 1, none⟩ (.int .i64 x)).setCell ⟨rb, 2, none⟩ (.int .i64 sg)).setCell ⟨rb, 3, none⟩ (.int .i64 wi)).setCell ⟨rb, 4, none⟩ (.int .i64 l)).setCell ⟨rb, 5, none⟩ (.int .i64 sz)).setCell ⟨rb, 6, none⟩ (.int .i64 f)).setCell ⟨rb, 7, none⟩ (.int .i64 t))) (some g)) := h6.fin _ _ _ _ _ _ _ _
            clear h6
            go_wp2_with fail
            refine bodyPost_ret (v := .agg #[.int .i64 1, .int .i64 x, .int .i64 sg, .int .i64 wi, .int .i64 l, .int .i64 sz, .int .i64 f, .int .i64 t]) (by simp [results, Tryz.results95, go_sem, u0, u1, u2, u3, u4, u5, u6, u7]) rfl ⟨⟨1, x, sg, wi, l, sz, f, t⟩, rfl, hE, HF.out.1, HF.out.2⟩
      · have ek1 : (k == 1) = false := beq_eq_false_iff_ne.2 hk1
        by_cases hk9 : k = 9
        · subst hk9
          have cg := h4.sc.at.c0
          simp only at cg
          go_wp2_with fail
          refine (l1Min_any _ _ _).mono ?_
          rintro e y ⟨rfl, rfl⟩
          obtain ⟨q, hq⟩ : ∃ q, q = min sg 16 := ⟨_, rfl⟩
          simp only [← hq]
          clear hq
          go_wp2_with fail
          refine (l1Max_any2 _ _ _).mono ?_
          rintro e y ⟨rfl, rfl⟩
          obtain ⟨q2, hq2⟩ : ∃ q2, q2 = max 1 q := ⟨_, rfl⟩
          simp only [← hq2]
          clear hq2
          go_wp2_with fail
          refine (l1Below_any _ _ _ h4.cur).mono ?_
          rintro e w5 ⟨x5, rfl, x50, -, x52, c5, g5⟩
          have h5 := h4.draw c5 g5
          have xf := h5.ev.free 3
          have xc := h5.ev.at.2.2.2.1
          have h5 := h5.wrote (grown_set w5 eb 3 (.int .i64 x5)) (h5.ev.setW x5)
          simp only at xc h5
          clear h4 c5 g5 cg n0
          go_upto_region 14 with fail
          clear xf xc
          obtain ⟨w8, hw8⟩ : ∃ w8, w8 = w5.setCell ⟨eb, 3, none⟩ (.int .i64 x5) := ⟨_, rfl⟩
          rw [← hw8] at h5 ⊢
          clear hw8
          have ho2 : I64 o := i2
          have cI := fun u (hs : ScR B u ⟨sg, lo, ll, lc, co, cl, cc, no, nl, nc, oo, ol, oc⟩ m) => codeIn_any ⟨sg, lo, ll, lc, co, cl, cc, no, nl, nc, oo, ol, oc⟩ m ⟨9, x, o, x5, l, sz, f, t⟩ u ho2 hs
          simp only at cI
          have hE : EvI ⟨9, x, o, x5, l, sz, f, t⟩ := ⟨i0, ix, i2, (show I64 x5 from ⟨by omega, by omega⟩), i4, i5, i6, i7⟩
          obtain ⟨R, hR⟩ : ∃ R, R = codeIn m ⟨9, x, o, x5, l, sz, f, t⟩ := ⟨_, rfl⟩
          simp only [← hR] at cI
          clear hR
          obtain ⟨s0, s1, s2, s3, s4⟩ := h5.sc.at
          obtain ⟨e0, e1, e2, e3, e4, e5, e6, e7⟩ := h5.ev.at
          simp only at s0 s1 s2 s3 s4 e0 e1 e2 e3 e4 e5 e6 e7
          go_wp2_with fail
          refine (cI _ h5.scr).mono ?_
          rintro y w6 ⟨rfl, f6⟩
          have h6 := h5.fr f6
          clear cI s0 s1 s2 s3 s4 e0 e1 e2 e3 e4 e5 e6 e7 h5 f6
          cases hr : (R == 0)
          · go_wp2_with fail
            go_roundw
            case rel => exact ⟨i + 1, _, by omega, by go_num, hE, h6⟩
            case measure => simp [intOf]; omega
          · obtain ⟨e0, e1, e2, e3, e4, e5, e6, e7⟩ := h6.ev.at
            obtain ⟨u0, u1, u2, u3, u4, u5, u6, u7⟩ := h6.rs.at
            simp only at e0 e1 e2 e3 e4 e5 e6 e7 u0 u1 u2 u3 u4 u5 u6 u7
            have uf := fun i => h6.rs.free i
            have HF : Hid (Cur (((((((((w6.setCell ⟨rb, 0, none⟩ (.int .i64 9)).setCell ⟨rb, 1, none⟩ (.int .i64 x)).setCell ⟨rb, 2, none⟩ (.int .i64 o)).setCell ⟨rb, 3, none⟩ (.int .i64 x5)).setCell ⟨rb, 4, none⟩ (.int .i64 l)).setCell ⟨rb, 5, none⟩ (.int .i64 sz)).setCell ⟨rb, 6, none⟩ (.int .i64 f)).setCell ⟨rb, 7, none⟩ (.int .i64 t))) g ∧ w.grownBy (((((((((w6.setCell ⟨rb, 0, none⟩ (.int .i64 9)).setCell ⟨rb, 1, none⟩ (.int .i64 x)).setCell ⟨rb, 2, none⟩ (.int .i64 o)).setCell ⟨rb, 3, none⟩ (.int .i64 x5)).setCell ⟨rb, 4, none⟩ (.int .i64 l)).setCell ⟨rb, 5, none⟩ (.int .i64 sz)).setCell ⟨rb, 6, none⟩ (.int .i64 f)).setCell ⟨rb, 7, none⟩ (.int .i64 t))) (some g)) := h6.fin _ _ _ _ _ _ _ _
            clear h6
            go_wp2_with fail
            refine bodyPost_ret (v := .agg #[.int .i64 9, .int .i64 x, .int .i64 o, .int .i64 x5, .int .i64 l, .int .i64 sz, .int .i64 f, .int .i64 t]) (by simp [results, Tryz.results95, go_sem, u0, u1, u2, u3, u4, u5, u6, u7]) rfl ⟨⟨9, x, o, x5, l, sz, f, t⟩, rfl, hE, HF.out.1, HF.out.2⟩
        · have ek9 : (k == 9) = false := beq_eq_false_iff_ne.2 hk9
          clear hk1 hk9
          go_upto_region 14 with fail
          have h5 := h4
          clear h4 n0
          have ho2 : I64 o := i2
          have cI := fun u (hs : ScR B u ⟨sg, lo, ll, lc, co, cl, cc, no, nl, nc, oo, ol, oc⟩ m) => codeIn_any ⟨sg, lo, ll, lc, co, cl, cc, no, nl, nc, oo, ol, oc⟩ m ⟨k, x, o, wi, l, sz, f, t⟩ u ho2 hs
          simp only at cI
          have hE : EvI ⟨k, x, o, wi, l, sz, f, t⟩ := ⟨i0, ix, i2, i3, i4, i5, i6, i7⟩
          obtain ⟨R, hR⟩ : ∃ R, R = codeIn m ⟨k, x, o, wi, l, sz, f, t⟩ := ⟨_, rfl⟩
          simp only [← hR] at cI
          clear hR
          obtain ⟨s0, s1, s2, s3, s4⟩ := h5.sc.at
          obtain ⟨e0, e1, e2, e3, e4, e5, e6, e7⟩ := h5.ev.at
          simp only at s0 s1 s2 s3 s4 e0 e1 e2 e3 e4 e5 e6 e7
          go_wp2_with fail
          refine (cI _ h5.scr).mono ?_
          rintro y w6 ⟨rfl, f6⟩
          have h6 := h5.fr f6
          clear cI s0 s1 s2 s3 s4 e0 e1 e2 e3 e4 e5 e6 e7 h5 f6
          cases hr : (R == 0)
          · go_wp2_with fail
            go_roundw
            case rel => exact ⟨i + 1, _, by omega, by go_num, hE, h6⟩
            case measure => simp [intOf]; omega
          · obtain ⟨e0, e1, e2, e3, e4, e5, e6, e7⟩ := h6.ev.at
            obtain ⟨u0, u1, u2, u3, u4, u5, u6, u7⟩ := h6.rs.at
            simp only at e0 e1 e2 e3 e4 e5 e6 e7 u0 u1 u2 u3 u4 u5 u6 u7
            have uf := fun i => h6.rs.free i
            have HF : Hid (Cur (((((((((w6.setCell ⟨rb, 0, none⟩ (.int .i64 k)).setCell ⟨rb, 1, none⟩ (.int .i64 x)).setCell ⟨rb, 2, none⟩ (.int .i64 o)).setCell ⟨rb, 3, none⟩ (.int .i64 wi)).setCell ⟨rb, 4, none⟩ (.int .i64 l)).setCell ⟨rb, 5, none⟩ (.int .i64 sz)).setCell ⟨rb, 6, none⟩ (.int .i64 f)).setCell ⟨rb, 7, none⟩ (.int .i64 t))) g ∧ w.grownBy (((((((((w6.setCell ⟨rb, 0, none⟩ (.int .i64 k)).setCell ⟨rb, 1, none⟩ (.int .i64 x)).setCell ⟨rb, 2, none⟩ (.int .i64 o)).setCell ⟨rb, 3, none⟩ (.int .i64 wi)).setCell ⟨rb, 4, none⟩ (.int .i64 l)).setCell ⟨rb, 5, none⟩ (.int .i64 sz)).setCell ⟨rb, 6, none⟩ (.int .i64 f)).setCell ⟨rb, 7, none⟩ (.int .i64 t))) (some g)) := h6.fin _ _ _ _ _ _ _ _
            clear h6
            go_wp2_with fail
            refine bodyPost_ret (v := .agg #[.int .i64 k, .int .i64 x, .int .i64 o, .int .i64 wi, .int .i64 l, .int .i64 sz, .int .i64 f, .int .i64 t]) (by simp [results, Tryz.results95, go_sem, u0, u1, u2, u3, u4, u5, u6, u7]) rfl ⟨⟨k, x, o, wi, l, sz, f, t⟩, rfl, hE, HF.out.1, HF.out.2⟩
    · have et : i = 12 := by omega
      subst et
      obtain ⟨k, gr, o, wi, l, sz, f, t⟩ := e
      obtain ⟨e0, e1, e2, e3, e4, e5, e6, e7⟩ := hN.ev.at
      obtain ⟨u0, u1, u2, u3, u4, u5, u6, u7⟩ := hN.rs.at
      simp only at e0 e1 e2 e3 e4 e5 e6 e7 u0 u1 u2 u3 u4 u5 u6 u7
      have uf := fun i => hN.rs.free i
      have HF : Hid (Cur (((((((((wr.setCell ⟨rb, 0, none⟩ (.int .i64 k)).setCell ⟨rb, 1, none⟩ (.int .i64 gr)).setCell ⟨rb, 2, none⟩ (.int .i64 o)).setCell ⟨rb, 3, none⟩ (.int .i64 wi)).setCell ⟨rb, 4, none⟩ (.int .i64 l)).setCell ⟨rb, 5, none⟩ (.int .i64 sz)).setCell ⟨rb, 6, none⟩ (.int .i64 f)).setCell ⟨rb, 7, none⟩ (.int .i64 t))) g ∧ w.grownBy ((((((((wr.setCell ⟨rb, 0, none⟩ (.int .i64 k)).setCell ⟨rb, 1, none⟩ (.int .i64 gr)).setCell ⟨rb, 2, none⟩ (.int .i64 o)).setCell ⟨rb, 3, none⟩ (.int .i64 wi)).setCell ⟨rb, 4, none⟩ (.int .i64 l)).setCell ⟨rb, 5, none⟩ (.int .i64 sz)).setCell ⟨rb, 6, none⟩ (.int .i64 f)).setCell ⟨rb, 7, none⟩ (.int .i64 t)) (some g)) := hN.fin _ _ _ _ _ _ _ _
      clear hN
      go_wp2_with fail
      refine bodyPost_ret (v := .agg #[.int .i64 k, .int .i64 gr, .int .i64 o, .int .i64 wi, .int .i64 l, .int .i64 sz, .int .i64 f, .int .i64 t]) (by simp [results, Tryz.results95, go_sem, u0, u1, u2, u3, u4, u5, u6, u7]) rfl ⟨⟨k, gr, o, wi, l, sz, f, t⟩, rfl, hE, HF.out.1, HF.out.2⟩
end Go.Proofs.YtihdablgnmkjnaaGreatDoor
