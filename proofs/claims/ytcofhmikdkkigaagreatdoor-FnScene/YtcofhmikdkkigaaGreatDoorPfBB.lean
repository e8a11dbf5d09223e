/-
  Pack BB: Evs, Rd, Put, EvSpecL, DoorEv.
-/
import Derived.Test.YtcofhmikdkkigaaGreatDoorPfBA
import Derived.Laws.AppendOwnNone
import Derived.Test.YtcofhmikdkkigaaGreatDoorPfAY
import Derived.Test.YtcofhmikdkkigaaGreatDoorPfAC
import Derived.Test.YtcofhmikdkkigaaGreatDoorPfAI
import Derived.Test.YtcofhmikdkkigaaGreatDoorPfAZ
import Derived.Test.YtcofhmikdkkigaaGreatDoorPfAN
namespace Go.Proofs.YtcofhmikdkkigaaGreatDoor
open Go.RowKit

def evCells (e : Ev) : List Value := [.int .i64 e.k, .int .i64 e.g, .int .i64 e.o, .int .i64 e.w, .int .i64 e.l, .int .i64 e.s, .int .i64 e.f, .int .i64 e.t]

structure EvC (w : World) (b o : Nat) (e : Ev) : Prop where
  c0 : w.cell? ⟨b, o, none⟩ = some (.int .i64 e.k)
  c1 : w.cell? ⟨b, o + 1, none⟩ = some (.int .i64 e.g)
  c2 : w.cell? ⟨b, o + 2, none⟩ = some (.int .i64 e.o)
  c3 : w.cell? ⟨b, o + 3, none⟩ = some (.int .i64 e.w)
  c4 : w.cell? ⟨b, o + 4, none⟩ = some (.int .i64 e.l)
  c5 : w.cell? ⟨b, o + 5, none⟩ = some (.int .i64 e.s)
  c6 : w.cell? ⟨b, o + 6, none⟩ = some (.int .i64 e.f)
  c7 : w.cell? ⟨b, o + 7, none⟩ = some (.int .i64 e.t)

theorem EvC.of {w : World} {b o : Nat} {e : Ev} (h : ∀ k, k < 8 → w.cell? ⟨b, o + k, none⟩ = (evCells e)[k]?) : EvC w b o e :=
  ⟨h 0 (by omega), h 1 (by omega), h 2 (by omega), h 3 (by omega), h 4 (by omega), h 5 (by omega), h 6 (by omega), h 7 (by omega)⟩
theorem EvC.keep {w w' : World} {b o : Nat} {e : Ev} {row : Option Nat} (h : EvC w b o e) (k : w.grownBy w' row) (hr : some b ≠ row) : EvC w' b o e :=
  ⟨k.cell h.c0 hr, k.cell h.c1 hr, k.cell h.c2 hr, k.cell h.c3 hr, k.cell h.c4 hr, k.cell h.c5 hr, k.cell h.c6 hr, k.cell h.c7 hr⟩

structure ReadsE (w : World) (ao : Option Addr) (es : List Ev) : Prop where
  len : es.length ≤ 16777216
  at_ : ∀ i, i < es.length → ∃ b off, ao = some ⟨b, off, none⟩ ∧ ∀ j (hj : j < es.length), EvC w b (off + j * 8) es[j]

theorem ReadsE.nil (w : World) (ao : Option Addr) : ReadsE w ao [] := ⟨by simp, by simp⟩
theorem ReadsE.keep {w w' : World} {ao : Option Addr} {es : List Ev} {row : Option Nat} (h : ReadsE w ao es) (k : w.grownBy w' row) (hne : row = none ∨ blk ao ≠ row) : ReadsE w' ao es := by
  refine ⟨h.len, fun i hi => ?_⟩
  obtain ⟨b, off, e, hc⟩ := h.at_ i hi
  refine ⟨b, off, e, fun j hj => (hc j hj).keep k ?_⟩
  rcases hne with rfl | hne
  · simp
  · intro hh
    apply hne
    rw [e, ← hh]
    rfl
theorem ReadsE.fr {w w' : World} {ao : Option Addr} {es : List Ev} (h : ReadsE w ao es) (k : Fr w w') : ReadsE w' ao es := h.keep k (.inl rfl)

theorem cells_len (es : List Ev) : (es.flatMap evCells).length = es.length * 8 := by
  induction es with
  | nil => rfl
  | cons e es ih => rw [List.flatMap_cons, List.length_append, ih]; simp [evCells]; omega
theorem cells_at (es : List Ev) (j k : Nat) (hj : j < es.length) (hk : k < 8) : (es.flatMap evCells)[j * 8 + k]? = (evCells es[j])[k]? := by
  induction es generalizing j with
  | nil => simp at hj
  | cons e es ih =>
    have h8 : (evCells e).length = 8 := rfl
    cases j with
    | zero => rw [List.flatMap_cons, Nat.zero_mul, Nat.zero_add, List.getElem?_append_left (by omega)]; rfl
    | succ j =>
      rw [List.flatMap_cons, List.getElem?_append_right (by omega), h8, show (j + 1) * 8 + k - 8 = j * 8 + k by omega, ih j (by simpa using hj)]
      rfl

def OwnE (w : World) (base : Nat) (v : Value) (es : List Ev) : Prop :=
  ∃ g cap, v = .slice (some ⟨g, 0, none⟩) es.length cap ∧ w.ownsRow base 31 8 (.slice (some ⟨g, 0, none⟩) es.length cap) es.length (es.flatMap evCells) ∧ es.length ≤ 16777216

theorem own_readsE {w : World} {base g cap : Nat} {es : List Ev} (h : w.ownsRow base 31 8 (.slice (some ⟨g, 0, none⟩) es.length cap) es.length (es.flatMap evCells)) (hl : es.length ≤ 16777216) : ReadsE w (some ⟨g, 0, none⟩) es := by
  refine ⟨hl, fun i hi => ⟨g, 0, rfl, fun j hj => EvC.of fun k hk => ?_⟩⟩
  have := h.cellAt (j * 8 + k) (by omega)
  rw [Nat.zero_add, this, cells_at es j k hj hk]
theorem OwnE.keep {w w' : World} {base : Nat} {v : Value} {es : List Ev} {row : Option Nat} (h : OwnE w base v es) (k : w.grownBy w' row) (hne : v.ownBlock ≠ row) : OwnE w' base v es := by
  obtain ⟨g, cap, rfl, ho, hl⟩ := h
  exact ⟨g, cap, rfl, ho.kept k (.inr hne), hl⟩
theorem OwnE.fr {w w' : World} {base : Nat} {v : Value} {es : List Ev} (h : OwnE w base v es) (k : Fr w w') : OwnE w' base v es := by
  obtain ⟨g, cap, rfl, ho, hl⟩ := h
  exact ⟨g, cap, rfl, ho.kept k (by simp [Value.ownBlock]), hl⟩
theorem OwnE.blk {w : World} {base : Nat} {v : Value} {es : List Ev} (h : OwnE w base v es) : ∀ j, v.ownBlock = some j → base ≤ j := by
  obtain ⟨g, cap, rfl, ho, hl⟩ := h
  intro j hj
  exact (ho.lt j hj).1
theorem OwnE.lower {w : World} {base base' : Nat} {v : Value} {es : List Ev} (h : OwnE w base v es) (hb : base' ≤ base) : OwnE w base' v es := by
  obtain ⟨g, cap, rfl, ho, hl⟩ := h
  refine ⟨g, cap, rfl, ⟨ho.1, ?_⟩, hl⟩
  rcases ho.2 with e | ⟨g, cap, cur, e, hg, r⟩
  · exact .inl e
  · exact .inr ⟨g, cap, cur, e, by omega, r⟩

def okL (es : List Ev) : Bool := es.all evOk
theorem okL_take (es : List Ev) (k : Nat) (hk : k < es.length) (h : okL (es.take k) = true) (h2 : evOk es[k] = true) : okL (es.take (k + 1)) = true := by
  rw [okL, List.take_succ_eq_append_getElem hk, List.all_append]
  simp only [okL] at h
  rw [h]
  simp [h2]
theorem okL_not (es : List Ev) (k : Nat) (hk : k < es.length) (h2 : evOk es[k] = false) : okL es = false := by
  rw [okL, List.all_eq_false]
  exact ⟨es[k], List.getElem_mem hk, by simp [h2]⟩
theorem ReadsE.take {w : World} {ao : Option Addr} {es : List Ev} (h : ReadsE w ao es) (k : Nat) : ReadsE w ao (es.take k) := by
  refine ⟨by have := h.len; simp; omega, fun i hi => ?_⟩
  obtain ⟨b, off, e, hc⟩ := h.at_ i (by simp at hi; omega)
  refine ⟨b, off, e, fun j hj => ?_⟩
  rw [List.getElem_take]
  exact hc j (by simp at hj; omega)
end Go.Proofs.YtcofhmikdkkigaaGreatDoor
namespace Go.Proofs.YtcofhmikdkkigaaGreatDoor
open Go.RowKit

def rdV (bs : List Int) (i : Int) : Int × Int × Bool :=
  if 0 ≤ i then (match rdN bs i.toNat with | some (n, q) => (n, (q : Int), true) | none => (0, i, false)) else (0, i, false)

theorem rdV_at (bs : List Int) (p : Nat) : rdV bs (p : Int) = (match rdN bs p with | some (n, q) => (n, (q : Int), true) | none => (0, (p : Int), false)) := by
  rw [rdV, if_pos (by omega)]
  rfl
theorem rdV_none {bs : List Int} {p : Nat} (h : rdN bs p = none) : rdV bs (p : Int) = (0, (p : Int), false) := by rw [rdV_at, h]
theorem rdV_some {bs : List Int} {p q : Nat} {n : Int} (h : rdN bs p = some (n, q)) : rdV bs (p : Int) = (n, (q : Int), true) := by rw [rdV_at, h]
theorem rdN_out {bs : List Int} {p : Nat} (h : bs.length ≤ p) : rdN bs p = none := by
  rw [rdN, rdG, List.getElem?_eq_none h]
theorem rdV_out {bs : List Int} {i : Int} (h : i < 0 ∨ (bs.length : Int) ≤ i) : rdV bs i = (0, i, false) := by
  rw [rdV]
  by_cases h0 : 0 ≤ i
  · rw [if_pos h0, rdN_out (by omega)]
  · rw [if_neg h0]

structure RS (bs : List Int) (s f p : Nat) (u acc : Int) : Prop where
  sp : s ≤ p
  fp : p + f = s + 6
  same : rdG bs s f p u acc = rdN bs s
  unit : u = 128 ^ (6 - f)
  acc0 : 0 ≤ acc
  acc1 : acc < u

theorem RS.start (bs : List Int) (s : Nat) : RS bs s 6 s 1 0 := ⟨Nat.le_refl _, rfl, rfl, rfl, by omega, by omega⟩
theorem RS.unit_in {bs : List Int} {s f p : Nat} {u acc : Int} (h : RS bs s f p u acc) : 1 ≤ u ∧ u ≤ 4398046511104 ∧ (0 < f → u ≤ 34359738368) := by
  have hf : f ≤ 6 ∨ 6 < f := by omega
  rcases hf with hf | hf
  · rw [h.unit]
    rcases (by omega : f = 0 ∨ f = 1 ∨ f = 2 ∨ f = 3 ∨ f = 4 ∨ f = 5 ∨ f = 6) with rfl | rfl | rfl | rfl | rfl | rfl | rfl <;> decide
  · have : u = 1 := by rw [h.unit, Nat.sub_eq_zero_of_le (by omega)]; rfl
    omega
theorem RS.more {bs : List Int} {s f p : Nat} {u acc b : Int} (h : RS bs s (f + 1) p u acc) (hb : bs[p]? = some b) (h1 : 128 ≤ b) (h2 : b ≤ 255) : RS bs s f (p + 1) (u * 128) (acc + (b - 128) * u) := by
  have hu := h.unit_in
  have h3 : 0 ≤ (b - 128) * u := Int.mul_nonneg (by omega) (by omega)
  have h4 : (b - 128) * u ≤ 127 * u := Int.mul_le_mul_of_nonneg_right (by omega) (by omega)
  have := h.acc0
  have := h.acc1
  have h5 := h.fp
  have h6 := h.sp
  refine ⟨by omega, by omega, ?_, ?_, by omega, by omega⟩
  · rw [← h.same, rdG, hb]
    simp only []
    rw [if_pos h1]
  · rw [h.unit, ← Int.pow_succ]
    congr 1
    omega
theorem RS.last {bs : List Int} {s f p : Nat} {u acc b : Int} (h : RS bs s (f + 1) p u acc) (hb : bs[p]? = some b) (h1 : b < 128) : rdN bs s = if b = 0 ∧ s < p then none else some (acc + b * u, p + 1) := by
  rw [← h.same, rdG, hb]
  simp only []
  rw [if_neg (by omega)]
theorem RS.stop {bs : List Int} {s f p : Nat} {u acc : Int} (h : RS bs s f p u acc) (hb : f = 0 ∨ bs.length ≤ p) : rdN bs s = none := by
  rw [← h.same]
  cases f with
  | zero => rfl
  | succ f => rw [rdG, List.getElem?_eq_none (by omega)]

def rdT (x : Int × Int × Bool) : Value := .tuple #[.int .i64 x.1, .int .i64 x.2.1, .bool x.2.2]

end Go.Proofs.YtcofhmikdkkigaaGreatDoor
namespace Go.Proofs.YtcofhmikdkkigaaGreatDoor
open Go.RowKit

def isB (w : World) (b : Nat) : Prop := ∃ cur fz, w.heap[b]? = some (.cells cur 5 fz)
structure FrB (base : Nat) (w w' : World) : Prop where
  os : w'.os = w.os
  tape : w'.tape = w.tape
  output : w'.output = w.output
  size : w.heap.size ≤ w'.heap.size
  block : ∀ b, b < w.heap.size → (b < base ∨ ¬ isB w b) → w'.heap[b]? = w.heap[b]?

theorem FrB.refl (base : Nat) (w : World) : FrB base w w := ⟨rfl, rfl, rfl, Nat.le_refl _, fun _ _ _ => rfl⟩
theorem Fr.toB {w w' : World} (base : Nat) (h : Fr w w') : FrB base w w' := ⟨h.os, h.tape, h.output, h.size, fun b hb _ => h.block b hb (by simp)⟩
theorem FrB.trans {base : Nat} {a b c : World} (h : FrB base a b) (k : FrB base b c) : FrB base a c := by
  refine ⟨k.os.trans h.os, k.tape.trans h.tape, k.output.trans h.output, Nat.le_trans h.size k.size, fun i hi hb => ?_⟩
  have h1 := h.block i hi hb
  rw [← h1]
  refine k.block i (Nat.lt_of_lt_of_le hi h.size) (hb.imp id fun hn => ?_)
  rintro ⟨cur, fz, e⟩
  exact hn ⟨cur, fz, by rw [← h1]; exact e⟩
theorem FrB.lower {base base' : Nat} {w w' : World} (h : FrB base w w') (hb : base' ≤ base) : FrB base' w w' :=
  ⟨h.os, h.tape, h.output, h.size, fun i hi hx => h.block i hi (hx.imp (fun q => by omega) id)⟩
theorem Fr.thenB {a b c : World} {base : Nat} (h : Fr a b) (k : FrB base b c) (hb : a.heap.size ≤ base) : Fr a c :=
  ⟨k.os.trans h.os, k.tape.trans h.tape, k.output.trans h.output, Nat.le_trans h.size k.size, fun i hi _ => (k.block i (Nat.lt_of_lt_of_le hi h.size) (.inl (by omega))).trans (h.block i hi (by simp))⟩

theorem OwnBS.isB {w : World} {base : Nat} {v : Value} {xs : List Int} (h : OwnBS w base v xs) : ∃ g, v.ownBlock = some g ∧ base ≤ g ∧ isB w g := by
  obtain ⟨g, cap, rfl, ho⟩ := h
  rcases ho.1.2 with ⟨e, _⟩ | ⟨g', c', cur, e, hg, h1, h2⟩
  · simp at e
  · simp only [Value.slice.injEq, Option.some.injEq, Addr.mk.injEq, and_true] at e
    obtain ⟨rfl, -, rfl⟩ := e
    exact ⟨g, rfl, hg, cur, _, h1⟩
theorem OwnBS.frB {w w' : World} {base : Nat} {v : Value} {xs : List Int} (h : OwnBS w base v xs) (k : w.grownBy w' v.ownBlock) : FrB base w w' := by
  obtain ⟨g, e, hb, hg⟩ := h.isB
  refine ⟨k.os, k.tape, k.output, k.size, fun i hi hx => k.block i hi ?_⟩
  rw [e]
  intro q
  simp only [Option.some.injEq] at q
  subst q
  rcases hx with hx | hx
  · omega
  · exact hx hg

theorem ReadsB.take {w : World} {ao : Option Addr} {xs : List Int} (h : ReadsB w ao xs) (k : Nat) : ReadsB w ao (xs.take k) := by
  refine ⟨by have := h.len; simp; omega, fun x hx => h.bd x (List.mem_of_mem_take hx), fun i hi => ?_⟩
  simp only [List.length_take] at hi
  obtain ⟨b, off, e, hc⟩ := h.at_ i (by omega)
  refine ⟨b, off, e, fun j hj => ?_⟩
  simp only [List.length_take] at hj
  rw [hc j (by omega)]
  simp [List.getD, show j < k by omega]
theorem ownB_cap {w : World} {base g n cap : Nat} {xs : List Int} (h : OwnB w base (.slice (some ⟨g, 0, none⟩) n cap) xs) : n = xs.length ∧ n ≤ cap := by
  rcases h.1.2 with ⟨e, _⟩ | ⟨g', c', cur, e, _, _, h4, _⟩
  · simp at e
  · simp only [Value.slice.injEq] at e
    obtain ⟨-, rfl, rfl⟩ := e
    exact ⟨rfl, h4⟩
theorem ownB_lit (w : World) (xs : List Int) (hl : xs.length ≤ 4294967296) (hb : ∀ x ∈ xs, U8 x) : OwnBS (w.alloc (.cells (xs.map (Value.int .u8)).toArray 5)) w.heap.size (.slice (some ⟨w.heap.size, 0, none⟩) xs.length xs.length) xs :=
  ⟨w.heap.size, xs.length, rfl, ⟨by simp, .inr ⟨w.heap.size, xs.length, _, rfl, Nat.le_refl _, heap_alloc_new w _, Nat.le_refl _, by unfold maxLen; omega, by simp, by rw [Nat.mul_one]; exact List.take_of_length_le (by simp)⟩⟩, hl, hb⟩
theorem ownB_new (w : World) : OwnBS (w.alloc (.cells #[] 5)) w.heap.size (.slice (some ⟨w.heap.size, 0, none⟩) 0 0) [] := ownB_empty w _ (Nat.le_refl _)

def putA (n : Int) : List Int := if inB 0 4398046511103 n then putL n else []

end Go.Proofs.YtcofhmikdkkigaaGreatDoor
namespace Go.Proofs.YtcofhmikdkkigaaGreatDoor
open Go.RowKit

theorem I64.small {x : Int} (h : 0 ≤ x ∧ x ≤ 65535) : I64 x := ⟨by omega, by omega⟩

theorem own_lit (w : World) (xs : List Int) (hl : xs.length ≤ 4294967296) (hb : ∀ x ∈ xs, I64 x) : OwnS (w.alloc (.cells (xs.map (Value.int .i64)).toArray 2)) w.heap.size (.slice (some ⟨w.heap.size, 0, none⟩) xs.length xs.length) xs :=
  ⟨w.heap.size, xs.length, rfl, ⟨by simp, .inr ⟨w.heap.size, xs.length, _, rfl, Nat.le_refl _, heap_alloc_new w _, Nat.le_refl _, by unfold maxLen; omega, by simp, by rw [Nat.mul_one]; exact List.take_of_length_le (by simp)⟩⟩, hl, hb⟩

def flds (e : Ev) : List Int := [e.o, e.w, e.l, e.s, e.f, e.t]
theorem flds_at (e : Ev) (j : Nat) (h : j < 6) : (flds e).getD j 0 = e.at (j + 2) := by
  rcases (by omega : j = 0 ∨ j = 1 ∨ j = 2 ∨ j = 3 ∨ j = 4 ∨ j = 5) with rfl | rfl | rfl | rfl | rfl | rfl <;> rfl

def nums (e : Ev) (i : Nat) : List Int := e.k :: e.g :: ((List.range i).filter fun j => hasB e.k (2 ^ j)).map fun j => e.at (j + 2)
theorem nums_yes (e : Ev) (i : Nat) (h : hasB e.k (2 ^ i) = true) : nums e (i + 1) = nums e i ++ [e.at (i + 2)] := by
  simp [nums, List.range_succ, List.filter_append, h]
theorem nums_no (e : Ev) (i : Nat) (h : hasB e.k (2 ^ i) = false) : nums e (i + 1) = nums e i := by
  simp [nums, List.range_succ, List.filter_append, h]
theorem nums_len (e : Ev) (i : Nat) : (nums e i).length ≤ i + 2 := by
  have := List.length_filter_le (fun j => hasB e.k (2 ^ j)) (List.range i)
  simp [nums] at this ⊢
  omega
theorem nums_mem (e : Ev) (i : Nat) (x : Int) (h : x ∈ nums e i) : ∃ j, x = e.at j := by
  simp only [nums, List.mem_cons, List.mem_map] at h
  rcases h with rfl | rfl | ⟨j, -, rfl⟩
  · exact ⟨0, rfl⟩
  · exact ⟨1, rfl⟩
  · exact ⟨j + 2, rfl⟩
theorem nums_ev (e : Ev) : (nums e 6).flatMap putL = evL e := by
  rw [nums, evL, numsL, offs, offF, ← List.range_eq_range']
  simp only [List.flatMap_cons, List.flatMap_map]
  rfl
theorem flat_take (L : List Int) (t : Nat) (h : t < L.length) : ((L.take t).flatMap putL) ++ putL L[t] = (L.take (t + 1)).flatMap putL := by
  rw [List.take_succ_eq_append_getElem h, List.flatMap_append]
  simp
theorem flat_len (L : List Int) : (L.flatMap putL).length ≤ L.length * 6 := by
  induction L with
  | nil => simp
  | cons x L ih =>
    have := (putL_len x).2
    rw [List.flatMap_cons, List.length_append, List.length_cons]
    omega

end Go.Proofs.YtcofhmikdkkigaaGreatDoor
namespace Go.Proofs.YtcofhmikdkkigaaGreatDoor
open Go.ChangeShapes Go.WideShapes Go.ChangeAt Go.RowKit

set_option maxRecDepth 20000 in
theorem ev_of_cells {H : Type} {enc : TypeId × Value → H} {W : World} {base : Nat} {sp : Nat → Bool} {held : Bool} {fuel : Nat} {cs : List Value} {x : DataW H × List MemPlace}
    (hf : DataW.trod enc Tryz.prog W base sp held fuel 119 cs = some x) : ∃ e : Ev, cs = evCells e := by
  obtain ⟨xs, m, -, hx, hl, hn, hfs⟩ := DataW.trod_struct Tryz.underlying119 hf
  rw [cells_ev] at hl
  match cs, hl with
  | [c0, c1, c2, c3, c4, c5, c6, c7], _ =>
    match xs, hn with
    | [x0, x1, x2, x3, x4, x5, x6, x7], _ =>
      have h0 := hfs 0 _ rfl
      have h1 := hfs 1 _ rfl
      have h2 := hfs 2 _ rfl
      have h3 := hfs 3 _ rfl
      have h4 := hfs 4 _ rfl
      have h5 := hfs 5 _ rfl
      have h6 := hfs 6 _ rfl
      have h7 := hfs 7 _ rfl
      simp [cells_int64] at h0 h1 h2 h3 h4 h5 h6 h7
      obtain ⟨n0, e0, -, w0⟩ := DataW.trod_int Tryz.underlying2 h0
      obtain ⟨n1, e1, -, w1⟩ := DataW.trod_int Tryz.underlying2 h1
      obtain ⟨n2, e2, -, w2⟩ := DataW.trod_int Tryz.underlying2 h2
      obtain ⟨n3, e3, -, w3⟩ := DataW.trod_int Tryz.underlying2 h3
      obtain ⟨n4, e4, -, w4⟩ := DataW.trod_int Tryz.underlying2 h4
      obtain ⟨n5, e5, -, w5⟩ := DataW.trod_int Tryz.underlying2 h5
      obtain ⟨n6, e6, -, w6⟩ := DataW.trod_int Tryz.underlying2 h6
      obtain ⟨n7, e7, -, w7⟩ := DataW.trod_int Tryz.underlying2 h7
      simp at e0 e1 e2 e3 e4 e5 e6 e7
      subst e0 e1 e2 e3 e4 e5 e6 e7
      exact ⟨⟨n0, n1, n2, n3, n4, n5, n6, n7⟩, rfl⟩

theorem list_of {α : Type} (n : Nat) (P : Nat → α → Prop) (h : ∀ i, i < n → ∃ x, P i x) : ∃ l : List α, l.length = n ∧ ∀ i (hi : i < l.length), P i l[i] := by
  induction n with
  | zero => exact ⟨[], rfl, by simp⟩
  | succ n ih =>
    obtain ⟨l, hl, hp⟩ := ih (fun i hi => h i (by omega))
    obtain ⟨x, hx⟩ := h n (by omega)
    refine ⟨l ++ [x], by simp [hl], fun i hi => ?_⟩
    by_cases hin : i < l.length
    · rw [List.getElem_append_left hin]; exact hp i hin
    · have : i = n := by simp at hi; omega
      subst this
      rw [List.getElem_append_right (by omega)]
      simpa [hl] using hx

def IsEvs (w : World) (ao : Option Addr) (len : Nat) : Prop := len ≤ maxLen ∧ ∃ es : List Ev, es.length = len ∧ (len ≤ 16777216 → ReadsE w ao es)

theorem evs_of_arg {H : Type} {enc : TypeId × Value → H} {W : World} {base : Nat} {sp : Nat → Bool} {held : Bool} {ao : Option Addr} {len cap : Nat} {d : DataW H} {p : List MemPlace}
    (h : DataW.Trod enc Tryz.prog W base sp held 56 (.slice ao len cap) d p) : IsEvs W ao len := by
  obtain ⟨fuel, hf⟩ := h
  rcases DataW.trod_slice Tryz.underlying56 hf with ⟨hcs, _⟩ | ⟨a, l, c, elems, rest, n, -, hcs, -, hb, hlc, hcm, hel, hat, -, -⟩
  · simp [Value.cells] at hcs
    obtain ⟨rfl, rfl, rfl⟩ := hcs
    exact ⟨by unfold maxLen; omega, [], rfl, fun _ => ReadsE.nil _ _⟩
  · simp [Value.cells] at hcs
    obtain ⟨rfl, rfl, rfl⟩ := hcs
    rw [cells_ev] at hat
    have each : ∀ i, i < len → ∃ e : Ev, ∀ k, k < 8 → W.cell? ((a.add (i * 8)).add k) = (evCells e)[k]? := by
      intro i hi
      have h1 := hat i hi
      rw [List.getElem?_eq_getElem (by omega)] at h1
      obtain ⟨cs, hcs, htr⟩ := Option.bind_eq_some_iff.1 h1
      obtain ⟨e, rfl⟩ := ev_of_cells htr
      refine ⟨e, fun k hk => ?_⟩
      exact (World.cells?_some hcs).2.2 k hk
    obtain ⟨es, hl, he⟩ := list_of len _ each
    refine ⟨by omega, es, hl, fun hlen => ⟨by omega, fun i hi => ?_⟩⟩
    obtain ⟨b, off, spot⟩ := a
    have hi0 : 0 < es.length := by omega
    have hc := he 0 hi0 0 (by omega)
    have hspot : spot = none := by
      have h2 : W.cell? (((⟨b, off, spot⟩ : Addr).add (0 * 8)).add 0) = some (.int .i64 es[0].k) := hc
      have := World.cell?_spot h2
      simpa [Addr.add] using this
    subst hspot
    refine ⟨b, off, rfl, fun j hj => EvC.of fun k hk => ?_⟩
    have := he j hj k hk
    rw [Addr.add_lit, Addr.add_lit] at this
    exact this
end Go.Proofs.YtcofhmikdkkigaaGreatDoor
