/-
  Slices of int64 in memory: what it is that one reads as a list of numbers, that a call owns one, and how both outlast what other calls do.
-/
import Derived.Test.YtihdablgnmkjnaaGreatDoorRows
import Derived.WalkKit
import Derived.WalkLawsBesides
import Derived.Below
import Derived.BigQuiet
import Derived.Deep.QuietTactic
import Derived.OpenShut
import Derived.ProofKit
import Derived.LaidMore
import Derived.Stop.Joined
import Derived.OpenVars
import Derived.Laws.AppendOwnNone
namespace Go.Proofs.YtihdablgnmkjnaaGreatDoor
open Go.RowKit

/-- Only new blocks: what was there is as it was. -/
def Fr (w w' : World) : Prop := w.grownBy w' none

theorem Fr.refl (w : World) : Fr w w := ⟨rfl, rfl, rfl, Nat.le_refl _, fun _ _ _ => rfl⟩
theorem Fr.trans {a b c : World} (h : Fr a b) (k : Fr b c) : Fr a c :=
  ⟨k.os.trans h.os, k.tape.trans h.tape, k.output.trans h.output, Nat.le_trans h.size k.size, fun i hi _ => (k.block i (Nat.lt_of_lt_of_le hi h.size) (by simp)).trans (h.block i hi (by simp))⟩
theorem Fr.drewN (w : World) (n : Nat) : Fr w (w.drewN n) := ⟨rfl, rfl, rfl, Nat.le_refl _, fun _ _ _ => rfl⟩
theorem drew2 (w : World) (a b : Nat) : (w.drewN a).drewN b = w.drewN (a + b) := by simp [World.drewN, Nat.add_assoc]
theorem Fr.drew (w : World) : Fr w w.drew := ⟨rfl, rfl, rfl, Nat.le_refl _, fun _ _ _ => rfl⟩
theorem Fr.alloc (w : World) (o : Obj) : Fr w (w.alloc o) := World.grownBy_alloc w o none
/-- Behind new blocks alone, a write into one of those. -/
theorem Fr.then {a b c : World} {row : Option Nat} (h : Fr a b) (k : b.grownBy c row) (hr : ∀ j, row = some j → a.heap.size ≤ j) : Fr a c :=
  ⟨k.os.trans h.os, k.tape.trans h.tape, k.output.trans h.output, Nat.le_trans h.size k.size,
    fun i hi _ => (k.block i (Nat.lt_of_lt_of_le hi h.size) (fun e => by have := hr i e.symm; omega)).trans (h.block i hi (by simp))⟩
theorem Fr.below {w w' : World} (h : Fr w w') : Below w.heap.size w w' := ⟨h.os, h.tape, h.output, h.size, fun k hk => h.block k hk (by simp)⟩
theorem Fr.cell {w w' : World} (h : Fr w w') {p : Addr} {v : Value} (hc : w.cell? p = some v) : w'.cell? p = some v := World.grownBy.cell h hc (by simp)

/-- The greatest and the least int64. -/
def I64 (x : Int) : Prop := -9223372036854775808 ≤ x ∧ x ≤ 9223372036854775807

/-- A slice at the address ao reads as the numbers xs. -/
structure Reads (w : World) (ao : Option Addr) (xs : List Int) : Prop where
  len : xs.length ≤ 4294967296
  bd : ∀ x ∈ xs, I64 x
  at_ : ∀ i, i < xs.length → ∃ b off, ao = some ⟨b, off, none⟩ ∧ ∀ j, j < xs.length → w.cell? ⟨b, off + j, none⟩ = some (.int .i64 (xs.getD j 0))

theorem Reads.nil (w : World) (ao : Option Addr) : Reads w ao [] := ⟨by simp, by simp, by simp⟩

theorem Reads.bdAt {w : World} {ao : Option Addr} {xs : List Int} (h : Reads w ao xs) (i : Nat) : I64 (xs.getD i 0) := by
  by_cases hi : i < xs.length
  · rw [List.getD_eq_getElem?_getD, List.getElem?_eq_getElem hi]; exact h.bd _ (List.getElem_mem hi)
  · rw [List.getD_eq_getElem?_getD, List.getElem?_eq_none (by omega)]; exact ⟨by decide, by decide⟩

/-- The block of a slice's address. -/
def blk (ao : Option Addr) : Option Nat := ao.map (·.block)

theorem Reads.keep {w w' : World} {ao : Option Addr} {xs : List Int} {row : Option Nat} (h : Reads w ao xs) (k : w.grownBy w' row) (hne : row = none ∨ blk ao ≠ row) : Reads w' ao xs := by
  refine ⟨h.len, h.bd, fun i hi => ?_⟩
  obtain ⟨b, off, e, hc⟩ := h.at_ i hi
  refine ⟨b, off, e, fun j hj => k.cell (hc j hj) ?_⟩
  rcases hne with rfl | hne
  · simp
  · intro hh
    apply hne
    rw [e, ← hh]
    rfl
theorem Reads.fr {w w' : World} {ao : Option Addr} {xs : List Int} (h : Reads w ao xs) (k : Fr w w') : Reads w' ao xs := h.keep k (.inl rfl)

/-- A slice that came in, as the frame of a law tells it, reads as its first numbers. -/
theorem reads_of_row {w : World} {a : Option Addr} {len cap : Nat} {zs : List Int}
    (h : (a = none ∧ len = 0 ∧ cap = 0 ∧ zs = []) ∨ ∃ x, a = some x ∧ len ≤ cap ∧ cap ≤ maxLen ∧ zs.length = cap ∧ (∀ i, i < zs.length → w.cell? (x.add i) = some (.int .i64 (zs.getD i 0))) ∧ ∀ n ∈ zs, (Lit.int .i64 n).wf = true)
    (hl : len ≤ 4294967296) : Reads w a (zs.take len) ∧ (zs.take len).length = len := by
  rcases h with ⟨rfl, rfl, rfl, rfl⟩ | ⟨x, rfl, h1, h2, h3, h4, h5⟩
  · exact ⟨Reads.nil _ _, rfl⟩
  · have hlen : (zs.take len).length = len := by simp; omega
    refine ⟨⟨by omega, fun x hx => ?_, fun i hi => ?_⟩, hlen⟩
    · have := bounds_i64 (h5 x (List.mem_of_mem_take hx))
      exact ⟨by omega, by omega⟩
    · rw [hlen] at hi
      obtain ⟨b, off, spot⟩ := x
      have hc := h4 0 (by omega)
      have hspot : spot = none := by
        have := World.cell?_spot hc
        simpa [Addr.add] using this
      subst hspot
      refine ⟨b, off, rfl, fun j hj => ?_⟩
      rw [hlen] at hj
      have := h4 j (by omega)
      simp only [List.getD_eq_getElem?_getD, List.getElem?_take, if_pos hj] at this ⊢
      have e : (⟨b, off, none⟩ : Addr).add j = ⟨b, off + j, none⟩ := by
        by_cases h0 : j = 0
        · subst h0; rfl
        · simp [Addr.add, h0]
      rwa [e] at this

/-- The slice of xs that a call owns: it begins at the head of the block g, which lies from base on. -/
def OwnI (w : World) (base : Nat) (v : Value) (xs : List Int) : Prop :=
  w.ownsRow base 2 1 v xs.length (xs.map (Value.int .i64)) ∧ xs.length ≤ 4294967296 ∧ ∀ x ∈ xs, I64 x

theorem OwnI.reads {w : World} {base : Nat} {g n cap : Nat} {xs : List Int} (h : OwnI w base (.slice (some ⟨g, 0, none⟩) n cap) xs) : Reads w (some ⟨g, 0, none⟩) xs := by
  obtain ⟨ho, hl, hb⟩ := h
  have hn : n = xs.length := by
    rcases ho.2 with ⟨e, _⟩ | ⟨g', c', cur, e, _⟩
    · simp at e
    · simp at e; exact e.2.1
  subst hn
  refine ⟨hl, hb, fun i _ => ⟨g, 0, rfl, fun j hj => ?_⟩⟩
  have := ho.cellAt j (by simpa using hj)
  simp only [Nat.zero_add]
  rw [this]
  simp [List.getElem?_eq_getElem hj, List.getD]

theorem getD_at {xs : List Int} {k : Nat} (h : k < xs.length) : xs.getD k 0 = xs[k] := by
  rw [List.getD_eq_getElem?_getD, List.getElem?_eq_getElem h]; rfl

theorem Tryz.info2 : (Tryz.prog.info? 2).map (fun i => (i.zero, i.size, i.bytes)) = some (some (.int .i64 0), 1, 8) := by kernel_rfl

/-- eqInt64S and likeInts answer whether two lists are alike. -/
theorem eq_step {a b : List Int} {k : Nat} (hab : a.length = b.length) (hk : k < a.length) (h : a.take k = b.take k) (e : a[k] = b[k]'(by omega)) : a.take (k + 1) = b.take (k + 1) := by
  rw [List.take_succ_eq_append_getElem hk, List.take_succ_eq_append_getElem (by omega : k < b.length), h, e]

theorem ne_of_at {a b : List Int} {k : Nat} (hk : k < a.length) (hk' : k < b.length) (e : a[k] ≠ b[k]) : (decide (a = b)) = false := by
  simp only [decide_eq_false_iff_not]
  intro h; subst h; exact e rfl
end Go.Proofs.YtihdablgnmkjnaaGreatDoor
/-
  The range tests: l1In of the specification, gorInRange and tickInRange of the program.
-/
namespace Go.Proofs.YtihdablgnmkjnaaGreatDoor
open Go.RowKit

/-- Is x from lo to hi? -/
def inB (lo hi x : Int) : Bool := decide (lo ≤ x) && decide (x ≤ hi)

theorem inB_true {lo hi x : Int} (h : inB lo hi x = true) : lo ≤ x ∧ x ≤ hi := by simpa [inB] using h
theorem inB_mk {lo hi x : Int} (h1 : lo ≤ x) (h2 : x ≤ hi) : inB lo hi x = true := by simp [inB, h1, h2]
theorem inB_not {lo hi x : Int} (h : x < lo ∨ hi < x) : inB lo hi x = false := by
  simp only [inB, Bool.and_eq_false_iff, decide_eq_false_iff_not]; omega
theorem inB_false {lo hi x : Int} (h : inB lo hi x = false) : x < lo ∨ hi < x := by
  simp only [inB, Bool.and_eq_false_iff, decide_eq_false_iff_not] at h; omega

theorem ret_int {k : IntKind} {a b : Int} (h : a = b) : Ending.returned (.int k a) = .returned (.int k b) := by rw [h]
theorem ret_bool {a b : Bool} (h : a = b) : Ending.returned (.bool a) = .returned (.bool b) := by rw [h]

theorem l1In_any (x lo hi : Int) (w : World) :
    Calls Tryz.prog 49 #[.int .i64 x, .int .i64 lo, .int .i64 hi] w fun e w' => e = .returned (.bool (inB lo hi x)) ∧ w' = w := by
  by_cases h : lo ≤ x
  · by_cases h2 : x ≤ hi
    · rw [inB_mk h h2]
      go_enter Tryz.func49, Tryz.ntmps49
      go_wp2
      go_ret
      exact ⟨rfl, rfl⟩
    · rw [inB_not (by omega)]
      go_enter Tryz.func49, Tryz.ntmps49
      go_wp2
      go_ret
      exact ⟨rfl, rfl⟩
  · rw [inB_not (by omega)]
    go_enter Tryz.func49, Tryz.ntmps49
    go_wp2
    go_ret
    exact ⟨rfl, rfl⟩

theorem gorIn_any (x : Int) (w : World) :
    Calls Tryz.prog 133 #[.int .i64 x] w fun e w' => e = .returned (.bool (inB 0 15 x)) ∧ w' = w := by
  by_cases h : 0 ≤ x
  · by_cases h2 : x < 16
    · rw [inB_mk h (by omega)]
      go_enter Tryz.func133, Tryz.ntmps133
      go_wp2
      go_ret
      exact ⟨rfl, rfl⟩
    · rw [inB_not (by omega)]
      go_enter Tryz.func133, Tryz.ntmps133
      go_wp2
      go_ret
      exact ⟨rfl, rfl⟩
  · rw [inB_not (by omega)]
    go_enter Tryz.func133, Tryz.ntmps133
    go_wp2
    go_ret
    exact ⟨rfl, rfl⟩

end Go.Proofs.YtihdablgnmkjnaaGreatDoor
/-
  Events: what is asked of each field by the Kind; the small callees of both EventOks.
-/
namespace Go.Proofs.YtihdablgnmkjnaaGreatDoor
open Go.RowKit

/-- An event's eight numbers: Kind, Gor, Obj, With, Lo, Size, Fn, Site. -/
structure Ev where
  (k g o w l s f t : Int)

/-- What the Kinds from 1 on have, as a sum. -/
def fldN (n : Nat) : Int := [1, 1, 1, 1, 1, 9, 1, 1, 3, 1, 1, 9, 1, 1, 1, 1, 1, 1, 1, 60, 60, 12].getD n 0
def fldV (k : Int) : Int := if inB 1 22 k then fldN (k - 1).toNat else -1
/-- The least Size of a Kind, and the greatest. -/
def loV (k : Int) : Int := if k = 12 ∨ k = 20 ∨ k = 21 ∨ k = 22 then 1 else 0
def hiV (k : Int) : Int := if k = 6 then 8 else if k = 12 then 9 else if k = 20 ∨ k = 21 then 8 else if k = 22 then 64 else 0
/-- Has the Kind that field? -/
def hasB (k d : Int) : Bool := ((fldV k).tdiv d).tmod 2 == 1
/-- A field that the Kind has is in range, one that it has not is 0. -/
def fitB (h : Bool) (n lo hi : Int) : Bool := if h then inB lo hi n else n == 0
/-- The six fields' tests. -/
def ev1 (e : Ev) : Bool := fitB (hasB e.k 1) e.o 0 15
def ev2 (e : Ev) : Bool := fitB (hasB e.k 2) e.w 0 15
def ev3 (e : Ev) : Bool := fitB (hasB e.k 4) e.l 0 65535
def ev4 (e : Ev) : Bool := fitB (hasB e.k 8) e.s (loV e.k) (hiV e.k)
def ev5 (e : Ev) : Bool := fitB (hasB e.k 16) e.f 0 999
def ev6 (e : Ev) : Bool := fitB (hasB e.k 32) e.t 0 999
/-- EventOk. -/
def evOk (e : Ev) : Bool := inB 1 22 e.k && inB 0 15 e.g && ev1 e && ev2 e && ev3 e && ev4 e && ev5 e && ev6 e

theorem kinds {k : Int} (h : inB 1 22 k = true) : ∃ n : Nat, n < 22 ∧ k = (n : Int) + 1 := by
  have := inB_true h
  exact ⟨(k - 1).toNat, by omega, by omega⟩

theorem fldV_at (n : Nat) (h : n < 22) : fldV ((n : Int) + 1) = fldN n := by
  rw [fldV, if_pos (inB_mk (by omega) (by omega))]
  congr 1
  omega
theorem fldN_in (n : Nat) : 0 ≤ fldN n ∧ fldN n ≤ 60 := by
  by_cases h : n < 22
  · exact (by decide : ∀ m, m < 22 → 0 ≤ fldN m ∧ fldN m ≤ 60) n h
  · rw [fldN, List.getD_eq_getElem?_getD, List.getElem?_eq_none (by simp; omega)]; decide
theorem fldV_in (k : Int) : -1 ≤ fldV k ∧ fldV k ≤ 60 := by
  rw [fldV]; split
  · have := fldN_in (k - 1).toNat; omega
  · omega

/-- The program asks by a mask. -/
theorem mask_has (n : Nat) (h : n < 22) (d : Int) (hd : d ∈ ([1, 2, 4, 8, 16, 32] : List Int)) : (bits .and .i64 (fldN n) d == 0) = !hasB ((n : Int) + 1) d := by
  rw [hasB, fldV_at n h]
  exact (by decide +kernel : ∀ m, m < 22 → ∀ d ∈ ([1, 2, 4, 8, 16, 32] : List Int), (bits .and .i64 (fldN m) d == 0) = !(((fldN m).tdiv d).tmod 2 == 1)) n h d hd

theorem kindIn_any (x : Int) (w : World) :
    Calls Tryz.prog 132 #[.int .i64 x] w fun e w' => e = .returned (.bool (inB 1 22 x)) ∧ w' = w := by
  by_cases h : 1 ≤ x
  · by_cases h2 : x ≤ 22
    · rw [inB_mk h (by omega)]
      go_enter Tryz.func132, Tryz.ntmps132
      go_wp2
      go_ret
      exact ⟨rfl, rfl⟩
    · rw [inB_not (by omega)]
      go_enter Tryz.func132, Tryz.ntmps132
      go_wp2
      go_ret
      exact ⟨rfl, rfl⟩
  · rw [inB_not (by omega)]
    go_enter Tryz.func132, Tryz.ntmps132
    go_wp2
    go_ret
    exact ⟨rfl, rfl⟩

theorem mostObj_any (x : Int) (w : World) :
    Calls Tryz.prog 135 #[.int .i64 x] w fun e w' => e = .returned (.int .i64 15) ∧ w' = w := by
  by_cases h : x = 1
  · subst h
    go_enter Tryz.func135, Tryz.ntmps135
    go_wp2
    go_ret
    exact ⟨rfl, rfl⟩
  · go_enter Tryz.func135, Tryz.ntmps135
    go_wp2
    go_ret
    exact ⟨rfl, rfl⟩

/-- One test of the program's, on a row of its table. -/
theorem fits_any (F L M d n lo hi : Int) (h : Bool) (hh : (bits .and .i64 F d == 0) = !h) (w : World) :
    Calls Tryz.prog 134 #[.agg #[.int .i64 F, .int .i64 L, .int .i64 M], .int .i64 d, .int .i64 n, .int .i64 lo, .int .i64 hi] w fun e w' => e = .returned (.bool (fitB h n lo hi)) ∧ Fr w w' := by
  cases h
  · simp only [Bool.not_false] at hh
    go_enter Tryz.func134, Tryz.ntmps134
    go_wp2
    go_ret
    exact ⟨rfl, Fr.alloc _ _⟩
  · simp only [Bool.not_true] at hh
    by_cases h1 : lo ≤ n
    · by_cases h2 : n ≤ hi
      · go_enter Tryz.func134, Tryz.ntmps134
        go_wp2
        go_ret
        exact ⟨ret_bool (by rw [fitB, if_pos rfl, inB_mk h1 h2]), Fr.alloc _ _⟩
      · go_enter Tryz.func134, Tryz.ntmps134
        go_wp2
        go_ret
        exact ⟨ret_bool (by rw [fitB, if_pos rfl, inB_not (by omega)]), Fr.alloc _ _⟩
    · go_enter Tryz.func134, Tryz.ntmps134
      go_wp2
      go_ret
      exact ⟨ret_bool (by rw [fitB, if_pos rfl, inB_not (by omega)]), Fr.alloc _ _⟩

/-- One of some numbers that lie in a block of their own, by its place. -/
theorem lit_at {w : World} {t : TypeId} (zs : List Int) (k : Nat) (hk : k < zs.length) :
    (w.alloc (.cells (zs.map (Value.int .i64)).toArray t)).cell? ⟨w.heap.size, k, none⟩ = some (.int .i64 (zs.getD k 0)) := by
  rw [cell_of_row _ _ _ _ _ _ (heap_alloc_new w _)]
  simp [hk]

theorem specFields_any (k : Int) (w : World) :
    Calls Tryz.prog 109 #[.int .i64 k] w fun e w' => e = .returned (.int .i64 (fldV k)) ∧ Fr w w' := by
  cases h : inB 1 22 k
  · have e : fldV k = -1 := by rw [fldV, h]; rfl
    rw [e]
    clear e
    have c1 := fun w => l1In_any k 1 22 w
    simp only [h] at c1
    clear h
    go_enter Tryz.func109, Tryz.ntmps109
    go_wp2_with fail
    refine (c1 _).mono ?_
    rintro e w1 ⟨rfl, rfl⟩
    go_wp2_with fail
    go_ret
    exact ⟨rfl, Fr.refl _⟩
  · have c1 := fun w => l1In_any k 1 22 w
    simp only [h] at c1
    obtain ⟨n, hn, rfl⟩ := kinds h
    rw [fldV_at n hn]
    clear h
    have hc := lit_at (w := w) (t := 2) [1, 1, 1, 1, 1, 9, 1, 1, 3, 1, 1, 9, 1, 1, 1, 1, 1, 1, 1, 60, 60, 12] n hn
    change _ = some (Value.int IntKind.i64 (fldN n)) at hc
    obtain ⟨z, hz⟩ : ∃ z, z = fldN n := ⟨_, rfl⟩
    rw [← hz] at hc ⊢
    clear hz
    simp only [List.map_cons, List.map_nil] at hc
    go_enter Tryz.func109, Tryz.ntmps109
    go_wp2_with fail
    refine (c1 _).mono ?_
    rintro e w1 ⟨rfl, rfl⟩
    go_wp2_with fail
    go_ret
    exact ⟨rfl, Fr.alloc _ _⟩
end Go.Proofs.YtihdablgnmkjnaaGreatDoor
/-
  A region that draws its order and whose callees make new blocks alone: one walk, in the order of the text, serves every order.
-/
namespace Go.Proofs.YtihdablgnmkjnaaGreatDoor
open Go.RowKit

/-- A world that is w and new blocks. -/
structure Later (w : World) where
  u : World
  fr : Fr w u

theorem Later.some (w : World) : Nonempty (Later w) := ⟨⟨w, Fr.refl w⟩⟩

theorem wp_region_grown {P : Program} {id : Nat} {Q : Exit → Act → World → Prop} {a : Act} {w : World} {l : List Oper} (hm : P.follows .mixedOrders = true) (hB : Region.lexB .any l.toArray = true)
    (h : wpQuiet P l.toArray (fun w' => ∃ s : Later w, w' = s.u) (fun a' => ∀ w', (∃ s : Later w, w' = s.u) → Q .normal a' w') l a) : (Code.region id l.toArray true).wp P Q a w :=
  wp_region_quiet (C := fun w' => ∃ s : Later w, w' = s.u) hm hB ⟨⟨w.drew, Fr.drew w⟩, rfl⟩ (by simpa using h)

theorem Calls.grown_of {P : Program} {f : FuncId} {args : Array Value} {w : World} {s : Later w} {v : Value}
    (h : Calls P f args s.u fun e w' => e = .returned v ∧ Fr s.u w') : Calls P f args s.u fun e w'' => e = .returned v ∧ ∃ s' : Later w, w'' = s'.u :=
  h.mono fun _ w' ⟨he, hf⟩ => ⟨he, ⟨w', s.fr.trans hf⟩, rfl⟩
theorem Calls.grown_same {P : Program} {f : FuncId} {args : Array Value} {w : World} {s : Later w} {v : Value}
    (h : Calls P f args s.u fun e w' => e = .returned v ∧ w' = s.u) : Calls P f args s.u fun e w'' => e = .returned v ∧ ∃ s' : Later w, w'' = s'.u :=
  h.mono fun _ _ ⟨he, hm⟩ => ⟨he, s, hm⟩
end Go.Proofs.YtihdablgnmkjnaaGreatDoor
/-
  The program's EventOk, over its table.
-/
namespace Go.Proofs.YtihdablgnmkjnaaGreatDoor
open Go.RowKit

/-- The program's table lies as its text lays it: a row of three for each Kind. -/
def Shapes (w : World) : Prop := ∀ n : Nat, n < 22 → w.cell? ⟨0, (n + 1) * 3, none⟩ = some (.int .i64 (fldN n)) ∧
  w.cell? ⟨0, (n + 1) * 3 + 1, none⟩ = some (.int .i64 (loV ((n : Int) + 1))) ∧ w.cell? ⟨0, (n + 1) * 3 + 2, none⟩ = some (.int .i64 (hiV ((n : Int) + 1)))

theorem Shapes.keep {w w' : World} {row : Option Nat} (h : Shapes w) (k : w.grownBy w' row) (hr : row ≠ some 0) : Shapes w' := fun n hn => by
  obtain ⟨h1, h2, h3⟩ := h n hn
  exact ⟨k.cell h1 (fun e => hr e.symm), k.cell h2 (fun e => hr e.symm), k.cell h3 (fun e => hr e.symm)⟩
theorem Shapes.fr {w w' : World} (h : Shapes w) (k : Fr w w') : Shapes w' := h.keep k (by simp)

set_option maxHeartbeats 2000000 in
theorem implOk_any (e : Ev) (w : World) (hs : Shapes w) :
    Calls Tryz.prog 67 #[.agg #[.int .i64 e.k, .int .i64 e.g, .int .i64 e.o, .int .i64 e.w, .int .i64 e.l, .int .i64 e.s, .int .i64 e.f, .int .i64 e.t]] w fun x w' => x = .returned (.bool (evOk e)) ∧ Fr w w' := by
  have ck := fun w => kindIn_any e.k w
  have cg := fun w => gorIn_any e.g w
  cases hk : inB 1 22 e.k
  · have hv : evOk e = false := by simp [evOk, hk]
    rw [hv]
    simp only [hk] at ck
    clear hv hk hs cg
    go_enter Tryz.func67, Tryz.ntmps67
    go_wp2_with fail
    refine (ck _).mono ?_
    rintro e w1 ⟨rfl, rfl⟩
    go_wp2_with fail
    go_ret
    exact ⟨rfl, Fr.alloc _ _⟩
  cases hg : inB 0 15 e.g
  · have hv : evOk e = false := by simp [evOk, hg]
    rw [hv]
    simp only [hk] at ck
    simp only [hg] at cg
    clear hv hk hs hg
    go_enter Tryz.func67, Tryz.ntmps67
    go_wp2_with fail
    refine (ck _).mono ?_
    rintro e w1 ⟨rfl, rfl⟩
    go_wp2_with fail
    refine (cg _).mono ?_
    rintro e w1 ⟨rfl, rfl⟩
    go_wp2_with fail
    go_ret
    exact ⟨rfl, Fr.alloc _ _⟩
  simp only [hk] at ck
  simp only [hg] at cg
  have hv : evOk e = (ev1 e && ev2 e && ev3 e && ev4 e && ev5 e && ev6 e) := by simp [evOk, hk, hg]
  rw [hv]
  clear hv
  obtain ⟨n, hn, hkn⟩ := kinds hk
  obtain ⟨h1, h2, h3⟩ := hs n hn
  have hw0 : 0 < w.heap.size := World.block_lt_of_cell? w _ h1
  obtain ⟨z, hz⟩ : ∃ z, z = fldN n := ⟨_, rfl⟩
  obtain ⟨lo, hlo⟩ : ∃ z, z = loV ((n : Int) + 1) := ⟨_, rfl⟩
  obtain ⟨hi, hhi⟩ : ∃ z, z = hiV ((n : Int) + 1) := ⟨_, rfl⟩
  rw [← hz] at h1
  rw [← hlo] at h2
  rw [← hhi] at h3
  obtain ⟨k, g, o, wi, l, sz, f, t⟩ := e
  simp only at hkn ck cg ⊢
  subst hkn
  have m := mask_has n hn
  rw [← hz] at m
  have c1 := fun w => fits_any z lo hi 1 o 0 15 _ (m 1 (by simp)) w
  have c2 := fun w => fits_any z lo hi 2 wi 0 15 _ (m 2 (by simp)) w
  have c3 := fun w => fits_any z lo hi 4 l 0 65535 _ (m 4 (by simp)) w
  have c4 := fun w => fits_any z lo hi 8 sz lo hi _ (m 8 (by simp)) w
  have c5 := fun w => fits_any z lo hi 16 f 0 999 _ (m 16 (by simp)) w
  have c6 := fun w => fits_any z lo hi 32 t 0 999 _ (m 32 (by simp)) w
  unfold ev1 ev2 ev3 ev4 ev5 ev6
  simp only
  rw [← hlo, ← hhi]
  obtain ⟨b1, e1⟩ : ∃ b, b = fitB (hasB ((n : Int) + 1) 1) o 0 15 := ⟨_, rfl⟩
  obtain ⟨b2, e2⟩ : ∃ b, b = fitB (hasB ((n : Int) + 1) 2) wi 0 15 := ⟨_, rfl⟩
  obtain ⟨b3, e3⟩ : ∃ b, b = fitB (hasB ((n : Int) + 1) 4) l 0 65535 := ⟨_, rfl⟩
  obtain ⟨b4, e4⟩ : ∃ b, b = fitB (hasB ((n : Int) + 1) 8) sz lo hi := ⟨_, rfl⟩
  obtain ⟨b5, e5⟩ : ∃ b, b = fitB (hasB ((n : Int) + 1) 16) f 0 999 := ⟨_, rfl⟩
  obtain ⟨b6, e6⟩ : ∃ b, b = fitB (hasB ((n : Int) + 1) 32) t 0 999 := ⟨_, rfl⟩
  simp only [← e1] at c1 ⊢
  simp only [← e2] at c2 ⊢
  simp only [← e3] at c3 ⊢
  simp only [← e4] at c4 ⊢
  simp only [← e5] at c5 ⊢
  simp only [← e6] at c6 ⊢
  clear e1 e2 e3 e4 e5 e6 m hz hlo hhi hs hk hg
  go_enter Tryz.func67, Tryz.ntmps67
  go_wp2_with fail
  refine (ck _).mono ?_
  rintro e w1 ⟨rfl, rfl⟩
  go_wp2_with fail
  refine (cg _).mono ?_
  rintro e w1 ⟨rfl, rfl⟩
  go_wp2_with fail
  obtain ⟨W, hW⟩ : ∃ W, W = (w.alloc (.cells #[.int .i64 ((n : Int) + 1), .int .i64 g, .int .i64 o, .int .i64 wi, .int .i64 l, .int .i64 sz, .int .i64 f, .int .i64 t] 31)).alloc (.cells #[.int .i64 z, .int .i64 lo, .int .i64 hi] 165) := ⟨_, rfl⟩
  rw [← hW]
  have fW : Fr w W := by rw [hW]; exact (Fr.alloc _ _).trans (Fr.alloc _ _)
  have d0 : ∀ s : Later W, s.u.cell? ⟨w.heap.size, 0, none⟩ = some (.int .i64 ((n : Int) + 1)) := fun s => s.fr.cell (by rw [hW]; go_simp)
  have d1 : ∀ s : Later W, s.u.cell? ⟨w.heap.size, 1, none⟩ = some (.int .i64 g) := fun s => s.fr.cell (by rw [hW]; go_simp)
  have d2 : ∀ s : Later W, s.u.cell? ⟨w.heap.size, 2, none⟩ = some (.int .i64 o) := fun s => s.fr.cell (by rw [hW]; go_simp)
  have d3 : ∀ s : Later W, s.u.cell? ⟨w.heap.size, 3, none⟩ = some (.int .i64 wi) := fun s => s.fr.cell (by rw [hW]; go_simp)
  have d4 : ∀ s : Later W, s.u.cell? ⟨w.heap.size, 4, none⟩ = some (.int .i64 l) := fun s => s.fr.cell (by rw [hW]; go_simp)
  have d5 : ∀ s : Later W, s.u.cell? ⟨w.heap.size, 5, none⟩ = some (.int .i64 sz) := fun s => s.fr.cell (by rw [hW]; go_simp)
  have d6 : ∀ s : Later W, s.u.cell? ⟨w.heap.size, 6, none⟩ = some (.int .i64 f) := fun s => s.fr.cell (by rw [hW]; go_simp)
  have d7 : ∀ s : Later W, s.u.cell? ⟨w.heap.size, 7, none⟩ = some (.int .i64 t) := fun s => s.fr.cell (by rw [hW]; go_simp)
  have q0 : ∀ s : Later W, s.u.cell? ⟨w.heap.size + 1, 0, none⟩ = some (.int .i64 z) := fun s => s.fr.cell (by rw [hW]; go_simp)
  have q1 : ∀ s : Later W, s.u.cell? ⟨w.heap.size + 1, 1, none⟩ = some (.int .i64 lo) := fun s => s.fr.cell (by rw [hW]; go_simp)
  have q2 : ∀ s : Later W, s.u.cell? ⟨w.heap.size + 1, 2, none⟩ = some (.int .i64 hi) := fun s => s.fr.cell (by rw [hW]; go_simp)
  clear hW h1 h2 h3 hw0 ck cg hn
  have := Later.some W
  have hb : b1 = false ∨ (b1 = true ∧ b2 = false) ∨ (b1 = true ∧ b2 = true ∧ b3 = false) ∨ (b1 = true ∧ b2 = true ∧ b3 = true ∧ b4 = false) ∨ (b1 = true ∧ b2 = true ∧ b3 = true ∧ b4 = true ∧ b5 = false) ∨ (b1 = true ∧ b2 = true ∧ b3 = true ∧ b4 = true ∧ b5 = true) := by
    cases b1 <;> cases b2 <;> cases b3 <;> cases b4 <;> cases b5 <;> simp
  refine wp_region_grown (by kernel_rfl) (by kernel_rfl) ?_
  rcases hb with rfl | ⟨rfl, rfl⟩ | ⟨rfl, rfl, rfl⟩ | ⟨rfl, rfl, rfl, rfl⟩ | ⟨rfl, rfl, rfl, rfl, rfl⟩ | ⟨rfl, rfl, rfl, rfl, rfl⟩
  all_goals
    repeat (go_big_quiet_step (first | with_reducible exact Calls.grown_of (c1 _) | with_reducible exact Calls.grown_of (c2 _) | with_reducible exact Calls.grown_of (c3 _) | with_reducible exact Calls.grown_of (c4 _) | with_reducible exact Calls.grown_of (c5 _) | with_reducible exact Calls.grown_of (c6 _) | with_reducible exact Calls.grown_same (mostObj_any _ _)))
    refine wpQuiet_nil ?_
    rintro _ ⟨s, rfl⟩
    go_wp2_with fail
    go_ret
    exact ⟨ret_bool (by simp), fW.trans s.fr⟩
end Go.Proofs.YtihdablgnmkjnaaGreatDoor
/-
  What the row's condition says of the program's table; the world that the program's own initialisers leave meets it. An event that comes in as an argument.
-/
namespace Go.Proofs.YtihdablgnmkjnaaGreatDoor
open Go.ChangeShapes Go.WideShapes Go.ChangeAt Go.RowKit

theorem gShapes : Tryz.prog.globalNamed "loop.example/g00720/impl.shapes" = some 0 := by kernel_rfl
theorem tShapes : (Tryz.prog.globals[0]?).map (·.type) = some 166 := by kernel_rfl
theorem cells_int64 : Tryz.prog.cellsOf 2 = 1 := by kernel_rfl
theorem cells_shape : Tryz.prog.cellsOf 165 = 3 := by kernel_rfl

set_option maxRecDepth 20000 in
/-- A row of three numbers, read. -/
theorem three_of {H : Type} {enc : TypeId × Value → H} {W : World} {base : Nat} {sp : Nat → Bool} {held : Bool} {fuel : Nat} {cs : List Value} {p : List MemPlace} {a b c : Int}
    (h : DataW.trod enc Tryz.prog W base sp held fuel 165 cs = some (.agg [.lit (.int .i64 a), .lit (.int .i64 b), .lit (.int .i64 c)], p)) : cs = [.int .i64 a, .int .i64 b, .int .i64 c] := by
  obtain ⟨xs, m, -, hx, hl, hn, hf⟩ := DataW.trod_struct Tryz.underlying165 h
  rw [cells_shape] at hl
  match cs, hl with
  | [c0, c1, c2], _ =>
    match xs, hn with
    | [x0, x1, x2], _ =>
      have h0 := hf 0 _ rfl
      have h1 := hf 1 _ rfl
      have h2 := hf 2 _ rfl
      simp [cells_int64] at h0 h1 h2
      obtain ⟨n0, e0, rfl, _⟩ := DataW.trod_int Tryz.underlying2 h0
      obtain ⟨n1, e1, rfl, _⟩ := DataW.trod_int Tryz.underlying2 h1
      obtain ⟨n2, e2, rfl, _⟩ := DataW.trod_int Tryz.underlying2 h2
      simp at e0 e1 e2
      simp at hx
      obtain ⟨⟨rfl, rfl, rfl⟩, _⟩ := hx
      rw [e0, e1, e2]

theorem laid_row (n : Nat) (h : n < 22) : (match (Rows.laid_loop_example_g00720_impl_shapes : DataW Unit) with | .agg l => l[n + 1]? | _ => none) = some (.agg [.lit (.int .i64 (fldN n)), .lit (.int .i64 (loV ((n : Int) + 1))), .lit (.int .i64 (hiV ((n : Int) + 1)))]) :=
  match n, h with
  | 0, _ => rfl
  | 1, _ => rfl
  | 2, _ => rfl
  | 3, _ => rfl
  | 4, _ => rfl
  | 5, _ => rfl
  | 6, _ => rfl
  | 7, _ => rfl
  | 8, _ => rfl
  | 9, _ => rfl
  | 10, _ => rfl
  | 11, _ => rfl
  | 12, _ => rfl
  | 13, _ => rfl
  | 14, _ => rfl
  | 15, _ => rfl
  | 16, _ => rfl
  | 17, _ => rfl
  | 18, _ => rfl
  | 19, _ => rfl
  | 20, _ => rfl
  | 21, _ => rfl
  | m + 22, h => absurd h (by omega)

theorem shapes_of {W : World} {ps : List MemPlace} {rest : List (String × DataW Unit)} (h : DataW.LaidVars Tryz.prog W (("loop.example/g00720/impl.shapes", Rows.laid_loop_example_g00720_impl_shapes) :: rest) ps) : Shapes W := by
  obtain ⟨g, t, cs, fuel, p, q, hg, ht, hv, hd, -, -⟩ := h
  obtain rfl := Option.some.inj (gShapes.symm.trans hg)
  obtain rfl := Option.some.inj (tShapes.symm.trans ht)
  obtain ⟨xs, m, -, hx, hl, hn, hel⟩ := DataW.trod_array Tryz.underlying166 hd
  simp only [Prod.mk.injEq] at hx
  have hrow : ∀ n, n < 22 → (xs.map (·.1))[n + 1]? = some (.agg [.lit (.int .i64 (fldN n)), .lit (.int .i64 (loV ((n : Int) + 1))), .lit (.int .i64 (hiV ((n : Int) + 1)))]) := fun n hn => by
    have := laid_row n hn
    rw [hx.1] at this
    exact this
  intro n hn22
  have h1 := hrow n hn22
  rw [List.getElem?_map, Option.map_eq_some_iff] at h1
  obtain ⟨⟨y, py⟩, hy, hy2⟩ := h1
  simp only at hy2
  subst hy2
  have h2 := hel (n + 1) (by omega)
  rw [hy, cells_shape] at h2
  have h3 := three_of h2
  have hc : ∀ j, W.cell? ⟨0, j, none⟩ = cs[j]? := World.var?_cell gShapes hv
  have at_ : ∀ j, j < 3 → W.cell? ⟨0, (n + 1) * 3 + j, none⟩ = ([.int .i64 (fldN n), .int .i64 (loV ((n : Int) + 1)), .int .i64 (hiV ((n : Int) + 1))] : List Value)[j]? := fun j hj => by
    rw [hc, ← h3, List.getElem?_take, if_pos hj, List.getElem?_drop]
    simp
  exact ⟨by simpa using at_ 0 (by omega), by simpa using at_ 1 (by omega), by simpa using at_ 2 (by omega)⟩

/-- The numbers of an event fit. -/
def EvI (e : Ev) : Prop := I64 e.k ∧ I64 e.g ∧ I64 e.o ∧ I64 e.w ∧ I64 e.l ∧ I64 e.s ∧ I64 e.f ∧ I64 e.t

theorem cells_ev : Tryz.prog.cellsOf 60 = 8 := by kernel_rfl

theorem fit64 {n : Int} (h : (Lit.int .i64 n).wf = true) : I64 n := by
  have := bounds_i64 h
  exact ⟨by omega, by omega⟩

set_option maxRecDepth 20000 in
/-- An event that came in. -/
theorem ev_of_arg {H : Type} {enc : TypeId × Value → H} {W : World} {base b0 : Nat} {sp : Nat → Bool} {held : Bool} {r : Reach} {v : Value} {d : DataW H} {p : List MemPlace}
    (hv : Value.okWide Tryz.prog W r b0 60 v) (h : DataW.Trod enc Tryz.prog W base sp held 60 v d p) : ∃ e : Ev, v = .agg #[.int .i64 e.k, .int .i64 e.g, .int .i64 e.o, .int .i64 e.w, .int .i64 e.l, .int .i64 e.s, .int .i64 e.f, .int .i64 e.t] ∧ EvI e := by
  obtain ⟨cs, rfl, hsz⟩ := okWide_struct Tryz.underlying60 hv
  obtain ⟨fuel, hf⟩ := h
  obtain ⟨xs, m, -, hx, hl, hn, hfs⟩ := DataW.trod_struct Tryz.underlying60 hf
  rw [cells_ev] at hsz
  obtain ⟨l⟩ := cs
  match l, hsz with
  | [c0, c1, c2, c3, c4, c5, c6, c7], _ =>
    match xs, hn with
    | [x0, x1, x2, x3, x4, x5, x6, x7], _ =>
      have h0 := hfs 0 _ rfl
      have h1 := hfs 1 _ rfl
      have h2 := hfs 2 _ rfl
      have h3 := hfs 3 _ rfl
      have h4 := hfs 4 _ rfl
      have h5 := hfs 5 _ rfl
      have h6 := hfs 6 _ rfl
      have h7 := hfs 7 _ rfl
      simp [cells_int64, Value.cells] at h0 h1 h2 h3 h4 h5 h6 h7
      obtain ⟨n0, e0, -, w0⟩ := DataW.trod_int Tryz.underlying2 h0
      obtain ⟨n1, e1, -, w1⟩ := DataW.trod_int Tryz.underlying2 h1
      obtain ⟨n2, e2, -, w2⟩ := DataW.trod_int Tryz.underlying2 h2
      obtain ⟨n3, e3, -, w3⟩ := DataW.trod_int Tryz.underlying2 h3
      obtain ⟨n4, e4, -, w4⟩ := DataW.trod_int Tryz.underlying2 h4
      obtain ⟨n5, e5, -, w5⟩ := DataW.trod_int Tryz.underlying2 h5
      obtain ⟨n6, e6, -, w6⟩ := DataW.trod_int Tryz.underlying2 h6
      obtain ⟨n7, e7, -, w7⟩ := DataW.trod_int Tryz.underlying2 h7
      simp at e0 e1 e2 e3 e4 e5 e6 e7
      subst e0 e1 e2 e3 e4 e5 e6 e7
      exact ⟨⟨n0, n1, n2, n3, n4, n5, n6, n7⟩, rfl, fit64 w0, fit64 w1, fit64 w2, fit64 w3, fit64 w4, fit64 w5, fit64 w6, fit64 w7⟩
end Go.Proofs.YtihdablgnmkjnaaGreatDoor
/-
  Slices of bytes in memory, as Ints has them of int64: reading one, owning one, a copy (toByteS), comparing two (eqByteS), marks in one (markByteS, heldByteS), appending to one.
-/
namespace Go.Proofs.YtihdablgnmkjnaaGreatDoor
open Go.RowKit

/-- A byte. -/
def U8 (x : Int) : Prop := 0 ≤ x ∧ x ≤ 255

/-- A slice at the address ao reads as the numbers xs. -/
structure ReadsB (w : World) (ao : Option Addr) (xs : List Int) : Prop where
  len : xs.length ≤ 4294967296
  bd : ∀ x ∈ xs, U8 x
  at_ : ∀ i, i < xs.length → ∃ b off, ao = some ⟨b, off, none⟩ ∧ ∀ j, j < xs.length → w.cell? ⟨b, off + j, none⟩ = some (.int .u8 (xs.getD j 0))

theorem ReadsB.nil (w : World) (ao : Option Addr) : ReadsB w ao [] := ⟨by simp, by simp, by simp⟩

theorem ReadsB.bdAt {w : World} {ao : Option Addr} {xs : List Int} (h : ReadsB w ao xs) (i : Nat) : U8 (xs.getD i 0) := by
  by_cases hi : i < xs.length
  · rw [List.getD_eq_getElem?_getD, List.getElem?_eq_getElem hi]; exact h.bd _ (List.getElem_mem hi)
  · rw [List.getD_eq_getElem?_getD, List.getElem?_eq_none (by omega)]; exact ⟨by decide, by decide⟩

theorem ReadsB.keep {w w' : World} {ao : Option Addr} {xs : List Int} {row : Option Nat} (h : ReadsB w ao xs) (k : w.grownBy w' row) (hne : row = none ∨ blk ao ≠ row) : ReadsB w' ao xs := by
  refine ⟨h.len, h.bd, fun i hi => ?_⟩
  obtain ⟨b, off, e, hc⟩ := h.at_ i hi
  refine ⟨b, off, e, fun j hj => k.cell (hc j hj) ?_⟩
  rcases hne with rfl | hne
  · simp
  · intro hh
    apply hne
    rw [e, ← hh]
    rfl
theorem ReadsB.fr {w w' : World} {ao : Option Addr} {xs : List Int} (h : ReadsB w ao xs) (k : Fr w w') : ReadsB w' ao xs := h.keep k (.inl rfl)

/-- A slice that came in, as the frame of a law tells it, reads as its first numbers. -/
theorem readsB_of_row {w : World} {a : Option Addr} {len cap : Nat} {zs : List Int}
    (h : (a = none ∧ len = 0 ∧ cap = 0 ∧ zs = []) ∨ ∃ x, a = some x ∧ len ≤ cap ∧ cap ≤ maxLen ∧ zs.length = cap ∧ (∀ i, i < zs.length → w.cell? (x.add i) = some (.int .u8 (zs.getD i 0))) ∧ ∀ n ∈ zs, (Lit.int .u8 n).wf = true)
    (hl : len ≤ 4294967296) : ReadsB w a (zs.take len) ∧ (zs.take len).length = len := by
  rcases h with ⟨rfl, rfl, rfl, rfl⟩ | ⟨x, rfl, h1, h2, h3, h4, h5⟩
  · exact ⟨ReadsB.nil _ _, rfl⟩
  · have hlen : (zs.take len).length = len := by simp; omega
    refine ⟨⟨by omega, fun x hx => ?_, fun i hi => ?_⟩, hlen⟩
    · have := bounds_u8 (h5 x (List.mem_of_mem_take hx))
      exact ⟨by omega, by omega⟩
    · rw [hlen] at hi
      obtain ⟨b, off, spot⟩ := x
      have hc := h4 0 (by omega)
      have hspot : spot = none := by
        have := World.cell?_spot hc
        simpa [Addr.add] using this
      subst hspot
      refine ⟨b, off, rfl, fun j hj => ?_⟩
      rw [hlen] at hj
      have := h4 j (by omega)
      simp only [List.getD_eq_getElem?_getD, List.getElem?_take, if_pos hj] at this ⊢
      have e : (⟨b, off, none⟩ : Addr).add j = ⟨b, off + j, none⟩ := by
        by_cases h0 : j = 0
        · subst h0; rfl
        · simp [Addr.add, h0]
      rwa [e] at this

/-- The slice of xs that a call owns: it begins at the head of the block g, which lies from base on. -/
def OwnB (w : World) (base : Nat) (v : Value) (xs : List Int) : Prop :=
  w.ownsRow base 5 1 v xs.length (xs.map (Value.int .u8)) ∧ xs.length ≤ 4294967296 ∧ ∀ x ∈ xs, U8 x

theorem OwnB.reads {w : World} {base : Nat} {g n cap : Nat} {xs : List Int} (h : OwnB w base (.slice (some ⟨g, 0, none⟩) n cap) xs) : ReadsB w (some ⟨g, 0, none⟩) xs := by
  obtain ⟨ho, hl, hb⟩ := h
  have hn : n = xs.length := by
    rcases ho.2 with ⟨e, _⟩ | ⟨g', c', cur, e, _⟩
    · simp at e
    · simp at e; exact e.2.1
  subst hn
  refine ⟨hl, hb, fun i _ => ⟨g, 0, rfl, fun j hj => ?_⟩⟩
  have := ho.cellAt j (by simpa using hj)
  simp only [Nat.zero_add]
  rw [this]
  simp [List.getElem?_eq_getElem hj, List.getD]

theorem Tryz.info5 : (Tryz.prog.info? 5).map (fun i => (i.zero, i.size, i.bytes)) = some (some (.int .u8 0), 1, 1) := by kernel_rfl
end Go.Proofs.YtihdablgnmkjnaaGreatDoor
/-
  Numbers as bytes: what is put of a number, what is read at a place, and that the two are one.
-/
namespace Go.Proofs.YtihdablgnmkjnaaGreatDoor
open Go.RowKit

/-- The bytes of a number from 0 to 128 ^ (f + 1) - 1. -/
def putF : Nat → Int → List Int
  | 0, n => [n]
  | f + 1, n => if n < 128 then [n] else (n % 128 + 128) :: putF f (n / 128)

/-- The number at the place p: s where it began, u the worth of the next byte, acc what was read. -/
def rdG (bs : List Int) (s : Nat) : Nat → Nat → Int → Int → Option (Int × Nat)
  | 0, _, _, _ => none
  | f + 1, p, u, acc => match bs[p]? with
    | none => none
    | some b => if 128 ≤ b then rdG bs s f (p + 1) (u * 128) (acc + (b - 128) * u) else if b = 0 ∧ s < p then none else some (acc + b * u, p + 1)

def putL (n : Int) : List Int := putF 5 n
def rdN (bs : List Int) (p : Nat) : Option (Int × Nat) := rdG bs p 6 p 1 0

theorem putF_small {f : Nat} {n : Int} (h : n < 128) : putF f n = [n] := by
  cases f with
  | zero => rfl
  | succ f => rw [putF, if_pos h]
theorem putF_big {f : Nat} {n : Int} (h : ¬ n < 128) : putF (f + 1) n = (n % 128 + 128) :: putF f (n / 128) := by rw [putF, if_neg h]
theorem putF_ne (f : Nat) (n : Int) : putF f n ≠ [] := by
  cases f with
  | zero => simp [putF]
  | succ f => by_cases h : n < 128 <;> simp [putF, h]
theorem putF_len (f : Nat) (n : Int) : 1 ≤ (putF f n).length ∧ (putF f n).length ≤ f + 1 := by
  induction f generalizing n with
  | zero => simp [putF]
  | succ f ih =>
    by_cases h : n < 128
    · rw [putF_small h]; simp
    · rw [putF_big h]; have := ih (n / 128); simp; omega
theorem putF_u8 (f : Nat) (n : Int) (h0 : 0 ≤ n) (h1 : n < 128 ^ (f + 1)) : ∀ x ∈ putF f n, U8 x := by
  induction f generalizing n with
  | zero => intro x hx; simp [putF] at hx; subst hx; exact ⟨by omega, by omega⟩
  | succ f ih =>
    by_cases h : n < 128
    · rw [putF_small h]; intro x hx; simp at hx; subst hx; exact ⟨by omega, by omega⟩
    · rw [putF_big h]
      intro x hx
      rcases List.mem_cons.1 hx with rfl | hx
      · exact ⟨by omega, by omega⟩
      · refine ih (n / 128) (by omega) ?_ x hx
        rw [Int.pow_succ] at h1
        omega

theorem getElem?_drop0 {bs : List Int} {p : Nat} {x : Int} {l : List Int} (h : bs.drop p = x :: l) : bs[p]? = some x ∧ bs.drop (p + 1) = l := by
  have h0 := congrArg (fun l => l[0]?) h
  simp at h0
  refine ⟨h0, ?_⟩
  have := congrArg (List.drop 1) h
  simpa using this

theorem rd_put (bs : List Int) (s : Nat) (rest : List Int) (f : Nat) (n u acc : Int) (p : Nat) (h0 : 0 ≤ n) (h1 : n < 128 ^ (f + 1)) (hb : bs.drop p = putF f n ++ rest) (hs : s < p → 0 < n) :
    rdG bs s (f + 1) p u acc = some (acc + n * u, p + (putF f n).length) := by
  have small : n < 128 → rdG bs s (f + 1) p u acc = some (acc + n * u, p + (putF f n).length) := by
    intro h
    rw [putF_small h] at hb ⊢
    obtain ⟨e, -⟩ := getElem?_drop0 hb
    simp only [rdG, e]
    rw [if_neg (by omega), if_neg (by omega)]
    rfl
  induction f generalizing n u acc p with
  | zero => exact small (by simpa using h1)
  | succ f ih =>
    by_cases h : n < 128
    · exact small h
    · rw [putF_big h] at hb ⊢
      obtain ⟨e, e2⟩ := getElem?_drop0 (l := putF f (n / 128) ++ rest) hb
      have h2 : n / 128 < 128 ^ (f + 1) := by rw [Int.pow_succ] at h1; omega
      have step := ih (n / 128) (u * 128) (acc + (n % 128 + 128 - 128) * u) (p + 1) (by omega) h2 e2 (by omega) (by
        intro h
        rw [putF_small h] at e2 ⊢
        obtain ⟨e, -⟩ := getElem?_drop0 e2
        simp only [rdG, e]
        rw [if_neg (by omega), if_neg (by omega)]
        rfl)
      rw [rdG, e]
      simp only []
      rw [if_pos (by omega), step]
      have e3 : acc + (n % 128 + 128 - 128) * u + n / 128 * (u * 128) = acc + n * u := by
        have hn : n = n % 128 + 128 * (n / 128) := by omega
        have : n % 128 + 128 - 128 = n % 128 := by omega
        rw [this]
        conv => rhs; rw [hn]
        rw [Int.add_mul, Int.mul_comm u 128, ← Int.mul_assoc, Int.mul_comm (n / 128) 128, Int.add_assoc]
      rw [e3]
      simp
      omega

theorem rd_cut (bs : List Int) (s : Nat) (f : Nat) (n u acc : Int) (p : Nat) (h0 : 0 ≤ n) (hb : bs.drop p = (putF f n).dropLast) : rdG bs s (f + 1) p u acc = none := by
  induction f generalizing n u acc p with
  | zero =>
    simp [putF] at hb
    simp only [rdG]
    rw [List.getElem?_eq_none (by omega)]
  | succ f ih =>
    by_cases h : n < 128
    · rw [putF_small h] at hb
      simp at hb
      rw [rdG, List.getElem?_eq_none (by omega)]
    · rw [putF_big h, List.dropLast_cons_of_ne_nil (putF_ne _ _)] at hb
      obtain ⟨e, e2⟩ := getElem?_drop0 hb
      rw [rdG, e]
      simp only []
      rw [if_pos (by omega)]
      exact ih (n / 128) _ _ (p + 1) (by omega) e2

theorem put_rd (bs : List Int) (s : Nat) (hu : ∀ x ∈ bs, U8 x) (f : Nat) (u acc : Int) (p : Nat) (m : Int) (q : Nat) (hsp : s ≤ p) (h : rdG bs s (f + 1) p u acc = some (m, q)) :
    ∃ n, 0 ≤ n ∧ n < 128 ^ (f + 1) ∧ m = acc + n * u ∧ q = p + (putF f n).length ∧ bs.drop p = putF f n ++ bs.drop q ∧ (s < p → 0 < n) := by
  induction f generalizing u acc p with
  | zero =>
    rw [rdG] at h
    cases e : bs[p]? with
    | none => rw [e] at h; cases h
    | some b =>
      have hb := hu b (List.mem_of_getElem? e)
      have hl := (List.getElem?_eq_some_iff.1 e)
      obtain ⟨hl, hv⟩ := hl
      rw [e] at h
      simp only at h
      by_cases h1 : 128 ≤ b
      · rw [if_pos h1, rdG] at h; cases h
      · rw [if_neg h1] at h
        by_cases h2 : b = 0 ∧ s < p
        · rw [if_pos h2] at h; cases h
        · rw [if_neg h2] at h
          simp only [Option.some.injEq, Prod.mk.injEq] at h
          refine ⟨b, hb.1, by simpa using (by omega : b < 128), h.1.symm, by simp [putF]; omega, ?_, fun hs => ?_⟩
          · rw [List.drop_eq_getElem_cons hl, hv, ← h.2]; rfl
          · have : b ≠ 0 := fun h0 => h2 ⟨h0, hs⟩
            have := hb.1
            omega
  | succ f ih =>
    rw [rdG] at h
    cases e : bs[p]? with
    | none => rw [e] at h; cases h
    | some b =>
      have hb := hu b (List.mem_of_getElem? e)
      obtain ⟨hl, hv⟩ := List.getElem?_eq_some_iff.1 e
      obtain ⟨hb0, hb1⟩ := hb
      rw [e] at h
      simp only at h
      by_cases h1 : 128 ≤ b
      · rw [if_pos h1] at h
        obtain ⟨n, n0, n1, hm, hq, hd, hs⟩ := ih _ _ _ (by omega) h
        have hn : 0 < n := hs (by omega)
        refine ⟨128 * n + (b - 128), by omega, ?_, ?_, ?_, ?_, fun _ => by omega⟩
        · rw [Int.pow_succ]; omega
        · rw [hm, Int.add_mul, Int.mul_comm u 128, ← Int.mul_assoc, Int.mul_comm n 128]; omega
        · rw [putF_big (by omega), hq]
          have : (128 * n + (b - 128)) / 128 = n := by omega
          rw [this]; simp; omega
        · rw [putF_big (by omega)]
          have e1 : (128 * n + (b - 128)) / 128 = n := by omega
          have e2 : (128 * n + (b - 128)) % 128 + 128 = b := by omega
          rw [e1, e2, List.drop_eq_getElem_cons hl, hv, hd]
          rfl
      · rw [if_neg h1] at h
        by_cases h2 : b = 0 ∧ s < p
        · rw [if_pos h2] at h; cases h
        · rw [if_neg h2] at h
          simp only [Option.some.injEq, Prod.mk.injEq] at h
          refine ⟨b, hb0, ?_, h.1.symm, by rw [putF_small (by omega)]; simp; omega, ?_, fun hs => ?_⟩
          · have := Int.pow_pos (n := 128) (m := f + 1) (by omega)
            rw [Int.pow_succ]; omega
          · rw [putF_small (by omega), List.drop_eq_getElem_cons hl, hv, ← h.2]; rfl
          · have : b ≠ 0 := fun h0 => h2 ⟨h0, hs⟩
            omega
end Go.Proofs.YtihdablgnmkjnaaGreatDoor
