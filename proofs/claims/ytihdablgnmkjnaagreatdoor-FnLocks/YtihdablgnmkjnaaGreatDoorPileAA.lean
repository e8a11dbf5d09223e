/-
  Slices of int64 in memory: what it is that one reads as a list of numbers, that a call owns one, and how both outlast what other calls do.
-/
import Derived.Test.YtihdablgnmkjnaaGreatDoorRows
import Derived.WalkKit
import Derived.WalkLawsBesides
import Derived.Below
import Derived.BigQuiet
import Derived.Deep.QuietTactic
import Derived.OpenShut
import Derived.ProofKit
import Derived.LaidMore
import Derived.Stop.Joined
import Derived.OpenVars
import Derived.Laws.Bits128
import Derived.Laws.Shifts
import Derived.Laws.Pointers
import Derived.RegionTactic
import Derived.BigRegion
import Derived.Deep.RegionHeld3
namespace Go.Proofs.YtihdablgnmkjnaaGreatDoor
open Go.RowKit

/-- Only new blocks: what was there is as it was. -/
def Fr (w w' : World) : Prop := w.grownBy w' none

theorem Fr.refl (w : World) : Fr w w := ⟨rfl, rfl, rfl, Nat.le_refl _, fun _ _ _ => rfl⟩
theorem Fr.trans {a b c : World} (h : Fr a b) (k : Fr b c) : Fr a c :=
  ⟨k.os.trans h.os, k.tape.trans h.tape, k.output.trans h.output, Nat.le_trans h.size k.size, fun i hi _ => (k.block i (Nat.lt_of_lt_of_le hi h.size) (by simp)).trans (h.block i hi (by simp))⟩
theorem Fr.drewN (w : World) (n : Nat) : Fr w (w.drewN n) := ⟨rfl, rfl, rfl, Nat.le_refl _, fun _ _ _ => rfl⟩
theorem drew2 (w : World) (a b : Nat) : (w.drewN a).drewN b = w.drewN (a + b) := by simp [World.drewN, Nat.add_assoc]
theorem Fr.drew (w : World) : Fr w w.drew := ⟨rfl, rfl, rfl, Nat.le_refl _, fun _ _ _ => rfl⟩
theorem Fr.alloc (w : World) (o : Obj) : Fr w (w.alloc o) := World.grownBy_alloc w o none
/-- Behind new blocks alone, a write into one of those. -/
theorem Fr.then {a b c : World} {row : Option Nat} (h : Fr a b) (k : b.grownBy c row) (hr : ∀ j, row = some j → a.heap.size ≤ j) : Fr a c :=
  ⟨k.os.trans h.os, k.tape.trans h.tape, k.output.trans h.output, Nat.le_trans h.size k.size,
    fun i hi _ => (k.block i (Nat.lt_of_lt_of_le hi h.size) (fun e => by have := hr i e.symm; omega)).trans (h.block i hi (by simp))⟩
theorem Fr.below {w w' : World} (h : Fr w w') : Below w.heap.size w w' := ⟨h.os, h.tape, h.output, h.size, fun k hk => h.block k hk (by simp)⟩
theorem Fr.cell {w w' : World} (h : Fr w w') {p : Addr} {v : Value} (hc : w.cell? p = some v) : w'.cell? p = some v := World.grownBy.cell h hc (by simp)

/-- The greatest and the least int64. -/
def I64 (x : Int) : Prop := -9223372036854775808 ≤ x ∧ x ≤ 9223372036854775807

/-- A slice at the address ao reads as the numbers xs. -/
structure Reads (w : World) (ao : Option Addr) (xs : List Int) : Prop where
  len : xs.length ≤ 4294967296
  bd : ∀ x ∈ xs, I64 x
  at_ : ∀ i, i < xs.length → ∃ b off, ao = some ⟨b, off, none⟩ ∧ ∀ j, j < xs.length → w.cell? ⟨b, off + j, none⟩ = some (.int .i64 (xs.getD j 0))

theorem Reads.nil (w : World) (ao : Option Addr) : Reads w ao [] := ⟨by simp, by simp, by simp⟩

theorem Reads.bdAt {w : World} {ao : Option Addr} {xs : List Int} (h : Reads w ao xs) (i : Nat) : I64 (xs.getD i 0) := by
  by_cases hi : i < xs.length
  · rw [List.getD_eq_getElem?_getD, List.getElem?_eq_getElem hi]; exact h.bd _ (List.getElem_mem hi)
  · rw [List.getD_eq_getElem?_getD, List.getElem?_eq_none (by omega)]; exact ⟨by decide, by decide⟩

/-- The block of a slice's address. -/
def blk (ao : Option Addr) : Option Nat := ao.map (·.block)

theorem Reads.keep {w w' : World} {ao : Option Addr} {xs : List Int} {row : Option Nat} (h : Reads w ao xs) (k : w.grownBy w' row) (hne : row = none ∨ blk ao ≠ row) : Reads w' ao xs := by
  refine ⟨h.len, h.bd, fun i hi => ?_⟩
  obtain ⟨b, off, e, hc⟩ := h.at_ i hi
  refine ⟨b, off, e, fun j hj => k.cell (hc j hj) ?_⟩
  rcases hne with rfl | hne
  · simp
  · intro hh
    apply hne
    rw [e, ← hh]
    rfl
theorem Reads.fr {w w' : World} {ao : Option Addr} {xs : List Int} (h : Reads w ao xs) (k : Fr w w') : Reads w' ao xs := h.keep k (.inl rfl)

/-- A slice that came in, as the frame of a law tells it, reads as its first numbers. -/
theorem reads_of_row {w : World} {a : Option Addr} {len cap : Nat} {zs : List Int}
    (h : (a = none ∧ len = 0 ∧ cap = 0 ∧ zs = []) ∨ ∃ x, a = some x ∧ len ≤ cap ∧ cap ≤ maxLen ∧ zs.length = cap ∧ (∀ i, i < zs.length → w.cell? (x.add i) = some (.int .i64 (zs.getD i 0))) ∧ ∀ n ∈ zs, (Lit.int .i64 n).wf = true)
    (hl : len ≤ 4294967296) : Reads w a (zs.take len) ∧ (zs.take len).length = len := by
  rcases h with ⟨rfl, rfl, rfl, rfl⟩ | ⟨x, rfl, h1, h2, h3, h4, h5⟩
  · exact ⟨Reads.nil _ _, rfl⟩
  · have hlen : (zs.take len).length = len := by simp; omega
    refine ⟨⟨by omega, fun x hx => ?_, fun i hi => ?_⟩, hlen⟩
    · have := bounds_i64 (h5 x (List.mem_of_mem_take hx))
      exact ⟨by omega, by omega⟩
    · rw [hlen] at hi
      obtain ⟨b, off, spot⟩ := x
      have hc := h4 0 (by omega)
      have hspot : spot = none := by
        have := World.cell?_spot hc
        simpa [Addr.add] using this
      subst hspot
      refine ⟨b, off, rfl, fun j hj => ?_⟩
      rw [hlen] at hj
      have := h4 j (by omega)
      simp only [List.getD_eq_getElem?_getD, List.getElem?_take, if_pos hj] at this ⊢
      have e : (⟨b, off, none⟩ : Addr).add j = ⟨b, off + j, none⟩ := by
        by_cases h0 : j = 0
        · subst h0; rfl
        · simp [Addr.add, h0]
      rwa [e] at this

/-- The slice of xs that a call owns: it begins at the head of the block g, which lies from base on. -/
def OwnI (w : World) (base : Nat) (v : Value) (xs : List Int) : Prop :=
  w.ownsRow base 2 1 v xs.length (xs.map (Value.int .i64)) ∧ xs.length ≤ 4294967296 ∧ ∀ x ∈ xs, I64 x

theorem OwnI.reads {w : World} {base : Nat} {g n cap : Nat} {xs : List Int} (h : OwnI w base (.slice (some ⟨g, 0, none⟩) n cap) xs) : Reads w (some ⟨g, 0, none⟩) xs := by
  obtain ⟨ho, hl, hb⟩ := h
  have hn : n = xs.length := by
    rcases ho.2 with ⟨e, _⟩ | ⟨g', c', cur, e, _⟩
    · simp at e
    · simp at e; exact e.2.1
  subst hn
  refine ⟨hl, hb, fun i _ => ⟨g, 0, rfl, fun j hj => ?_⟩⟩
  have := ho.cellAt j (by simpa using hj)
  simp only [Nat.zero_add]
  rw [this]
  simp [List.getElem?_eq_getElem hj, List.getD]

theorem getD_at {xs : List Int} {k : Nat} (h : k < xs.length) : xs.getD k 0 = xs[k] := by
  rw [List.getD_eq_getElem?_getD, List.getElem?_eq_getElem h]; rfl

theorem Tryz.info2 : (Tryz.prog.info? 2).map (fun i => (i.zero, i.size, i.bytes)) = some (some (.int .i64 0), 1, 8) := by kernel_rfl

/-- eqInt64S and likeInts answer whether two lists are alike. -/
theorem eq_step {a b : List Int} {k : Nat} (hab : a.length = b.length) (hk : k < a.length) (h : a.take k = b.take k) (e : a[k] = b[k]'(by omega)) : a.take (k + 1) = b.take (k + 1) := by
  rw [List.take_succ_eq_append_getElem hk, List.take_succ_eq_append_getElem (by omega : k < b.length), h, e]

theorem ne_of_at {a b : List Int} {k : Nat} (hk : k < a.length) (hk' : k < b.length) (e : a[k] ≠ b[k]) : (decide (a = b)) = false := by
  simp only [decide_eq_false_iff_not]
  intro h; subst h; exact e rfl
end Go.Proofs.YtihdablgnmkjnaaGreatDoor
/-
  The range tests: l1In of the specification, gorInRange and tickInRange of the program.
-/
namespace Go.Proofs.YtihdablgnmkjnaaGreatDoor
open Go.RowKit

/-- Is x from lo to hi? -/
def inB (lo hi x : Int) : Bool := decide (lo ≤ x) && decide (x ≤ hi)

theorem inB_true {lo hi x : Int} (h : inB lo hi x = true) : lo ≤ x ∧ x ≤ hi := by simpa [inB] using h
theorem inB_mk {lo hi x : Int} (h1 : lo ≤ x) (h2 : x ≤ hi) : inB lo hi x = true := by simp [inB, h1, h2]
theorem inB_not {lo hi x : Int} (h : x < lo ∨ hi < x) : inB lo hi x = false := by
  simp only [inB, Bool.and_eq_false_iff, decide_eq_false_iff_not]; omega
theorem inB_false {lo hi x : Int} (h : inB lo hi x = false) : x < lo ∨ hi < x := by
  simp only [inB, Bool.and_eq_false_iff, decide_eq_false_iff_not] at h; omega

theorem ret_int {k : IntKind} {a b : Int} (h : a = b) : Ending.returned (.int k a) = .returned (.int k b) := by rw [h]
theorem ret_bool {a b : Bool} (h : a = b) : Ending.returned (.bool a) = .returned (.bool b) := by rw [h]

theorem l1In_any (x lo hi : Int) (w : World) :
    Calls Tryz.prog 49 #[.int .i64 x, .int .i64 lo, .int .i64 hi] w fun e w' => e = .returned (.bool (inB lo hi x)) ∧ w' = w := by
  by_cases h : lo ≤ x
  · by_cases h2 : x ≤ hi
    · rw [inB_mk h h2]
      go_enter Tryz.func49, Tryz.ntmps49
      go_wp2
      go_ret
      exact ⟨rfl, rfl⟩
    · rw [inB_not (by omega)]
      go_enter Tryz.func49, Tryz.ntmps49
      go_wp2
      go_ret
      exact ⟨rfl, rfl⟩
  · rw [inB_not (by omega)]
    go_enter Tryz.func49, Tryz.ntmps49
    go_wp2
    go_ret
    exact ⟨rfl, rfl⟩

theorem gorIn_any (x : Int) (w : World) :
    Calls Tryz.prog 133 #[.int .i64 x] w fun e w' => e = .returned (.bool (inB 0 15 x)) ∧ w' = w := by
  by_cases h : 0 ≤ x
  · by_cases h2 : x < 16
    · rw [inB_mk h (by omega)]
      go_enter Tryz.func133, Tryz.ntmps133
      go_wp2
      go_ret
      exact ⟨rfl, rfl⟩
    · rw [inB_not (by omega)]
      go_enter Tryz.func133, Tryz.ntmps133
      go_wp2
      go_ret
      exact ⟨rfl, rfl⟩
  · rw [inB_not (by omega)]
    go_enter Tryz.func133, Tryz.ntmps133
    go_wp2
    go_ret
    exact ⟨rfl, rfl⟩

end Go.Proofs.YtihdablgnmkjnaaGreatDoor
/-
  Events: what is asked of each field by the Kind; the small callees of both EventOks.
-/
namespace Go.Proofs.YtihdablgnmkjnaaGreatDoor
open Go.RowKit

/-- An event's eight numbers: Kind, Gor, Obj, With, Lo, Size, Fn, Site. -/
structure Ev where
  (k g o w l s f t : Int)

/-- What the Kinds from 1 on have, as a sum. -/
def fldN (n : Nat) : Int := [1, 1, 1, 1, 1, 9, 1, 1, 3, 1, 1, 9, 1, 1, 1, 1, 1, 1, 1, 60, 60, 12].getD n 0
def fldV (k : Int) : Int := if inB 1 22 k then fldN (k - 1).toNat else -1
/-- The least Size of a Kind, and the greatest. -/
def loV (k : Int) : Int := if k = 12 ∨ k = 20 ∨ k = 21 ∨ k = 22 then 1 else 0
def hiV (k : Int) : Int := if k = 6 then 8 else if k = 12 then 9 else if k = 20 ∨ k = 21 then 8 else if k = 22 then 64 else 0
/-- Has the Kind that field? -/
def hasB (k d : Int) : Bool := ((fldV k).tdiv d).tmod 2 == 1
/-- A field that the Kind has is in range, one that it has not is 0. -/
def fitB (h : Bool) (n lo hi : Int) : Bool := if h then inB lo hi n else n == 0
/-- The six fields' tests. -/
def ev1 (e : Ev) : Bool := fitB (hasB e.k 1) e.o 0 15
def ev2 (e : Ev) : Bool := fitB (hasB e.k 2) e.w 0 15
def ev3 (e : Ev) : Bool := fitB (hasB e.k 4) e.l 0 65535
def ev4 (e : Ev) : Bool := fitB (hasB e.k 8) e.s (loV e.k) (hiV e.k)
def ev5 (e : Ev) : Bool := fitB (hasB e.k 16) e.f 0 999
def ev6 (e : Ev) : Bool := fitB (hasB e.k 32) e.t 0 999
/-- EventOk. -/
def evOk (e : Ev) : Bool := inB 1 22 e.k && inB 0 15 e.g && ev1 e && ev2 e && ev3 e && ev4 e && ev5 e && ev6 e

theorem kinds {k : Int} (h : inB 1 22 k = true) : ∃ n : Nat, n < 22 ∧ k = (n : Int) + 1 := by
  have := inB_true h
  exact ⟨(k - 1).toNat, by omega, by omega⟩

theorem fldV_at (n : Nat) (h : n < 22) : fldV ((n : Int) + 1) = fldN n := by
  rw [fldV, if_pos (inB_mk (by omega) (by omega))]
  congr 1
  omega
theorem fldN_in (n : Nat) : 0 ≤ fldN n ∧ fldN n ≤ 60 := by
  by_cases h : n < 22
  · exact (by decide : ∀ m, m < 22 → 0 ≤ fldN m ∧ fldN m ≤ 60) n h
  · rw [fldN, List.getD_eq_getElem?_getD, List.getElem?_eq_none (by simp; omega)]; decide
theorem fldV_in (k : Int) : -1 ≤ fldV k ∧ fldV k ≤ 60 := by
  rw [fldV]; split
  · have := fldN_in (k - 1).toNat; omega
  · omega

/-- The program asks by a mask. -/
theorem mask_has (n : Nat) (h : n < 22) (d : Int) (hd : d ∈ ([1, 2, 4, 8, 16, 32] : List Int)) : (bits .and .i64 (fldN n) d == 0) = !hasB ((n : Int) + 1) d := by
  rw [hasB, fldV_at n h]
  exact (by decide +kernel : ∀ m, m < 22 → ∀ d ∈ ([1, 2, 4, 8, 16, 32] : List Int), (bits .and .i64 (fldN m) d == 0) = !(((fldN m).tdiv d).tmod 2 == 1)) n h d hd

theorem kindIn_any (x : Int) (w : World) :
    Calls Tryz.prog 132 #[.int .i64 x] w fun e w' => e = .returned (.bool (inB 1 22 x)) ∧ w' = w := by
  by_cases h : 1 ≤ x
  · by_cases h2 : x ≤ 22
    · rw [inB_mk h (by omega)]
      go_enter Tryz.func132, Tryz.ntmps132
      go_wp2
      go_ret
      exact ⟨rfl, rfl⟩
    · rw [inB_not (by omega)]
      go_enter Tryz.func132, Tryz.ntmps132
      go_wp2
      go_ret
      exact ⟨rfl, rfl⟩
  · rw [inB_not (by omega)]
    go_enter Tryz.func132, Tryz.ntmps132
    go_wp2
    go_ret
    exact ⟨rfl, rfl⟩

theorem mostObj_any (x : Int) (w : World) :
    Calls Tryz.prog 135 #[.int .i64 x] w fun e w' => e = .returned (.int .i64 15) ∧ w' = w := by
  by_cases h : x = 1
  · subst h
    go_enter Tryz.func135, Tryz.ntmps135
    go_wp2
    go_ret
    exact ⟨rfl, rfl⟩
  · go_enter Tryz.func135, Tryz.ntmps135
    go_wp2
    go_ret
    exact ⟨rfl, rfl⟩

/-- One test of the program's, on a row of its table. -/
theorem fits_any (F L M d n lo hi : Int) (h : Bool) (hh : (bits .and .i64 F d == 0) = !h) (w : World) :
    Calls Tryz.prog 134 #[.agg #[.int .i64 F, .int .i64 L, .int .i64 M], .int .i64 d, .int .i64 n, .int .i64 lo, .int .i64 hi] w fun e w' => e = .returned (.bool (fitB h n lo hi)) ∧ Fr w w' := by
  cases h
  · simp only [Bool.not_false] at hh
    go_enter Tryz.func134, Tryz.ntmps134
    go_wp2
    go_ret
    exact ⟨rfl, Fr.alloc _ _⟩
  · simp only [Bool.not_true] at hh
    by_cases h1 : lo ≤ n
    · by_cases h2 : n ≤ hi
      · go_enter Tryz.func134, Tryz.ntmps134
        go_wp2
        go_ret
        exact ⟨ret_bool (by rw [fitB, if_pos rfl, inB_mk h1 h2]), Fr.alloc _ _⟩
      · go_enter Tryz.func134, Tryz.ntmps134
        go_wp2
        go_ret
        exact ⟨ret_bool (by rw [fitB, if_pos rfl, inB_not (by omega)]), Fr.alloc _ _⟩
    · go_enter Tryz.func134, Tryz.ntmps134
      go_wp2
      go_ret
      exact ⟨ret_bool (by rw [fitB, if_pos rfl, inB_not (by omega)]), Fr.alloc _ _⟩

/-- One of some numbers that lie in a block of their own, by its place. -/
theorem lit_at {w : World} {t : TypeId} (zs : List Int) (k : Nat) (hk : k < zs.length) :
    (w.alloc (.cells (zs.map (Value.int .i64)).toArray t)).cell? ⟨w.heap.size, k, none⟩ = some (.int .i64 (zs.getD k 0)) := by
  rw [cell_of_row _ _ _ _ _ _ (heap_alloc_new w _)]
  simp [hk]

theorem specFields_any (k : Int) (w : World) :
    Calls Tryz.prog 109 #[.int .i64 k] w fun e w' => e = .returned (.int .i64 (fldV k)) ∧ Fr w w' := by
  cases h : inB 1 22 k
  · have e : fldV k = -1 := by rw [fldV, h]; rfl
    rw [e]
    clear e
    have c1 := fun w => l1In_any k 1 22 w
    simp only [h] at c1
    clear h
    go_enter Tryz.func109, Tryz.ntmps109
    go_wp2_with fail
    refine (c1 _).mono ?_
    rintro e w1 ⟨rfl, rfl⟩
    go_wp2_with fail
    go_ret
    exact ⟨rfl, Fr.refl _⟩
  · have c1 := fun w => l1In_any k 1 22 w
    simp only [h] at c1
    obtain ⟨n, hn, rfl⟩ := kinds h
    rw [fldV_at n hn]
    clear h
    have hc := lit_at (w := w) (t := 2) [1, 1, 1, 1, 1, 9, 1, 1, 3, 1, 1, 9, 1, 1, 1, 1, 1, 1, 1, 60, 60, 12] n hn
    change _ = some (Value.int IntKind.i64 (fldN n)) at hc
    obtain ⟨z, hz⟩ : ∃ z, z = fldN n := ⟨_, rfl⟩
    rw [← hz] at hc ⊢
    clear hz
    simp only [List.map_cons, List.map_nil] at hc
    go_enter Tryz.func109, Tryz.ntmps109
    go_wp2_with fail
    refine (c1 _).mono ?_
    rintro e w1 ⟨rfl, rfl⟩
    go_wp2_with fail
    go_ret
    exact ⟨rfl, Fr.alloc _ _⟩
end Go.Proofs.YtihdablgnmkjnaaGreatDoor
/-
  A region that draws its order and whose callees make new blocks alone: one walk, in the order of the text, serves every order.
-/
namespace Go.Proofs.YtihdablgnmkjnaaGreatDoor
open Go.RowKit

/-- A world that is w and new blocks. -/
structure Later (w : World) where
  u : World
  fr : Fr w u

theorem Later.some (w : World) : Nonempty (Later w) := ⟨⟨w, Fr.refl w⟩⟩

theorem wp_region_grown {P : Program} {id : Nat} {Q : Exit → Act → World → Prop} {a : Act} {w : World} {l : List Oper} (hm : P.follows .mixedOrders = true) (hB : Region.lexB .any l.toArray = true)
    (h : wpQuiet P l.toArray (fun w' => ∃ s : Later w, w' = s.u) (fun a' => ∀ w', (∃ s : Later w, w' = s.u) → Q .normal a' w') l a) : (Code.region id l.toArray true).wp P Q a w :=
  wp_region_quiet (C := fun w' => ∃ s : Later w, w' = s.u) hm hB ⟨⟨w.drew, Fr.drew w⟩, rfl⟩ (by simpa using h)

theorem Calls.grown_of {P : Program} {f : FuncId} {args : Array Value} {w : World} {s : Later w} {v : Value}
    (h : Calls P f args s.u fun e w' => e = .returned v ∧ Fr s.u w') : Calls P f args s.u fun e w'' => e = .returned v ∧ ∃ s' : Later w, w'' = s'.u :=
  h.mono fun _ w' ⟨he, hf⟩ => ⟨he, ⟨w', s.fr.trans hf⟩, rfl⟩
theorem Calls.grown_same {P : Program} {f : FuncId} {args : Array Value} {w : World} {s : Later w} {v : Value}
    (h : Calls P f args s.u fun e w' => e = .returned v ∧ w' = s.u) : Calls P f args s.u fun e w'' => e = .returned v ∧ ∃ s' : Later w, w'' = s'.u :=
  h.mono fun _ _ ⟨he, hm⟩ => ⟨he, s, hm⟩
end Go.Proofs.YtihdablgnmkjnaaGreatDoor
/-
  The program's EventOk, over its table.
-/
namespace Go.Proofs.YtihdablgnmkjnaaGreatDoor
open Go.RowKit

/-- The program's table lies as its text lays it: a row of three for each Kind. -/
def Shapes (w : World) : Prop := ∀ n : Nat, n < 22 → w.cell? ⟨0, (n + 1) * 3, none⟩ = some (.int .i64 (fldN n)) ∧
  w.cell? ⟨0, (n + 1) * 3 + 1, none⟩ = some (.int .i64 (loV ((n : Int) + 1))) ∧ w.cell? ⟨0, (n + 1) * 3 + 2, none⟩ = some (.int .i64 (hiV ((n : Int) + 1)))

theorem Shapes.keep {w w' : World} {row : Option Nat} (h : Shapes w) (k : w.grownBy w' row) (hr : row ≠ some 0) : Shapes w' := fun n hn => by
  obtain ⟨h1, h2, h3⟩ := h n hn
  exact ⟨k.cell h1 (fun e => hr e.symm), k.cell h2 (fun e => hr e.symm), k.cell h3 (fun e => hr e.symm)⟩
theorem Shapes.fr {w w' : World} (h : Shapes w) (k : Fr w w') : Shapes w' := h.keep k (by simp)

set_option maxHeartbeats 2000000 in
theorem implOk_any (e : Ev) (w : World) (hs : Shapes w) :
    Calls Tryz.prog 67 #[.agg #[.int .i64 e.k, .int .i64 e.g, .int .i64 e.o, .int .i64 e.w, .int .i64 e.l, .int .i64 e.s, .int .i64 e.f, .int .i64 e.t]] w fun x w' => x = .returned (.bool (evOk e)) ∧ Fr w w' := by
  have ck := fun w => kindIn_any e.k w
  have cg := fun w => gorIn_any e.g w
  cases hk : inB 1 22 e.k
  · have hv : evOk e = false := by simp [evOk, hk]
    rw [hv]
    simp only [hk] at ck
    clear hv hk hs cg
    go_enter Tryz.func67, Tryz.ntmps67
    go_wp2_with fail
    refine (ck _).mono ?_
    rintro e w1 ⟨rfl, rfl⟩
    go_wp2_with fail
    go_ret
    exact ⟨rfl, Fr.alloc _ _⟩
  cases hg : inB 0 15 e.g
  · have hv : evOk e = false := by simp [evOk, hg]
    rw [hv]
    simp only [hk] at ck
    simp only [hg] at cg
    clear hv hk hs hg
    go_enter Tryz.func67, Tryz.ntmps67
    go_wp2_with fail
    refine (ck _).mono ?_
    rintro e w1 ⟨rfl, rfl⟩
    go_wp2_with fail
    refine (cg _).mono ?_
    rintro e w1 ⟨rfl, rfl⟩
    go_wp2_with fail
    go_ret
    exact ⟨rfl, Fr.alloc _ _⟩
  simp only [hk] at ck
  simp only [hg] at cg
  have hv : evOk e = (ev1 e && ev2 e && ev3 e && ev4 e && ev5 e && ev6 e) := by simp [evOk, hk, hg]
  rw [hv]
  clear hv
  obtain ⟨n, hn, hkn⟩ := kinds hk
  obtain ⟨h1, h2, h3⟩ := hs n hn
  have hw0 : 0 < w.heap.size := World.block_lt_of_cell? w _ h1
  obtain ⟨z, hz⟩ : ∃ z, z = fldN n := ⟨_, rfl⟩
  obtain ⟨lo, hlo⟩ : ∃ z, z = loV ((n : Int) + 1) := ⟨_, rfl⟩
  obtain ⟨hi, hhi⟩ : ∃ z, z = hiV ((n : Int) + 1) := ⟨_, rfl⟩
  rw [← hz] at h1
  rw [← hlo] at h2
  rw [← hhi] at h3
  obtain ⟨k, g, o, wi, l, sz, f, t⟩ := e
  simp only at hkn ck cg ⊢
  subst hkn
  have m := mask_has n hn
  rw [← hz] at m
  have c1 := fun w => fits_any z lo hi 1 o 0 15 _ (m 1 (by simp)) w
  have c2 := fun w => fits_any z lo hi 2 wi 0 15 _ (m 2 (by simp)) w
  have c3 := fun w => fits_any z lo hi 4 l 0 65535 _ (m 4 (by simp)) w
  have c4 := fun w => fits_any z lo hi 8 sz lo hi _ (m 8 (by simp)) w
  have c5 := fun w => fits_any z lo hi 16 f 0 999 _ (m 16 (by simp)) w
  have c6 := fun w => fits_any z lo hi 32 t 0 999 _ (m 32 (by simp)) w
  unfold ev1 ev2 ev3 ev4 ev5 ev6
  simp only
  rw [← hlo, ← hhi]
  obtain ⟨b1, e1⟩ : ∃ b, b = fitB (hasB ((n : Int) + 1) 1) o 0 15 := ⟨_, rfl⟩
  obtain ⟨b2, e2⟩ : ∃ b, b = fitB (hasB ((n : Int) + 1) 2) wi 0 15 := ⟨_, rfl⟩
  obtain ⟨b3, e3⟩ : ∃ b, b = fitB (hasB ((n : Int) + 1) 4) l 0 65535 := ⟨_, rfl⟩
  obtain ⟨b4, e4⟩ : ∃ b, b = fitB (hasB ((n : Int) + 1) 8) sz lo hi := ⟨_, rfl⟩
  obtain ⟨b5, e5⟩ : ∃ b, b = fitB (hasB ((n : Int) + 1) 16) f 0 999 := ⟨_, rfl⟩
  obtain ⟨b6, e6⟩ : ∃ b, b = fitB (hasB ((n : Int) + 1) 32) t 0 999 := ⟨_, rfl⟩
  simp only [← e1] at c1 ⊢
  simp only [← e2] at c2 ⊢
  simp only [← e3] at c3 ⊢
  simp only [← e4] at c4 ⊢
  simp only [← e5] at c5 ⊢
  simp only [← e6] at c6 ⊢
  clear e1 e2 e3 e4 e5 e6 m hz hlo hhi hs hk hg
  go_enter Tryz.func67, Tryz.ntmps67
  go_wp2_with fail
  refine (ck _).mono ?_
  rintro e w1 ⟨rfl, rfl⟩
  go_wp2_with fail
  refine (cg _).mono ?_
  rintro e w1 ⟨rfl, rfl⟩
  go_wp2_with fail
  obtain ⟨W, hW⟩ : ∃ W, W = (w.alloc (.cells #[.int .i64 ((n : Int) + 1), .int .i64 g, .int .i64 o, .int .i64 wi, .int .i64 l, .int .i64 sz, .int .i64 f, .int .i64 t] 31)).alloc (.cells #[.int .i64 z, .int .i64 lo, .int .i64 hi] 165) := ⟨_, rfl⟩
  rw [← hW]
  have fW : Fr w W := by rw [hW]; exact (Fr.alloc _ _).trans (Fr.alloc _ _)
  have d0 : ∀ s : Later W, s.u.cell? ⟨w.heap.size, 0, none⟩ = some (.int .i64 ((n : Int) + 1)) := fun s => s.fr.cell (by rw [hW]; go_simp)
  have d1 : ∀ s : Later W, s.u.cell? ⟨w.heap.size, 1, none⟩ = some (.int .i64 g) := fun s => s.fr.cell (by rw [hW]; go_simp)
  have d2 : ∀ s : Later W, s.u.cell? ⟨w.heap.size, 2, none⟩ = some (.int .i64 o) := fun s => s.fr.cell (by rw [hW]; go_simp)
  have d3 : ∀ s : Later W, s.u.cell? ⟨w.heap.size, 3, none⟩ = some (.int .i64 wi) := fun s => s.fr.cell (by rw [hW]; go_simp)
  have d4 : ∀ s : Later W, s.u.cell? ⟨w.heap.size, 4, none⟩ = some (.int .i64 l) := fun s => s.fr.cell (by rw [hW]; go_simp)
  have d5 : ∀ s : Later W, s.u.cell? ⟨w.heap.size, 5, none⟩ = some (.int .i64 sz) := fun s => s.fr.cell (by rw [hW]; go_simp)
  have d6 : ∀ s : Later W, s.u.cell? ⟨w.heap.size, 6, none⟩ = some (.int .i64 f) := fun s => s.fr.cell (by rw [hW]; go_simp)
  have d7 : ∀ s : Later W, s.u.cell? ⟨w.heap.size, 7, none⟩ = some (.int .i64 t) := fun s => s.fr.cell (by rw [hW]; go_simp)
  have q0 : ∀ s : Later W, s.u.cell? ⟨w.heap.size + 1, 0, none⟩ = some (.int .i64 z) := fun s => s.fr.cell (by rw [hW]; go_simp)
  have q1 : ∀ s : Later W, s.u.cell? ⟨w.heap.size + 1, 1, none⟩ = some (.int .i64 lo) := fun s => s.fr.cell (by rw [hW]; go_simp)
  have q2 : ∀ s : Later W, s.u.cell? ⟨w.heap.size + 1, 2, none⟩ = some (.int .i64 hi) := fun s => s.fr.cell (by rw [hW]; go_simp)
  clear hW h1 h2 h3 hw0 ck cg hn
  have := Later.some W
  have hb : b1 = false ∨ (b1 = true ∧ b2 = false) ∨ (b1 = true ∧ b2 = true ∧ b3 = false) ∨ (b1 = true ∧ b2 = true ∧ b3 = true ∧ b4 = false) ∨ (b1 = true ∧ b2 = true ∧ b3 = true ∧ b4 = true ∧ b5 = false) ∨ (b1 = true ∧ b2 = true ∧ b3 = true ∧ b4 = true ∧ b5 = true) := by
    cases b1 <;> cases b2 <;> cases b3 <;> cases b4 <;> cases b5 <;> simp
  refine wp_region_grown (by kernel_rfl) (by kernel_rfl) ?_
  rcases hb with rfl | ⟨rfl, rfl⟩ | ⟨rfl, rfl, rfl⟩ | ⟨rfl, rfl, rfl, rfl⟩ | ⟨rfl, rfl, rfl, rfl, rfl⟩ | ⟨rfl, rfl, rfl, rfl, rfl⟩
  all_goals
    repeat (go_big_quiet_step (first | with_reducible exact Calls.grown_of (c1 _) | with_reducible exact Calls.grown_of (c2 _) | with_reducible exact Calls.grown_of (c3 _) | with_reducible exact Calls.grown_of (c4 _) | with_reducible exact Calls.grown_of (c5 _) | with_reducible exact Calls.grown_of (c6 _) | with_reducible exact Calls.grown_same (mostObj_any _ _)))
    refine wpQuiet_nil ?_
    rintro _ ⟨s, rfl⟩
    go_wp2_with fail
    go_ret
    exact ⟨ret_bool (by simp), fW.trans s.fr⟩
end Go.Proofs.YtihdablgnmkjnaaGreatDoor
/-
  What the row's condition says of the program's table; the world that the program's own initialisers leave meets it. An event that comes in as an argument.
-/
namespace Go.Proofs.YtihdablgnmkjnaaGreatDoor
open Go.ChangeShapes Go.WideShapes Go.ChangeAt Go.RowKit

theorem gShapes : Tryz.prog.globalNamed "loop.example/g00720/impl.shapes" = some 0 := by kernel_rfl
theorem tShapes : (Tryz.prog.globals[0]?).map (·.type) = some 166 := by kernel_rfl
theorem cells_int64 : Tryz.prog.cellsOf 2 = 1 := by kernel_rfl
theorem cells_shape : Tryz.prog.cellsOf 165 = 3 := by kernel_rfl

set_option maxRecDepth 20000 in
/-- A row of three numbers, read. -/
theorem three_of {H : Type} {enc : TypeId × Value → H} {W : World} {base : Nat} {sp : Nat → Bool} {held : Bool} {fuel : Nat} {cs : List Value} {p : List MemPlace} {a b c : Int}
    (h : DataW.trod enc Tryz.prog W base sp held fuel 165 cs = some (.agg [.lit (.int .i64 a), .lit (.int .i64 b), .lit (.int .i64 c)], p)) : cs = [.int .i64 a, .int .i64 b, .int .i64 c] := by
  obtain ⟨xs, m, -, hx, hl, hn, hf⟩ := DataW.trod_struct Tryz.underlying165 h
  rw [cells_shape] at hl
  match cs, hl with
  | [c0, c1, c2], _ =>
    match xs, hn with
    | [x0, x1, x2], _ =>
      have h0 := hf 0 _ rfl
      have h1 := hf 1 _ rfl
      have h2 := hf 2 _ rfl
      simp [cells_int64] at h0 h1 h2
      obtain ⟨n0, e0, rfl, _⟩ := DataW.trod_int Tryz.underlying2 h0
      obtain ⟨n1, e1, rfl, _⟩ := DataW.trod_int Tryz.underlying2 h1
      obtain ⟨n2, e2, rfl, _⟩ := DataW.trod_int Tryz.underlying2 h2
      simp at e0 e1 e2
      simp at hx
      obtain ⟨⟨rfl, rfl, rfl⟩, _⟩ := hx
      rw [e0, e1, e2]

theorem laid_row (n : Nat) (h : n < 22) : (match (Rows.laid_loop_example_g00720_impl_shapes : DataW Unit) with | .agg l => l[n + 1]? | _ => none) = some (.agg [.lit (.int .i64 (fldN n)), .lit (.int .i64 (loV ((n : Int) + 1))), .lit (.int .i64 (hiV ((n : Int) + 1)))]) :=
  match n, h with
  | 0, _ => rfl
  | 1, _ => rfl
  | 2, _ => rfl
  | 3, _ => rfl
  | 4, _ => rfl
  | 5, _ => rfl
  | 6, _ => rfl
  | 7, _ => rfl
  | 8, _ => rfl
  | 9, _ => rfl
  | 10, _ => rfl
  | 11, _ => rfl
  | 12, _ => rfl
  | 13, _ => rfl
  | 14, _ => rfl
  | 15, _ => rfl
  | 16, _ => rfl
  | 17, _ => rfl
  | 18, _ => rfl
  | 19, _ => rfl
  | 20, _ => rfl
  | 21, _ => rfl
  | m + 22, h => absurd h (by omega)

theorem shapes_of {W : World} {ps : List MemPlace} {rest : List (String × DataW Unit)} (h : DataW.LaidVars Tryz.prog W (("loop.example/g00720/impl.shapes", Rows.laid_loop_example_g00720_impl_shapes) :: rest) ps) : Shapes W := by
  obtain ⟨g, t, cs, fuel, p, q, hg, ht, hv, hd, -, -⟩ := h
  obtain rfl := Option.some.inj (gShapes.symm.trans hg)
  obtain rfl := Option.some.inj (tShapes.symm.trans ht)
  obtain ⟨xs, m, -, hx, hl, hn, hel⟩ := DataW.trod_array Tryz.underlying166 hd
  simp only [Prod.mk.injEq] at hx
  have hrow : ∀ n, n < 22 → (xs.map (·.1))[n + 1]? = some (.agg [.lit (.int .i64 (fldN n)), .lit (.int .i64 (loV ((n : Int) + 1))), .lit (.int .i64 (hiV ((n : Int) + 1)))]) := fun n hn => by
    have := laid_row n hn
    rw [hx.1] at this
    exact this
  intro n hn22
  have h1 := hrow n hn22
  rw [List.getElem?_map, Option.map_eq_some_iff] at h1
  obtain ⟨⟨y, py⟩, hy, hy2⟩ := h1
  simp only at hy2
  subst hy2
  have h2 := hel (n + 1) (by omega)
  rw [hy, cells_shape] at h2
  have h3 := three_of h2
  have hc : ∀ j, W.cell? ⟨0, j, none⟩ = cs[j]? := World.var?_cell gShapes hv
  have at_ : ∀ j, j < 3 → W.cell? ⟨0, (n + 1) * 3 + j, none⟩ = ([.int .i64 (fldN n), .int .i64 (loV ((n : Int) + 1)), .int .i64 (hiV ((n : Int) + 1))] : List Value)[j]? := fun j hj => by
    rw [hc, ← h3, List.getElem?_take, if_pos hj, List.getElem?_drop]
    simp
  exact ⟨by simpa using at_ 0 (by omega), by simpa using at_ 1 (by omega), by simpa using at_ 2 (by omega)⟩

/-- The numbers of an event fit. -/
def EvI (e : Ev) : Prop := I64 e.k ∧ I64 e.g ∧ I64 e.o ∧ I64 e.w ∧ I64 e.l ∧ I64 e.s ∧ I64 e.f ∧ I64 e.t

theorem cells_ev : Tryz.prog.cellsOf 60 = 8 := by kernel_rfl

theorem fit64 {n : Int} (h : (Lit.int .i64 n).wf = true) : I64 n := by
  have := bounds_i64 h
  exact ⟨by omega, by omega⟩

set_option maxRecDepth 20000 in
/-- An event that came in. -/
theorem ev_of_arg {H : Type} {enc : TypeId × Value → H} {W : World} {base b0 : Nat} {sp : Nat → Bool} {held : Bool} {r : Reach} {v : Value} {d : DataW H} {p : List MemPlace}
    (hv : Value.okWide Tryz.prog W r b0 60 v) (h : DataW.Trod enc Tryz.prog W base sp held 60 v d p) : ∃ e : Ev, v = .agg #[.int .i64 e.k, .int .i64 e.g, .int .i64 e.o, .int .i64 e.w, .int .i64 e.l, .int .i64 e.s, .int .i64 e.f, .int .i64 e.t] ∧ EvI e := by
  obtain ⟨cs, rfl, hsz⟩ := okWide_struct Tryz.underlying60 hv
  obtain ⟨fuel, hf⟩ := h
  obtain ⟨xs, m, -, hx, hl, hn, hfs⟩ := DataW.trod_struct Tryz.underlying60 hf
  rw [cells_ev] at hsz
  obtain ⟨l⟩ := cs
  match l, hsz with
  | [c0, c1, c2, c3, c4, c5, c6, c7], _ =>
    match xs, hn with
    | [x0, x1, x2, x3, x4, x5, x6, x7], _ =>
      have h0 := hfs 0 _ rfl
      have h1 := hfs 1 _ rfl
      have h2 := hfs 2 _ rfl
      have h3 := hfs 3 _ rfl
      have h4 := hfs 4 _ rfl
      have h5 := hfs 5 _ rfl
      have h6 := hfs 6 _ rfl
      have h7 := hfs 7 _ rfl
      simp [cells_int64, Value.cells] at h0 h1 h2 h3 h4 h5 h6 h7
      obtain ⟨n0, e0, -, w0⟩ := DataW.trod_int Tryz.underlying2 h0
      obtain ⟨n1, e1, -, w1⟩ := DataW.trod_int Tryz.underlying2 h1
      obtain ⟨n2, e2, -, w2⟩ := DataW.trod_int Tryz.underlying2 h2
      obtain ⟨n3, e3, -, w3⟩ := DataW.trod_int Tryz.underlying2 h3
      obtain ⟨n4, e4, -, w4⟩ := DataW.trod_int Tryz.underlying2 h4
      obtain ⟨n5, e5, -, w5⟩ := DataW.trod_int Tryz.underlying2 h5
      obtain ⟨n6, e6, -, w6⟩ := DataW.trod_int Tryz.underlying2 h6
      obtain ⟨n7, e7, -, w7⟩ := DataW.trod_int Tryz.underlying2 h7
      simp at e0 e1 e2 e3 e4 e5 e6 e7
      subst e0 e1 e2 e3 e4 e5 e6 e7
      exact ⟨⟨n0, n1, n2, n3, n4, n5, n6, n7⟩, rfl, fit64 w0, fit64 w1, fit64 w2, fit64 w3, fit64 w4, fit64 w5, fit64 w6, fit64 w7⟩
end Go.Proofs.YtihdablgnmkjnaaGreatDoor
/-
  Writes into one block.
-/
namespace Go.Proofs.YtihdablgnmkjnaaGreatDoor
open Go.RowKit

theorem grown_trans {a b c : World} {row : Option Nat} (h : a.grownBy b row) (k : b.grownBy c row) : a.grownBy c row :=
  ⟨k.os.trans h.os, k.tape.trans h.tape, k.output.trans h.output, Nat.le_trans h.size k.size, fun i hi hne => (k.block i (Nat.lt_of_lt_of_le hi h.size) hne).trans (h.block i hi hne)⟩
theorem grown_draw (w : World) (n : Nat) (row : Option Nat) : w.grownBy (w.drewN n) row := ⟨rfl, rfl, rfl, Nat.le_refl _, fun _ _ _ => rfl⟩
theorem grown_set (w : World) (g o : Nat) (v : Value) : w.grownBy (w.setCell ⟨g, o, none⟩ v) (some g) :=
  ⟨rfl, rfl, rfl, by simp, fun k _ hk => heap_setCell_other w ⟨g, o, none⟩ k v (fun e => hk (by simp [e]))⟩

theorem Fr.wide {w w' : World} {row : Option Nat} (h : Fr w w') : w.grownBy w' row := ⟨h.os, h.tape, h.output, h.size, fun i hi _ => h.block i hi (by simp)⟩
end Go.Proofs.YtihdablgnmkjnaaGreatDoor
/-
  The drawing cursor of the specification (l1Cur): what is drawn is in range, and a draw writes into the cursor alone.
-/
namespace Go.Proofs.YtihdablgnmkjnaaGreatDoor
open Go.RowKit

theorem i64_and255 (n : Int) : bits .and .i64 n 255 = n % 256 := by
  have h255 : (BitVec.ofInt 64 255).toNat = 2 ^ 8 - 1 := by decide
  have key : (BitVec.ofInt 64 n &&& BitVec.ofInt 64 255).toNat = (n % ((2 ^ 64 : Nat) : Int)).toNat % 2 ^ 8 := by
    rw [BitVec.toNat_and, BitVec.toNat_ofInt, h255, Nat.and_two_pow_sub_one_eq_mod]
  show IntKind.i64.wrap ((BitVec.ofInt 64 n &&& BitVec.ofInt 64 255).toNat : Nat) = n % 256
  rw [key, IntKind.wrap_i64]
  omega
theorem i64_and30 (n : Int) : bits .and .i64 n 1073741823 = n % 1073741824 := by
  have h30 : (BitVec.ofInt 64 1073741823).toNat = 2 ^ 30 - 1 := by decide
  have key : (BitVec.ofInt 64 n &&& BitVec.ofInt 64 1073741823).toNat = (n % ((2 ^ 64 : Nat) : Int)).toNat % 2 ^ 30 := by
    rw [BitVec.toNat_and, BitVec.toNat_ofInt, h30, Nat.and_two_pow_sub_one_eq_mod]
  show IntKind.i64.wrap ((BitVec.ofInt 64 n &&& BitVec.ofInt 64 1073741823).toNat : Nat) = n % 1073741824
  rw [key, IntKind.wrap_i64]
  omega

/-- The bytes of a slice: n of them at the address ao. -/
def Bytes (w : World) (g : Nat) (ao : Option Addr) (n : Nat) : Prop :=
  ∀ i, i < n → ∃ b off, ao = some ⟨b, off, none⟩ ∧ b < g ∧ ∀ j, j < n → ∃ x : Int, w.cell? ⟨b, off + j, none⟩ = some (.int .u8 x) ∧ 0 ≤ x ∧ x ≤ 255

theorem Bytes.keep {w w' : World} {g n : Nat} {ao : Option Addr} (h : Bytes w g ao n) (k : w.grownBy w' (some g)) : Bytes w' g ao n := by
  intro i hi
  obtain ⟨b, off, e, hb, hc⟩ := h i hi
  refine ⟨b, off, e, hb, fun j hj => ?_⟩
  obtain ⟨x, hx, h0, h1⟩ := hc j hj
  exact ⟨x, k.cell hx (by simp; omega), h0, h1⟩

/-- A right cursor lies in the block g. -/
def Cur (w : World) (g : Nat) : Prop :=
  ∃ ao n cap, ∃ i : Nat, ∃ h : Int, w.heap[g]? = some (.cells #[.slice ao n cap, .int .i64 i, .int .i64 h] 125 (0, 0)) ∧ i ≤ n ∧ n ≤ 4294967296 ∧ Bytes w g ao n

theorem cur_set {w : World} {g : Nat} {a0 a1 a2 : Value} {t : TypeId} (hg : w.heap[g]? = some (.cells #[a0, a1, a2] t (0, 0))) (v : Value) :
    (w.setCell ⟨g, 2, none⟩ v).heap[g]? = some (.cells #[a0, a1, v] t (0, 0)) ∧ (w.setCell ⟨g, 1, none⟩ v).heap[g]? = some (.cells #[a0, v, a2] t (0, 0)) := by
  have h1 := heap_setCell_same w g 2 #[a0, a1, a2] t v hg
  have h2 := heap_setCell_same w g 1 #[a0, a1, a2] t v hg
  exact ⟨by simpa using h1, by simpa using h2⟩

/-- A draw without a byte of the code: the number h has turned. -/
theorem cur_step {w : World} {g n cap i : Nat} {ao : Option Addr} {h : Int} (hg : w.heap[g]? = some (.cells #[.slice ao n cap, .int .i64 i, .int .i64 h] 125 (0, 0)))
    (hin : i ≤ n) (hn : n ≤ 4294967296) (hb : Bytes w g ao n) (h2 : Int) (a b : Nat) :
    Cur (((w.setCell ⟨g, 2, none⟩ (.int .i64 h2)).drewN a).drewN b) g ∧ w.grownBy (((w.setCell ⟨g, 2, none⟩ (.int .i64 h2)).drewN a).drewN b) (some g) := by
  have k : w.grownBy (((w.setCell ⟨g, 2, none⟩ (.int .i64 h2)).drewN a).drewN b) (some g) := grown_trans (grown_trans (grown_set w g 2 _) (grown_draw _ a _)) (grown_draw _ b _)
  exact ⟨⟨ao, n, cap, i, h2, (cur_set hg _).1, hin, hn, hb.keep k⟩, k⟩

/-- A draw with one. -/
theorem cur_step2 {w : World} {g n cap i : Nat} {ao : Option Addr} {h : Int} (hg : w.heap[g]? = some (.cells #[.slice ao n cap, .int .i64 i, .int .i64 h] 125 (0, 0)))
    (hin : i < n) (hn : n ≤ 4294967296) (hb : Bytes w g ao n) (h2 : Int) (a : Nat) :
    Cur (((w.setCell ⟨g, 2, none⟩ (.int .i64 h2)).drewN a).setCell ⟨g, 1, none⟩ (.int .i64 ((i : Int) + 1))) g ∧ w.grownBy (((w.setCell ⟨g, 2, none⟩ (.int .i64 h2)).drewN a).setCell ⟨g, 1, none⟩ (.int .i64 ((i : Int) + 1))) (some g) := by
  have k : w.grownBy (((w.setCell ⟨g, 2, none⟩ (.int .i64 h2)).drewN a).setCell ⟨g, 1, none⟩ (.int .i64 ((i : Int) + 1))) (some g) := grown_trans (grown_trans (grown_set w g 2 _) (grown_draw _ a _)) (grown_set _ g 1 _)
  have e : ((i : Int) + 1) = ((i + 1 : Nat) : Int) := by omega
  have h1 := (cur_set hg (.int .i64 h2)).1
  have h3 : ((w.setCell ⟨g, 2, none⟩ (.int .i64 h2)).drewN a).heap[g]? = _ := h1
  refine ⟨⟨ao, n, cap, i + 1, h2, ?_, hin, hn, hb.keep k⟩, k⟩
  rw [e]
  exact (cur_set h3 _).2

theorem emod_le_self (a n : Int) (h0 : 0 ≤ a) (hn : 0 < n) : a % n ≤ a := by
  have h1 := Int.mul_nonneg (show 0 ≤ n by omega) (Int.ediv_nonneg h0 (show 0 ≤ n by omega))
  rw [Int.emod_def]
  omega
theorem byte_in (n : Int) : 0 ≤ bits .and .i64 n 255 ∧ bits .and .i64 n 255 ≤ 255 := by rw [i64_and255]; omega

set_option maxHeartbeats 400000 in
theorem l1Byte_any (g : Nat) (w : World) (hc : Cur w g) :
    Calls Tryz.prog 169 #[.pointer (some ⟨g, 0, none⟩)] w fun e w' => ∃ x : Int, e = .returned (.int .i64 x) ∧ 0 ≤ x ∧ x ≤ 255 ∧ Cur w' g ∧ w.grownBy w' (some g) := by
  obtain ⟨ao, n, cap, i, h, hg, hin, hn, hb⟩ := hc
  have c0 : w.cell? ⟨g, 0, none⟩ = some (.slice ao n cap) := cell_of_row w g 0 _ _ _ hg
  have c1 : w.cell? ⟨g, 1, none⟩ = some (.int .i64 i) := cell_of_row w g 1 _ _ _ hg
  have c2 : w.cell? ⟨g, 2, none⟩ = some (.int .i64 h) := cell_of_row w g 2 _ _ _ hg
  have z1 : w.frozen? ⟨g, 1, none⟩ = false := frozen_of_row w g 1 _ _ hg
  have z2 : w.frozen? ⟨g, 2, none⟩ = false := frozen_of_row w g 2 _ _ hg
  by_cases hlt : i < n
  · obtain ⟨b, off, rfl, hbg, hx⟩ := hb i hlt
    obtain ⟨x, hxc, x0, x1⟩ := hx i hlt
    go_enter Tryz.func169, Tryz.ntmps169
    go_wp2
    generalize wrap64 (wrap64 (h * 6364136223846793005) + 1442695040888963407) = h2
    go_quiet (fail)
    go_wp2
    go_quiet (fail)
    go_wp2
    go_quiet (fail)
    go_wp2
    go_ret
    have k := cur_step2 hg hlt hn hb h2
    exact ⟨_, rfl, (byte_in _).1, (byte_in _).2, (k _).1, (k _).2⟩
  · go_enter Tryz.func169, Tryz.ntmps169
    go_wp2
    generalize wrap64 (wrap64 (h * 6364136223846793005) + 1442695040888963407) = h2
    go_quiet (fail)
    go_wp2
    go_quiet (fail)
    go_wp2
    go_ret
    have k := cur_step hg hin hn hb h2
    exact ⟨_, rfl, (byte_in _).1, (byte_in _).2, (k _ _).1, (k _ _).2⟩

set_option maxHeartbeats 400000 in
/-- A number from 0 to n less 1; 0 where n is not above 0. -/
theorem l1Below_any (g : Nat) (n : Int) (w : World) (hc : Cur w g) :
    Calls Tryz.prog 150 #[.pointer (some ⟨g, 0, none⟩), .int .i64 n] w fun e w' => ∃ x : Int, e = .returned (.int .i64 x) ∧ 0 ≤ x ∧ (0 < n → x < n) ∧ x ≤ 4294967295 ∧ Cur w' g ∧ w.grownBy w' (some g) := by
  by_cases h0 : n ≤ 0
  · go_enter Tryz.func150, Tryz.ntmps150
    go_wp2
    go_ret
    exact ⟨0, rfl, by omega, by omega, by omega, hc, ⟨rfl, rfl, rfl, Nat.le_refl _, fun _ _ _ => rfl⟩⟩
  · have h0' : 0 < n := by omega
    by_cases h1 : n ≤ 256
    · go_enter Tryz.func150, Tryz.ntmps150
      go_wp2_with fail
      refine (l1Byte_any _ _ hc).mono ?_
      rintro e w1 ⟨x, rfl, x0, x1, c1, k1⟩
      go_wp2_with fail
      go_ret
      have b1 := Int.emod_nonneg x (show n ≠ 0 by omega)
      have b2 := Int.emod_lt_of_pos x h0'
      exact ⟨_, rfl, b1, fun _ => b2, by omega, c1, k1⟩
    · go_enter Tryz.func150, Tryz.ntmps150
      go_wp2_with fail
      refine (l1Byte_any _ _ hc).mono ?_
      rintro e w1 ⟨x, rfl, x0, x1, c1, k1⟩
      go_wp2_with fail
      refine (l1Byte_any _ _ c1).mono ?_
      rintro e w2 ⟨y, rfl, y0, y1, c2, k2⟩
      go_wp2_with fail
      refine (l1Byte_any _ _ c2).mono ?_
      rintro e w3 ⟨z, rfl, z0, z1, c3, k3⟩
      go_wp2_with fail
      refine (l1Byte_any _ _ c3).mono ?_
      rintro e w4 ⟨u, rfl, u0, u1, c4, k4⟩
      go_wp2_with fail
      go_ret
      have b0 : 0 ≤ x * 16777216 + y * 65536 + z * 256 + u := by omega
      have b1 := Int.emod_nonneg (x * 16777216 + y * 65536 + z * 256 + u) (show n ≠ 0 by omega)
      have b2 := Int.emod_lt_of_pos (x * 16777216 + y * 65536 + z * 256 + u) h0'
      have b3 : (x * 16777216 + y * 65536 + z * 256 + u) % n ≤ x * 16777216 + y * 65536 + z * 256 + u := emod_le_self _ _ b0 h0'
      exact ⟨_, rfl, b1, fun _ => b2, by omega, c4, grown_trans (grown_trans (grown_trans k1 k2) k3) k4⟩

theorem l1Once_any (g : Nat) (n : Int) (w : World) (hc : Cur w g) :
    Calls Tryz.prog 94 #[.pointer (some ⟨g, 0, none⟩), .int .i64 n] w fun e w' => ∃ b : Bool, e = .returned (.bool b) ∧ Cur w' g ∧ w.grownBy w' (some g) := by
  go_enter Tryz.func94, Tryz.ntmps94
  go_wp2_with fail
  refine (l1Below_any _ _ _ hc).mono ?_
  rintro e w1 ⟨x, rfl, x0, x1, x2, c1, k1⟩
  go_wp2_with fail
  go_ret
  exact ⟨_, rfl, c1, k1⟩

/-- What else is written and made leaves the cursor as it is. -/
theorem Cur.other {w w' : World} {g : Nat} {row : Option Nat} (h : Cur w g) (k : w.grownBy w' row) (hr : ∀ j, row = some j → g < j) : Cur w' g := by
  obtain ⟨ao, n, cap, i, hh, hg, hin, hn, hb⟩ := h
  have hlt : g < w.heap.size := (Array.getElem?_eq_some_iff.1 hg).1
  refine ⟨ao, n, cap, i, hh, ?_, hin, hn, fun i hi => ?_⟩
  · rw [k.block g hlt (fun e => by have := hr g e.symm; omega)]; exact hg
  · obtain ⟨b, off, e, hbg, hc⟩ := hb i hi
    refine ⟨b, off, e, hbg, fun j hj => ?_⟩
    obtain ⟨x, hx, h0, h1⟩ := hc j hj
    exact ⟨x, k.cell hx (fun e => by have := hr b e.symm; omega), h0, h1⟩
theorem Cur.lt {w : World} {g : Nat} (h : Cur w g) : g < w.heap.size := by
  obtain ⟨ao, n, cap, i, hh, hg, _⟩ := h
  exact (Array.getElem?_eq_some_iff.1 hg).1
theorem Cur.fr {w w' : World} {g : Nat} (h : Cur w g) (k : Fr w w') : Cur w' g := h.other k (by simp)
/-- What is new, and writes into it, beside the writes into the block g. -/
theorem grown_then {a b c : World} {g : Nat} {row : Option Nat} (h : a.grownBy b (some g)) (k : b.grownBy c row) (hr : ∀ j, row = some j → a.heap.size ≤ j ∨ j = g) : a.grownBy c (some g) :=
  ⟨k.os.trans h.os, k.tape.trans h.tape, k.output.trans h.output, Nat.le_trans h.size k.size,
    fun i hi hne => (k.block i (Nat.lt_of_lt_of_le hi h.size) (fun e => by rcases hr i e.symm with q | q; omega; exact hne (by rw [q]))).trans (h.block i hi hne)⟩
theorem grown_refl (w : World) (row : Option Nat) : w.grownBy w row := ⟨rfl, rfl, rfl, Nat.le_refl _, fun _ _ _ => rfl⟩

/-- One of some numbers that lie in a block of their own. -/
theorem lit_cell {w : World} {t : TypeId} (zs : List Int) (hz : ∀ z ∈ zs, I64 z) (k : Nat) (hk : k < zs.length) :
    ∃ z, I64 z ∧ (w.alloc (.cells (zs.map (Value.int .i64)).toArray t)).cell? ⟨w.heap.size, k, none⟩ = some (.int .i64 z) := by
  refine ⟨zs[k], hz _ (List.getElem_mem hk), ?_⟩
  rw [cell_of_row _ _ _ _ _ _ (heap_alloc_new w _)]
  simp [hk]

set_option maxHeartbeats 400000 in
theorem l1Odd_any (g : Nat) (w : World) (hc : Cur w g) :
    Calls Tryz.prog 155 #[.pointer (some ⟨g, 0, none⟩)] w fun e w' => ∃ x : Int, e = .returned (.int .i64 x) ∧ I64 x ∧ Cur w' g ∧ w.grownBy w' (some g) := by
  have hlt := hc.lt
  go_enter Tryz.func155, Tryz.ntmps155
  go_wp2_with fail
  refine (l1Below_any _ _ _ (hc.fr (Fr.alloc _ _))).mono ?_
  rintro e w1 ⟨x, rfl, x0, x1, x2, c1, k1⟩
  have x3 : x < 10 := x1 (by omega)
  clear x1 x2
  obtain ⟨k, rfl⟩ := Int.eq_ofNat_of_zero_le x0
  obtain ⟨z, hz, hcell⟩ := lit_cell (w := w) (t := 2) [-1, 0, 1, 2147483648, -2147483648, 1099511627776, 4611686018427387904, -4611686018427387904, 9223372036854775807, -9223372036854775808] (by intro z hz; simp at hz; rcases hz with rfl | rfl | rfl | rfl | rfl | rfl | rfl | rfl | rfl | rfl <;> exact ⟨by decide, by decide⟩) k (by simp; omega)
  have hcell2 := k1.cell hcell (by simp; omega)
  have hk10 : k < 10 := by omega
  clear hcell
  go_wp2_with fail
  go_ret
  exact ⟨z, rfl, hz, c1, grown_then (Fr.alloc w _).wide k1 (by intro j hj; right; simpa using hj.symm)⟩

set_option maxHeartbeats 400000 in
theorem l1Min_any (a b : Int) (w : World) :
    Calls Tryz.prog 153 #[.int .i64 a, .int .i64 b] w fun e w' => e = .returned (.int .i64 (min a b)) ∧ w' = w := by
  by_cases h : a < b
  · go_enter Tryz.func153, Tryz.ntmps153
    go_wp2
    go_ret
    exact ⟨ret_int (by omega), rfl⟩
  · go_enter Tryz.func153, Tryz.ntmps153
    go_wp2
    go_ret
    exact ⟨ret_int (by omega), rfl⟩

set_option maxHeartbeats 400000 in
theorem l1Num_any (g : Nat) (most : Int) (w : World) (hc : Cur w g) (m0 : 0 ≤ most) (m1 : most ≤ 4611686018427387904) :
    Calls Tryz.prog 151 #[.pointer (some ⟨g, 0, none⟩), .int .i64 most] w fun e w' => ∃ x : Int, e = .returned (.int .i64 x) ∧ I64 x ∧ Cur w' g ∧ w.grownBy w' (some g) := by
  go_enter Tryz.func151, Tryz.ntmps151
  go_wp2_with fail
  refine (l1Once_any _ _ _ hc).mono ?_
  rintro e w1 ⟨b, rfl, c1, k1⟩
  cases b
  · go_wp2_with fail
    refine (l1Once_any _ _ _ c1).mono ?_
    rintro e w2 ⟨b, rfl, c2, k2⟩
    cases b
    · go_wp2_with fail
      refine (l1Below_any _ _ _ c2).mono ?_
      rintro e w3 ⟨x, rfl, x0, x1, x2, c3, k3⟩
      go_wp2_with fail
      go_ret
      exact ⟨x, rfl, ⟨by omega, by omega⟩, c3, grown_trans (grown_trans k1 k2) k3⟩
    · go_wp2_with fail
      refine (l1Min_any _ _ _).mono ?_
      rintro e w3 ⟨rfl, rfl⟩
      obtain ⟨q, hq⟩ : ∃ q, q = min most 4 := ⟨_, rfl⟩
      have q0 : 0 ≤ q ∧ q ≤ 4 := by omega
      simp only [← hq]
      clear hq
      obtain ⟨q1, q2⟩ := q0
      go_wp2_with fail
      refine (l1Below_any _ _ _ c2).mono ?_
      rintro e w4 ⟨x, rfl, x0, x1, x2, c3, k3⟩
      go_wp2_with fail
      go_ret
      exact ⟨x, rfl, ⟨by omega, by omega⟩, c3, grown_trans (grown_trans k1 k2) k3⟩
  · go_wp2_with fail
    refine (l1Odd_any _ _ c1).mono ?_
    rintro e w2 ⟨o, rfl, ho, c2, k2⟩
    have hlt := c2.lt
    go_wp2_with fail
    refine (l1Below_any _ _ _ (c2.fr (Fr.alloc _ _))).mono ?_
    rintro e w3 ⟨x, rfl, x0, x1, x2, c3, k3⟩
    have x3 : x < 4 := x1 (by omega)
    clear x1 x2
    obtain ⟨k, rfl⟩ := Int.eq_ofNat_of_zero_le x0
    obtain ⟨z, hz, hcell⟩ := lit_cell (w := w2) (t := 2) [-1, most, most + 1, o] (by intro z hz; simp at hz; rcases hz with rfl | rfl | rfl | rfl; exact ⟨by decide, by decide⟩; exact ⟨by omega, by omega⟩; exact ⟨by omega, by omega⟩; exact ho) k (by simp; omega)
    have hcell2 := k3.cell hcell (by simp; omega)
    have hk4 : k < 4 := by omega
    clear hcell
    go_wp2_with fail
    go_ret
    exact ⟨z, rfl, hz, c3, grown_trans (grown_trans k1 k2) (grown_then (Fr.alloc w2 _).wide k3 (by intro j hj; right; simpa using hj.symm))⟩
end Go.Proofs.YtihdablgnmkjnaaGreatDoor
/-
  A cursor over the bytes of a code: l1New; and the laws' test 'big'.
-/
namespace Go.Proofs.YtihdablgnmkjnaaGreatDoor
open Go.RowKit

theorem row_some {g : Nat} {P : Nat → Prop} (h : P g) : ∀ j, some g = some j → P j := by
  intro j e
  simp only [Option.some.injEq] at e
  subst e
  exact h

/-- n bytes lie at the address ao. -/
def ByteRow (w : World) (ao : Option Addr) (n : Nat) : Prop :=
  ∀ i, i < n → ∃ b off, ao = some ⟨b, off, none⟩ ∧ ∀ j, j < n → ∃ x : Int, w.cell? ⟨b, off + j, none⟩ = some (.int .u8 x) ∧ 0 ≤ x ∧ x ≤ 255

theorem bytes_of_row {w : World} {a : Option Addr} {len cap : Nat} {zs : List Int}
    (h : (a = none ∧ len = 0 ∧ cap = 0 ∧ zs = []) ∨ ∃ x, a = some x ∧ len ≤ cap ∧ cap ≤ maxLen ∧ zs.length = cap ∧ (∀ i, i < zs.length → w.cell? (x.add i) = some (.int .u8 (zs.getD i 0))) ∧ ∀ n ∈ zs, (Lit.int .u8 n).wf = true) :
    ByteRow w a len := by
  rcases h with ⟨rfl, rfl, rfl, rfl⟩ | ⟨x, rfl, h1, h2, h3, h4, h5⟩
  · intro i hi; omega
  · intro i hi
    obtain ⟨b, off, spot⟩ := x
    have hc := h4 0 (by omega)
    have hspot : spot = none := by
      have := World.cell?_spot hc
      simpa [Addr.add] using this
    subst hspot
    refine ⟨b, off, rfl, fun j hj => ?_⟩
    have hj' : j < zs.length := by omega
    have := h4 j hj'
    rw [Addr.add_lit] at this
    have hb := bounds_u8 (h5 _ (List.getElem_mem hj'))
    rw [getD_at hj'] at this
    exact ⟨zs[j], this, by omega, by omega⟩

theorem ByteRow.fr {w w' : World} {ao : Option Addr} {n : Nat} (h : ByteRow w ao n) (k : Fr w w') : ByteRow w' ao n := by
  intro i hi
  obtain ⟨b, off, e, hc⟩ := h i hi
  refine ⟨b, off, e, fun j hj => ?_⟩
  obtain ⟨x, hx, r⟩ := hc j hj
  exact ⟨x, k.cell hx, r⟩

theorem cur_new {w : World} {ao : Option Addr} {n cap : Nat} (h : ByteRow w ao n) (hn : n ≤ 4294967296) (hv : Int) :
    Cur (w.alloc (.cells #[.slice ao n cap, .int .i64 0, .int .i64 hv] 125)) w.heap.size := by
  refine ⟨ao, n, cap, 0, hv, heap_alloc_new w _, Nat.zero_le _, hn, fun i hi => ?_⟩
  obtain ⟨b, off, e, hc⟩ := h i hi
  obtain ⟨x, hx, _⟩ := hc i hi
  refine ⟨b, off, e, World.block_lt_of_cell? w _ hx, fun j hj => ?_⟩
  obtain ⟨x, hx, r⟩ := hc j hj
  exact ⟨x, (Fr.alloc w _).cell hx, r⟩

theorem and30_in (n : Int) : 0 ≤ bits .and .i64 n 1073741823 ∧ bits .and .i64 n 1073741823 ≤ 1073741823 := by rw [i64_and30]; omega

set_option maxHeartbeats 400000 in
theorem l1New_any (ao : Option Addr) (n cap : Nat) (w : World) (h : ByteRow w ao n) (hn : n ≤ 4294967296) :
    Calls Tryz.prog 38 #[.slice ao n cap] w fun e w' => e = .returned (.pointer (some ⟨w.heap.size, 0, none⟩)) ∧ Cur w' w.heap.size ∧ Fr w w' := by
  go_enter Tryz.func38, Tryz.ntmps38
  go_wp2_with fail
  go_loop [3, 4] (fun hh i => ∃ k : Nat, ∃ hv : Int, k ≤ n ∧ i = .int .i64 k ∧ hh = .int .i64 hv ∧ 0 ≤ hv ∧ hv ≤ 8589934592) (fun _ i => n - (intOf i).toNat)
  case atStart => exact ⟨0, 161803 + (n : Int), Nat.zero_le _, rfl, rfl, by omega, by omega⟩
  case round =>
    obtain ⟨k, hv, hk, rfl, rfl, b0, b1⟩ := hrel
    by_cases hlt : k < n
    · obtain ⟨b, off, rfl, hc⟩ := h k hlt
      obtain ⟨x, hx, x0, x1⟩ := hc k hlt
      clear hc
      go_wp2_with fail
      go_round
      case rel => exact ⟨k + 1, _, by omega, by go_num, rfl, (and30_in _).1, by have := (and30_in (hv * 199 + x + 11)).2; omega⟩
      case measure => simp [intOf]; omega
    · go_wp2_with fail
      go_ret
      exact ⟨rfl, cur_new h hn hv, Fr.alloc _ _⟩

theorem big_any (ao : Option Addr) (n cap : Nat) (w : World) (_hn : n ≤ 9223372036854775807) :
    Calls Tryz.prog 8 #[.slice ao n cap] w fun e w' => e = .returned (.bool (decide (4096 < (n : Int)))) ∧ w' = w := by
  go_enter Tryz.func8, Tryz.ntmps8
  go_wp2
  go_ret
  exact ⟨rfl, rfl⟩
end Go.Proofs.YtihdablgnmkjnaaGreatDoor
/-
  The laws' dice: roll, below.
-/
namespace Go.Proofs.YtihdablgnmkjnaaGreatDoor
open Go.RowKit

/-- A block that is a dice. -/
def Dice (w : World) (d : Nat) (ao : Option Addr) (n cap i : Nat) (h : Int) : Prop := w.heap[d]? = some (.cells #[.slice ao n cap, .int .i64 i, .int .u64 h] 98 (0, 0))

theorem Dice.lt {w : World} {d n cap i : Nat} {ao : Option Addr} {h : Int} (hd : Dice w d ao n cap i h) : d < w.heap.size := (Array.getElem?_eq_some_iff.1 hd).1
theorem Dice.fr {w w' : World} {d n cap i : Nat} {ao : Option Addr} {h : Int} (hd : Dice w d ao n cap i h) (k : Fr w w') : Dice w' d ao n cap i h := (k.block d hd.lt (by simp)).trans hd

theorem u64_and24 (n : Int) : 0 ≤ bits .and .u64 n 16777215 ∧ bits .and .u64 n 16777215 ≤ 16777215 := by
  have key : (BitVec.ofInt 64 n &&& BitVec.ofInt 64 16777215).toNat ≤ 16777215 := by
    rw [BitVec.toNat_and]
    exact Nat.le_trans Nat.and_le_right (by decide)
  show 0 ≤ IntKind.u64.wrap ((BitVec.ofInt 64 n &&& BitVec.ofInt 64 16777215).toNat : Nat) ∧ IntKind.u64.wrap ((BitVec.ofInt 64 n &&& BitVec.ofInt 64 16777215).toNat : Nat) ≤ 16777215
  rw [IntKind.wrap_u64]
  omega

set_option maxRecDepth 20000 in
set_option maxHeartbeats 2000000 in
theorem roll_any (ao : Option Addr) (n cap : Nat) (sd : Int) (w : World) (hbr : ByteRow w ao n) (hn : n ≤ 4096) :
    Calls Tryz.prog 17 #[.slice ao n cap, .int .u64 sd] w fun e w' => ∃ d h, e = .returned (.pointer (some ⟨d, 0, none⟩)) ∧ Dice w' d ao n cap 0 h ∧ w.heap.size ≤ d ∧ Fr w w' := by
  have f0 := fun h => Fr.alloc w (.cells #[.slice ao n cap, .int .i64 0, .int .u64 h] 98)
  have D0 : ∀ h, Dice (w.alloc (.cells #[.slice ao n cap, .int .i64 0, .int .u64 h] 98)) w.heap.size ao n cap 0 h := fun h => heap_alloc_new w _
  go_enter Tryz.func17, Tryz.ntmps17
  go_wp2_with fail
  generalize IntKind.u64.wrap (IntKind.u64.wrap (sd * 7919) + (n : Int)) = H
  have f0 := f0 H
  have D0 := D0 H
  obtain ⟨d, hd⟩ : ∃ d, d = w.heap.size := ⟨_, rfl⟩
  rw [← hd] at D0 ⊢
  have HD : Hid (w.heap.size ≤ d) := Nat.le_of_eq hd.symm
  clear hd
  go_loopw [6] (fun i wr => ∃ (k : Nat) (h : Int), k ≤ n ∧ i = .int .i64 k ∧ Dice wr d ao n cap 0 h ∧ Fr w wr) (fun i _ => n - (intOf i).toNat)
  case atStart => exact ⟨0, H, Nat.zero_le _, rfl, D0, f0⟩
  case round =>
    clear D0 f0
    obtain ⟨k, h, hk, rfl, hD, hf⟩ := hrel
    have c0 : wr.cell? ⟨d, 0, none⟩ = some (.slice ao n cap) := cell_of_row wr d 0 _ _ _ hD
    have c1 : wr.cell? ⟨d, 1, none⟩ = some (.int .i64 0) := cell_of_row wr d 1 _ _ _ hD
    have c2 : wr.cell? ⟨d, 2, none⟩ = some (.int .u64 h) := cell_of_row wr d 2 _ _ _ hD
    have hz := fun j => frozen_of_row wr d j _ _ hD
    by_cases hlt : k < n
    · obtain ⟨b, off, rfl, hb⟩ := hbr k hlt
      obtain ⟨x, hx, hx0, hx1⟩ := hb k hlt
      have hx := hf.cell hx
      have hS : ∀ v : Int, Dice ((wr.drewN 1).setCell ⟨d, 2, none⟩ (.int .u64 v)) d (some ⟨b, off, none⟩) n cap 0 v := fun v => heap_setCell_same (wr.drewN 1) d 2 _ _ (.int .u64 v) hD
      have HS : Hid _ := hS
      clear hS hb
      have hi : (k : Int) < n := by omega
      go_wp2_with fail
      go_region
      all_goals
        go_wp2_with fail
        go_roundw
        case rel => exact ⟨k + 1, _, by omega, by go_num, HS.out _, (hf.trans (Fr.drew wr)).then (grown_set _ _ _ _) (fun j hj => by simp only [Option.some.injEq] at hj; have := HD.out; omega)⟩
        case measure => simp [intOf]; omega
    · go_wp2_with fail
      go_ret
      exact ⟨d, h, rfl, hD, HD.out, hf⟩
set_option maxRecDepth 20000 in
set_option maxHeartbeats 2000000 in
theorem below_any (d : Nat) (ao : Option Addr) (n cap i : Nat) (h N : Int) (w : World) (hd : Dice w d ao n cap i h) (hn : n ≤ 4096) (hbr : ByteRow w ao n) (hdb : 0 < n → ∀ k, blk ao = some k → k ≠ d) (hN : 1 ≤ N) (hN2 : N ≤ 1000000) :
    Calls Tryz.prog 19 #[.pointer (some ⟨d, 0, none⟩), .int .i64 N] w fun e w' => ∃ r : Int, e = .returned (.int .i64 r) ∧ 0 ≤ r ∧ r < N ∧ w.grownBy w' (some d) ∧ ∃ i' h', Dice w' d ao n cap i' h' := by
  have c0 : w.cell? ⟨d, 0, none⟩ = some (.slice ao n cap) := cell_of_row w d 0 _ _ _ hd
  have c1 : w.cell? ⟨d, 1, none⟩ = some (.int .i64 i) := cell_of_row w d 1 _ _ _ hd
  have c2 : w.cell? ⟨d, 2, none⟩ = some (.int .u64 h) := cell_of_row w d 2 _ _ _ hd
  have hf := fun j => frozen_of_row w d j _ _ hd
  have D1 : ∀ v, Dice (w.setCell ⟨d, 2, none⟩ (.int .u64 v)) d ao n cap i v := fun v => heap_setCell_same w d 2 _ _ (.int .u64 v) hd
  go_enter Tryz.func19, Tryz.ntmps19
  go_wp2_with fail
  generalize IntKind.u64.wrap (IntKind.u64.wrap (h * 6364136223846793005) + 1442695040888963407) = H
  have hX := u64_and24 (H / 8589934592)
  generalize bits BinOp.and IntKind.u64 (H / 8589934592) 16777215 = Y at hX ⊢
  have hY : wrap64 Y = Y := by
    unfold wrap64
    omega
  rw [hY]
  have D1 := D1 H
  have g1 := grown_set w d 2 (.int .u64 H)
  clear c0 c1 c2 hf
  generalize hW : w.setCell ⟨d, 2, none⟩ (.int .u64 H) = W at D1 g1 ⊢
  clear hW hd
  have c0 : W.cell? ⟨d, 0, none⟩ = some (.slice ao n cap) := cell_of_row W d 0 _ _ _ D1
  have c1 : W.cell? ⟨d, 1, none⟩ = some (.int .i64 i) := cell_of_row W d 1 _ _ _ D1
  have c2 : W.cell? ⟨d, 2, none⟩ = some (.int .u64 H) := cell_of_row W d 2 _ _ _ D1
  have hf := fun j => frozen_of_row W d j _ _ D1
  go_region_held3 (fun u => u.cell? ⟨d, 0, none⟩ = some (.slice ao n cap) ∧ u.cell? ⟨d, 1, none⟩ = some (.int .i64 i) ∧ u.cell? ⟨d, 2, none⟩ = some (.int .u64 H)) (go_keep) (fail)
  by_cases hin : i < n
  · obtain ⟨b, off, rfl, hb⟩ := hbr i hin
    obtain ⟨x, hx, hx0, hx1⟩ := hb i hin
    have hdd := hdb (by omega) b rfl
    have hx := g1.cell hx (by simpa using hdd)
    have hiI : (i : Int) < n := by omega
    have D2 : Hid (Dice (W.setCell ⟨d, 1, none⟩ (.int .i64 ((i + 1 : Nat) : Int))) d (some ⟨b, off, none⟩) n cap (i + 1) H) := heap_setCell_same W d 1 _ _ (.int .i64 ((i + 1 : Nat) : Int)) D1
    clear hb hbr
    go_wp2_with fail
    go_region_held3 (fun u => u.cell? ⟨d, 0, none⟩ = some (.slice (some ⟨b, off, none⟩) n cap) ∧ u.cell? ⟨d, 1, none⟩ = some (.int .i64 i) ∧ u.cell? ⟨d, 2, none⟩ = some (.int .u64 H) ∧ u.cell? ⟨b, off + i, none⟩ = some (.int .u8 x)) (go_keep) (fail)
    go_wp2_with fail
    go_ret
    exact ⟨_, rfl, Int.emod_nonneg _ (by omega), Int.emod_lt_of_pos _ (by omega), grown_trans g1 (grown_trans (grown_set W d 1 _) (grown_trans (Fr.drew _).wide (Fr.drew _).wide)), i + 1, H, ((D2.out).fr (Fr.drew _)).fr (Fr.drew _)⟩
  · go_wp2_with fail
    go_ret
    exact ⟨_, rfl, Int.emod_nonneg _ (by omega), Int.emod_lt_of_pos _ (by omega), grown_trans g1 (Fr.drew _).wide, i, H, D1.fr (Fr.drew _)⟩
end Go.Proofs.YtihdablgnmkjnaaGreatDoor
