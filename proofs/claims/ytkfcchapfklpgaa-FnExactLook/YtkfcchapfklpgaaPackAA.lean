/-
  The range tests: l1In of the specification, gorInRange and tickInRange of the program.
-/
import Derived.Test.YtkfcchapfklpgaaRows
import Derived.WalkKit
import Derived.WalkLawsBesides
import Derived.Below
import Derived.BigQuiet
import Derived.Deep.QuietTactic
import Derived.OpenShut
import Derived.ProofKit
import Derived.LaidMore
import Derived.Stop.Joined
import Derived.OpenVars
namespace Go.Proofs.Ytkfcchapfklpgaa
open Go.RowKit

/-- Is x from lo to hi? -/
def inB (lo hi x : Int) : Bool := decide (lo ≤ x) && decide (x ≤ hi)

theorem inB_true {lo hi x : Int} (h : inB lo hi x = true) : lo ≤ x ∧ x ≤ hi := by simpa [inB] using h
theorem inB_mk {lo hi x : Int} (h1 : lo ≤ x) (h2 : x ≤ hi) : inB lo hi x = true := by simp [inB, h1, h2]
theorem inB_not {lo hi x : Int} (h : x < lo ∨ hi < x) : inB lo hi x = false := by
  simp only [inB, Bool.and_eq_false_iff, decide_eq_false_iff_not]; omega
theorem inB_false {lo hi x : Int} (h : inB lo hi x = false) : x < lo ∨ hi < x := by
  simp only [inB, Bool.and_eq_false_iff, decide_eq_false_iff_not] at h; omega

theorem ret_int {k : IntKind} {a b : Int} (h : a = b) : Ending.returned (.int k a) = .returned (.int k b) := by rw [h]
theorem ret_bool {a b : Bool} (h : a = b) : Ending.returned (.bool a) = .returned (.bool b) := by rw [h]

theorem l1In_any (x lo hi : Int) (w : World) :
    Calls Try.prog 23 #[.int .i64 x, .int .i64 lo, .int .i64 hi] w fun e w' => e = .returned (.bool (inB lo hi x)) ∧ w' = w := by
  by_cases h : lo ≤ x
  · by_cases h2 : x ≤ hi
    · rw [inB_mk h h2]
      go_enter Try.func23, Try.ntmps23
      go_wp2
      go_ret
      exact ⟨rfl, rfl⟩
    · rw [inB_not (by omega)]
      go_enter Try.func23, Try.ntmps23
      go_wp2
      go_ret
      exact ⟨rfl, rfl⟩
  · rw [inB_not (by omega)]
    go_enter Try.func23, Try.ntmps23
    go_wp2
    go_ret
    exact ⟨rfl, rfl⟩

theorem gorIn_any (x : Int) (w : World) :
    Calls Try.prog 57 #[.int .i64 x] w fun e w' => e = .returned (.bool (inB 0 15 x)) ∧ w' = w := by
  by_cases h : 0 ≤ x
  · by_cases h2 : x < 16
    · rw [inB_mk h (by omega)]
      go_enter Try.func57, Try.ntmps57
      go_wp2
      go_ret
      exact ⟨rfl, rfl⟩
    · rw [inB_not (by omega)]
      go_enter Try.func57, Try.ntmps57
      go_wp2
      go_ret
      exact ⟨rfl, rfl⟩
  · rw [inB_not (by omega)]
    go_enter Try.func57, Try.ntmps57
    go_wp2
    go_ret
    exact ⟨rfl, rfl⟩


theorem within_any (x lo hi : Int) (w : World) :
    Calls Try.prog 29 #[.int .i64 x, .int .i64 lo, .int .i64 hi] w fun e w' => e = .returned (.bool (inB lo hi x)) ∧ w' = w := by
  by_cases h : lo ≤ x
  · by_cases h2 : x ≤ hi
    · rw [inB_mk h h2]
      go_enter Try.func29, Try.ntmps29
      go_wp2
      go_ret
      exact ⟨rfl, rfl⟩
    · rw [inB_not (by omega)]
      go_enter Try.func29, Try.ntmps29
      go_wp2
      go_ret
      exact ⟨rfl, rfl⟩
  · rw [inB_not (by omega)]
    go_enter Try.func29, Try.ntmps29
    go_wp2
    go_ret
    exact ⟨rfl, rfl⟩
end Go.Proofs.Ytkfcchapfklpgaa
/-
  Slices of int64 in memory: what it is that one reads as a list of numbers, that a call owns one, and how both outlast what other calls do.
-/
namespace Go.Proofs.Ytkfcchapfklpgaa
open Go.RowKit

/-- Only new blocks: what was there is as it was. -/
def Fr (w w' : World) : Prop := w.grownBy w' none

theorem Fr.refl (w : World) : Fr w w := ⟨rfl, rfl, rfl, Nat.le_refl _, fun _ _ _ => rfl⟩
theorem Fr.trans {a b c : World} (h : Fr a b) (k : Fr b c) : Fr a c :=
  ⟨k.os.trans h.os, k.tape.trans h.tape, k.output.trans h.output, Nat.le_trans h.size k.size, fun i hi _ => (k.block i (Nat.lt_of_lt_of_le hi h.size) (by simp)).trans (h.block i hi (by simp))⟩
theorem Fr.drewN (w : World) (n : Nat) : Fr w (w.drewN n) := ⟨rfl, rfl, rfl, Nat.le_refl _, fun _ _ _ => rfl⟩
theorem drew2 (w : World) (a b : Nat) : (w.drewN a).drewN b = w.drewN (a + b) := by simp [World.drewN, Nat.add_assoc]
theorem Fr.drew (w : World) : Fr w w.drew := ⟨rfl, rfl, rfl, Nat.le_refl _, fun _ _ _ => rfl⟩
theorem Fr.alloc (w : World) (o : Obj) : Fr w (w.alloc o) := World.grownBy_alloc w o none
/-- Behind new blocks alone, a write into one of those. -/
theorem Fr.then {a b c : World} {row : Option Nat} (h : Fr a b) (k : b.grownBy c row) (hr : ∀ j, row = some j → a.heap.size ≤ j) : Fr a c :=
  ⟨k.os.trans h.os, k.tape.trans h.tape, k.output.trans h.output, Nat.le_trans h.size k.size,
    fun i hi _ => (k.block i (Nat.lt_of_lt_of_le hi h.size) (fun e => by have := hr i e.symm; omega)).trans (h.block i hi (by simp))⟩
theorem Fr.below {w w' : World} (h : Fr w w') : Below w.heap.size w w' := ⟨h.os, h.tape, h.output, h.size, fun k hk => h.block k hk (by simp)⟩
theorem Fr.cell {w w' : World} (h : Fr w w') {p : Addr} {v : Value} (hc : w.cell? p = some v) : w'.cell? p = some v := World.grownBy.cell h hc (by simp)

/-- The greatest and the least int64. -/
def I64 (x : Int) : Prop := -9223372036854775808 ≤ x ∧ x ≤ 9223372036854775807

/-- A slice at the address ao reads as the numbers xs. -/
structure Reads (w : World) (ao : Option Addr) (xs : List Int) : Prop where
  len : xs.length ≤ 4294967296
  bd : ∀ x ∈ xs, I64 x
  at_ : ∀ i, i < xs.length → ∃ b off, ao = some ⟨b, off, none⟩ ∧ ∀ j, j < xs.length → w.cell? ⟨b, off + j, none⟩ = some (.int .i64 (xs.getD j 0))

theorem Reads.nil (w : World) (ao : Option Addr) : Reads w ao [] := ⟨by simp, by simp, by simp⟩

theorem Reads.bdAt {w : World} {ao : Option Addr} {xs : List Int} (h : Reads w ao xs) (i : Nat) : I64 (xs.getD i 0) := by
  by_cases hi : i < xs.length
  · rw [List.getD_eq_getElem?_getD, List.getElem?_eq_getElem hi]; exact h.bd _ (List.getElem_mem hi)
  · rw [List.getD_eq_getElem?_getD, List.getElem?_eq_none (by omega)]; exact ⟨by decide, by decide⟩

/-- The block of a slice's address. -/
def blk (ao : Option Addr) : Option Nat := ao.map (·.block)

theorem Reads.keep {w w' : World} {ao : Option Addr} {xs : List Int} {row : Option Nat} (h : Reads w ao xs) (k : w.grownBy w' row) (hne : row = none ∨ blk ao ≠ row) : Reads w' ao xs := by
  refine ⟨h.len, h.bd, fun i hi => ?_⟩
  obtain ⟨b, off, e, hc⟩ := h.at_ i hi
  refine ⟨b, off, e, fun j hj => k.cell (hc j hj) ?_⟩
  rcases hne with rfl | hne
  · simp
  · intro hh
    apply hne
    rw [e, ← hh]
    rfl
theorem Reads.fr {w w' : World} {ao : Option Addr} {xs : List Int} (h : Reads w ao xs) (k : Fr w w') : Reads w' ao xs := h.keep k (.inl rfl)

/-- A slice that came in, as the frame of a law tells it, reads as its first numbers. -/
theorem reads_of_row {w : World} {a : Option Addr} {len cap : Nat} {zs : List Int}
    (h : (a = none ∧ len = 0 ∧ cap = 0 ∧ zs = []) ∨ ∃ x, a = some x ∧ len ≤ cap ∧ cap ≤ maxLen ∧ zs.length = cap ∧ (∀ i, i < zs.length → w.cell? (x.add i) = some (.int .i64 (zs.getD i 0))) ∧ ∀ n ∈ zs, (Lit.int .i64 n).wf = true)
    (hl : len ≤ 4294967296) : Reads w a (zs.take len) ∧ (zs.take len).length = len := by
  rcases h with ⟨rfl, rfl, rfl, rfl⟩ | ⟨x, rfl, h1, h2, h3, h4, h5⟩
  · exact ⟨Reads.nil _ _, rfl⟩
  · have hlen : (zs.take len).length = len := by simp; omega
    refine ⟨⟨by omega, fun x hx => ?_, fun i hi => ?_⟩, hlen⟩
    · have := bounds_i64 (h5 x (List.mem_of_mem_take hx))
      exact ⟨by omega, by omega⟩
    · rw [hlen] at hi
      obtain ⟨b, off, spot⟩ := x
      have hc := h4 0 (by omega)
      have hspot : spot = none := by
        have := World.cell?_spot hc
        simpa [Addr.add] using this
      subst hspot
      refine ⟨b, off, rfl, fun j hj => ?_⟩
      rw [hlen] at hj
      have := h4 j (by omega)
      simp only [List.getD_eq_getElem?_getD, List.getElem?_take, if_pos hj] at this ⊢
      have e : (⟨b, off, none⟩ : Addr).add j = ⟨b, off + j, none⟩ := by
        by_cases h0 : j = 0
        · subst h0; rfl
        · simp [Addr.add, h0]
      rwa [e] at this

/-- The slice of xs that a call owns: it begins at the head of the block g, which lies from base on. -/
def OwnI (w : World) (base : Nat) (v : Value) (xs : List Int) : Prop :=
  w.ownsRow base 2 1 v xs.length (xs.map (Value.int .i64)) ∧ xs.length ≤ 4294967296 ∧ ∀ x ∈ xs, I64 x

theorem OwnI.reads {w : World} {base : Nat} {g n cap : Nat} {xs : List Int} (h : OwnI w base (.slice (some ⟨g, 0, none⟩) n cap) xs) : Reads w (some ⟨g, 0, none⟩) xs := by
  obtain ⟨ho, hl, hb⟩ := h
  have hn : n = xs.length := by
    rcases ho.2 with ⟨e, _⟩ | ⟨g', c', cur, e, _⟩
    · simp at e
    · simp at e; exact e.2.1
  subst hn
  refine ⟨hl, hb, fun i _ => ⟨g, 0, rfl, fun j hj => ?_⟩⟩
  have := ho.cellAt j (by simpa using hj)
  simp only [Nat.zero_add]
  rw [this]
  simp [List.getElem?_eq_getElem hj, List.getD]

theorem getD_at {xs : List Int} {k : Nat} (h : k < xs.length) : xs.getD k 0 = xs[k] := by
  rw [List.getD_eq_getElem?_getD, List.getElem?_eq_getElem h]; rfl

theorem Try.info2 : (Try.prog.info? 2).map (fun i => (i.zero, i.size, i.bytes)) = some (some (.int .i64 0), 1, 8) := by kernel_rfl

/-- eqInt64S and likeInts answer whether two lists are alike. -/
theorem eq_step {a b : List Int} {k : Nat} (hab : a.length = b.length) (hk : k < a.length) (h : a.take k = b.take k) (e : a[k] = b[k]'(by omega)) : a.take (k + 1) = b.take (k + 1) := by
  rw [List.take_succ_eq_append_getElem hk, List.take_succ_eq_append_getElem (by omega : k < b.length), h, e]

theorem ne_of_at {a b : List Int} {k : Nat} (hk : k < a.length) (hk' : k < b.length) (e : a[k] ≠ b[k]) : (decide (a = b)) = false := by
  simp only [decide_eq_false_iff_not]
  intro h; subst h; exact e rfl
end Go.Proofs.Ytkfcchapfklpgaa
/-
  A config: its seven numbers, and whether it is right: the program's and the specification's ConfigOk.
-/
namespace Go.Proofs.Ytkfcchapfklpgaa
open Go.RowKit

/-- A config's seven numbers. -/
structure Cf where
  r : Int
  s : Int
  b : Int
  m : Int
  q : Int
  c : Int
  w : Int

/-- Is it right? -/
def cfB (c : Cf) : Bool := inB 0 1000000 c.r && inB 1 1000 c.s && inB 1 1000 c.b && inB 1 100000 c.m && inB 0 100000 c.q && inB 1 512 c.c && inB 1 64 c.w

theorem cfB_in {c : Cf} (h : cfB c = true) : (0 ≤ c.r ∧ c.r ≤ 1000000) ∧ (1 ≤ c.s ∧ c.s ≤ 1000) ∧ (1 ≤ c.b ∧ c.b ≤ 1000) ∧ (1 ≤ c.m ∧ c.m ≤ 100000) ∧ (0 ≤ c.q ∧ c.q ≤ 100000) ∧ (1 ≤ c.c ∧ c.c ≤ 512) ∧ (1 ≤ c.w ∧ c.w ≤ 64) := by
  simp only [cfB, Bool.and_eq_true] at h
  obtain ⟨⟨⟨⟨⟨⟨h0, h1⟩, h2⟩, h3⟩, h4⟩, h5⟩, h6⟩ := h
  exact ⟨inB_true h0, inB_true h1, inB_true h2, inB_true h3, inB_true h4, inB_true h5, inB_true h6⟩

/-- A config's cells from the place i of a block on. -/
def CfAt (w : World) (b i : Nat) (c : Cf) : Prop :=
  w.cell? ⟨b, i, none⟩ = some (.int .i64 c.r) ∧ w.cell? ⟨b, i + 1, none⟩ = some (.int .i64 c.s) ∧ w.cell? ⟨b, i + 2, none⟩ = some (.int .i64 c.b) ∧ w.cell? ⟨b, i + 3, none⟩ = some (.int .i64 c.m) ∧ w.cell? ⟨b, i + 4, none⟩ = some (.int .i64 c.q) ∧ w.cell? ⟨b, i + 5, none⟩ = some (.int .i64 c.c) ∧ w.cell? ⟨b, i + 6, none⟩ = some (.int .i64 c.w)
theorem CfAt.fr {w w' : World} {b i : Nat} {c : Cf} (h : CfAt w b i c) (k : Fr w w') : CfAt w' b i c := by
  obtain ⟨c0, c1, c2, c3, c4, c5, c6⟩ := h
  exact ⟨k.cell c0, k.cell c1, k.cell c2, k.cell c3, k.cell c4, k.cell c5, k.cell c6⟩
theorem CfAt.new (w : World) (c : Cf) (t : TypeId) : CfAt (w.alloc (.cells #[.int .i64 c.r, .int .i64 c.s, .int .i64 c.b, .int .i64 c.m, .int .i64 c.q, .int .i64 c.c, .int .i64 c.w] t)) w.heap.size 0 c := by
  refine ⟨?_, ?_, ?_, ?_, ?_, ?_, ?_⟩ <;> rw [cell_of_row _ _ _ _ _ _ (heap_alloc_new w _)] <;> rfl

/-- The limits' cells. -/
def LmAt (w : World) (b : Nat) : Prop :=
  w.cell? ⟨b, 0, none⟩ = some (.int .i64 0) ∧ w.cell? ⟨b, 1, none⟩ = some (.int .i64 1) ∧ w.cell? ⟨b, 2, none⟩ = some (.int .i64 1) ∧ w.cell? ⟨b, 3, none⟩ = some (.int .i64 1) ∧ w.cell? ⟨b, 4, none⟩ = some (.int .i64 0) ∧ w.cell? ⟨b, 5, none⟩ = some (.int .i64 1) ∧ w.cell? ⟨b, 6, none⟩ = some (.int .i64 1) ∧ w.cell? ⟨b, 7, none⟩ = some (.int .i64 1000000) ∧ w.cell? ⟨b, 8, none⟩ = some (.int .i64 1000) ∧ w.cell? ⟨b, 9, none⟩ = some (.int .i64 1000) ∧ w.cell? ⟨b, 10, none⟩ = some (.int .i64 100000) ∧ w.cell? ⟨b, 11, none⟩ = some (.int .i64 100000) ∧ w.cell? ⟨b, 12, none⟩ = some (.int .i64 512) ∧ w.cell? ⟨b, 13, none⟩ = some (.int .i64 64)
theorem LmAt.fr {w w' : World} {b : Nat} (h : LmAt w b) (k : Fr w w') : LmAt w' b := by
  obtain ⟨c0, c1, c2, c3, c4, c5, c6, c7, c8, c9, c10, c11, c12, c13⟩ := h
  exact ⟨k.cell c0, k.cell c1, k.cell c2, k.cell c3, k.cell c4, k.cell c5, k.cell c6, k.cell c7, k.cell c8, k.cell c9, k.cell c10, k.cell c11, k.cell c12, k.cell c13⟩
theorem LmAt.new (w : World) (t : TypeId) : LmAt (w.alloc (.cells #[.int .i64 0, .int .i64 1, .int .i64 1, .int .i64 1, .int .i64 0, .int .i64 1, .int .i64 1, .int .i64 1000000, .int .i64 1000, .int .i64 1000, .int .i64 100000, .int .i64 100000, .int .i64 512, .int .i64 64] t)) w.heap.size := by
  refine ⟨?_, ?_, ?_, ?_, ?_, ?_, ?_, ?_, ?_, ?_, ?_, ?_, ?_, ?_⟩ <;> rw [cell_of_row _ _ _ _ _ _ (heap_alloc_new w _)] <;> rfl

set_option maxHeartbeats 4000000 in
theorem cfOk_spec (c : Cf) (W : World) :
    Calls Try.prog 22 #[.agg #[.int .i64 c.r, .int .i64 c.s, .int .i64 c.b, .int .i64 c.m, .int .i64 c.q, .int .i64 c.c, .int .i64 c.w]] W fun e w' => e = .returned (.bool (cfB c)) ∧ Fr W w' := by
  obtain ⟨r, s, b, m, q, c, w⟩ := c
  simp only [cfB]
  have aC := CfAt.new W ⟨r, s, b, m, q, c, w⟩ 29
  have f := Fr.alloc W (.cells #[.int .i64 r, .int .i64 s, .int .i64 b, .int .i64 m, .int .i64 q, .int .i64 c, .int .i64 w] 29)
  simp only [CfAt, Nat.zero_add] at aC
  have c0 := fun u => l1In_any r 0 1000000 u
  have c1 := fun u => l1In_any s 1 1000 u
  have c2 := fun u => l1In_any b 1 1000 u
  have c3 := fun u => l1In_any m 1 100000 u
  have c4 := fun u => l1In_any q 0 100000 u
  have c5 := fun u => l1In_any c 1 512 u
  have c6 := fun u => l1In_any w 1 64 u
  generalize inB 0 1000000 r = b0 at c0 ⊢
  generalize inB 1 1000 s = b1 at c1 ⊢
  generalize inB 1 1000 b = b2 at c2 ⊢
  generalize inB 1 100000 m = b3 at c3 ⊢
  generalize inB 0 100000 q = b4 at c4 ⊢
  generalize inB 1 512 c = b5 at c5 ⊢
  generalize inB 1 64 w = b6 at c6 ⊢
  go_enter Try.func22, Try.ntmps22
  go_wp2_with fail
  obtain ⟨U, hU⟩ : ∃ U, U = W.alloc (.cells #[.int .i64 r, .int .i64 s, .int .i64 b, .int .i64 m, .int .i64 q, .int .i64 c, .int .i64 w] 29) := ⟨_, rfl⟩
  rw [← hU] at aC f ⊢
  clear hU
  obtain ⟨k0, k1, k2, k3, k4, k5, k6⟩ := aC
  refine (c0 _).mono ?_
  rintro e u0 ⟨rfl, rfl⟩
  clear c0
  cases b0
  · go_wp2_with fail
    go_ret
    exact ⟨rfl, f⟩
  go_wp2_with fail
  refine (c1 _).mono ?_
  rintro e u1 ⟨rfl, rfl⟩
  clear c1
  cases b1
  · go_wp2_with fail
    go_ret
    exact ⟨rfl, f⟩
  go_wp2_with fail
  refine (c2 _).mono ?_
  rintro e u2 ⟨rfl, rfl⟩
  clear c2
  cases b2
  · go_wp2_with fail
    go_ret
    exact ⟨rfl, f⟩
  go_wp2_with fail
  refine (c3 _).mono ?_
  rintro e u3 ⟨rfl, rfl⟩
  clear c3
  cases b3
  · go_wp2_with fail
    go_ret
    exact ⟨rfl, f⟩
  go_wp2_with fail
  refine (c4 _).mono ?_
  rintro e u4 ⟨rfl, rfl⟩
  clear c4
  cases b4
  · go_wp2_with fail
    go_ret
    exact ⟨rfl, f⟩
  go_wp2_with fail
  refine (c5 _).mono ?_
  rintro e u5 ⟨rfl, rfl⟩
  clear c5
  cases b5
  · go_wp2_with fail
    go_ret
    exact ⟨rfl, f⟩
  go_wp2_with fail
  refine (c6 _).mono ?_
  rintro e u6 ⟨rfl, rfl⟩
  clear c6
  cases b6
  · go_wp2_with fail
    go_ret
    exact ⟨rfl, f⟩
  go_wp2_with fail
  go_ret
  exact ⟨rfl, f⟩

set_option maxHeartbeats 400000 in
theorem admit_any (c : Cf) (W : World) :
    Calls Try.prog 65 #[.agg #[.int .i64 0, .int .i64 1, .int .i64 1, .int .i64 1, .int .i64 0, .int .i64 1, .int .i64 1, .int .i64 1000000, .int .i64 1000, .int .i64 1000, .int .i64 100000, .int .i64 100000, .int .i64 512, .int .i64 64], .agg #[.int .i64 c.r, .int .i64 c.s, .int .i64 c.b, .int .i64 c.m, .int .i64 c.q, .int .i64 c.c, .int .i64 c.w]] W fun e w' => e = .returned (.bool (cfB c)) ∧ Fr W w' := by
  obtain ⟨r, s, b, m, q, c, w⟩ := c
  simp only [cfB]
  have aL := LmAt.new W 69
  have f := Fr.alloc W (.cells #[.int .i64 0, .int .i64 1, .int .i64 1, .int .i64 1, .int .i64 0, .int .i64 1, .int .i64 1, .int .i64 1000000, .int .i64 1000, .int .i64 1000, .int .i64 100000, .int .i64 100000, .int .i64 512, .int .i64 64] 69)
  have aC := CfAt.new (W.alloc (.cells #[.int .i64 0, .int .i64 1, .int .i64 1, .int .i64 1, .int .i64 0, .int .i64 1, .int .i64 1, .int .i64 1000000, .int .i64 1000, .int .i64 1000, .int .i64 100000, .int .i64 100000, .int .i64 512, .int .i64 64] 69)) ⟨r, s, b, m, q, c, w⟩ 29
  have f' := Fr.alloc (W.alloc (.cells #[.int .i64 0, .int .i64 1, .int .i64 1, .int .i64 1, .int .i64 0, .int .i64 1, .int .i64 1, .int .i64 1000000, .int .i64 1000, .int .i64 1000, .int .i64 100000, .int .i64 100000, .int .i64 512, .int .i64 64] 69)) (.cells #[.int .i64 r, .int .i64 s, .int .i64 b, .int .i64 m, .int .i64 q, .int .i64 c, .int .i64 w] 29)
  replace f := f.trans f'
  replace aL := aL.fr f'
  clear f'
  simp only [CfAt, Nat.zero_add] at aC
  simp only [LmAt] at aL
  have hs : (W.alloc (.cells #[.int .i64 0, .int .i64 1, .int .i64 1, .int .i64 1, .int .i64 0, .int .i64 1, .int .i64 1, .int .i64 1000000, .int .i64 1000, .int .i64 1000, .int .i64 100000, .int .i64 100000, .int .i64 512, .int .i64 64] 69)).heap.size = W.heap.size + 1 := by simp
  simp only [hs] at aC
  clear hs
  have c0 := fun u => within_any r 0 1000000 u
  have c1 := fun u => within_any s 1 1000 u
  have c2 := fun u => within_any b 1 1000 u
  have c3 := fun u => within_any m 1 100000 u
  have c4 := fun u => within_any q 0 100000 u
  have c5 := fun u => within_any c 1 512 u
  have c6 := fun u => within_any w 1 64 u
  generalize inB 0 1000000 r = b0 at c0 ⊢
  generalize inB 1 1000 s = b1 at c1 ⊢
  generalize inB 1 1000 b = b2 at c2 ⊢
  generalize inB 1 100000 m = b3 at c3 ⊢
  generalize inB 0 100000 q = b4 at c4 ⊢
  generalize inB 1 512 c = b5 at c5 ⊢
  generalize inB 1 64 w = b6 at c6 ⊢
  go_enter Try.func65, Try.ntmps65
  go_wp2_with fail
  simp only [List.append_eq, List.cons_append, List.nil_append] at *
  obtain ⟨U, hU⟩ : ∃ U, U = (W.alloc (.cells #[.int .i64 0, .int .i64 1, .int .i64 1, .int .i64 1, .int .i64 0, .int .i64 1, .int .i64 1, .int .i64 1000000, .int .i64 1000, .int .i64 1000, .int .i64 100000, .int .i64 100000, .int .i64 512, .int .i64 64] 69)).alloc (.cells #[.int .i64 r, .int .i64 s, .int .i64 b, .int .i64 m, .int .i64 q, .int .i64 c, .int .i64 w] 29) := ⟨_, rfl⟩
  rw [← hU] at aC aL f ⊢
  clear hU
  obtain ⟨k0, k1, k2, k3, k4, k5, k6⟩ := aC
  obtain ⟨m0, m1, m2, m3, m4, m5, m6, n0, n1, n2, n3, n4, n5, n6⟩ := aL
  refine (c0 _).mono ?_
  rintro e u0 ⟨rfl, rfl⟩
  clear c0
  cases b0
  · go_wp2_with fail
    go_ret
    exact ⟨rfl, f⟩
  go_wp2_with fail
  refine (c1 _).mono ?_
  rintro e u1 ⟨rfl, rfl⟩
  clear c1
  cases b1
  · go_wp2_with fail
    go_ret
    exact ⟨rfl, f⟩
  go_wp2_with fail
  refine (c2 _).mono ?_
  rintro e u2 ⟨rfl, rfl⟩
  clear c2
  cases b2
  · go_wp2_with fail
    go_ret
    exact ⟨rfl, f⟩
  go_wp2_with fail
  refine (c3 _).mono ?_
  rintro e u3 ⟨rfl, rfl⟩
  clear c3
  cases b3
  · go_wp2_with fail
    go_ret
    exact ⟨rfl, f⟩
  go_wp2_with fail
  refine (c4 _).mono ?_
  rintro e u4 ⟨rfl, rfl⟩
  clear c4
  cases b4
  · go_wp2_with fail
    go_ret
    exact ⟨rfl, f⟩
  go_wp2_with fail
  refine (c5 _).mono ?_
  rintro e u5 ⟨rfl, rfl⟩
  clear c5
  cases b5
  · go_wp2_with fail
    go_ret
    exact ⟨rfl, f⟩
  go_wp2_with fail
  refine (c6 _).mono ?_
  rintro e u6 ⟨rfl, rfl⟩
  clear c6
  cases b6
  · go_wp2_with fail
    go_ret
    exact ⟨rfl, f⟩
  go_wp2_with fail
  go_ret
  exact ⟨rfl, f⟩

set_option maxHeartbeats 1000000 in
theorem limits_any (W : World) :
    Calls Try.prog 55 #[] W fun e w' => e = .returned (.agg #[.int .i64 0, .int .i64 1, .int .i64 1, .int .i64 1, .int .i64 0, .int .i64 1, .int .i64 1, .int .i64 1000000, .int .i64 1000, .int .i64 1000, .int .i64 100000, .int .i64 100000, .int .i64 512, .int .i64 64]) ∧ Fr W w' := by
  go_enter Try.func55, Try.ntmps55
  go_wp2_with fail
  refine bodyPost_ret (v := .agg #[.int .i64 0, .int .i64 1, .int .i64 1, .int .i64 1, .int .i64 0, .int .i64 1, .int .i64 1, .int .i64 1000000, .int .i64 1000, .int .i64 1000, .int .i64 100000, .int .i64 100000, .int .i64 512, .int .i64 64]) (by simp [results, Try.results55, go_sem]) rfl ⟨rfl, ?_⟩
  exact Fr.alloc _ _
end Go.Proofs.Ytkfcchapfklpgaa
/-
  A config that came in; the laws' own copy of it.
-/
namespace Go.Proofs.Ytkfcchapfklpgaa
open Go.ChangeShapes Go.WideShapes Go.ChangeAt Go.RowKit

/-- The numbers of a config fit. -/
def CfI (c : Cf) : Prop := I64 c.r ∧ I64 c.s ∧ I64 c.b ∧ I64 c.m ∧ I64 c.q ∧ I64 c.c ∧ I64 c.w

theorem cells_c64 : Try.prog.cellsOf 2 = 1 := by kernel_rfl
theorem cells_cf : Try.prog.cellsOf 23 = 7 := by kernel_rfl

theorem fitC {n : Int} (h : (Lit.int .i64 n).wf = true) : I64 n := by
  have := bounds_i64 h
  exact ⟨by omega, by omega⟩

set_option maxRecDepth 20000 in
/-- A config that came in. -/
theorem cf_of_arg {H : Type} {enc : TypeId × Value → H} {W : World} {base b0 : Nat} {sp : Nat → Bool} {held : Bool} {r : Reach} {v : Value} {d : DataW H} {p : List MemPlace}
    (hv : Value.okWide Try.prog W r b0 23 v) (h : DataW.Trod enc Try.prog W base sp held 23 v d p) : ∃ e : Cf, v = .agg #[.int .i64 e.r, .int .i64 e.s, .int .i64 e.b, .int .i64 e.m, .int .i64 e.q, .int .i64 e.c, .int .i64 e.w] ∧ CfI e := by
  obtain ⟨cs, rfl, hsz⟩ := okWide_struct Try.underlying23 hv
  obtain ⟨fuel, hf⟩ := h
  obtain ⟨xs, m, -, hx, hl, hn, hfs⟩ := DataW.trod_struct Try.underlying23 hf
  rw [cells_cf] at hsz
  obtain ⟨l⟩ := cs
  match l, hsz with
  | [c0, c1, c2, c3, c4, c5, c6], _ =>
    match xs, hn with
    | [x0, x1, x2, x3, x4, x5, x6], _ =>
      have h0 := hfs 0 _ rfl
      have h1 := hfs 1 _ rfl
      have h2 := hfs 2 _ rfl
      have h3 := hfs 3 _ rfl
      have h4 := hfs 4 _ rfl
      have h5 := hfs 5 _ rfl
      have h6 := hfs 6 _ rfl
      simp [cells_c64, Value.cells] at h0 h1 h2 h3 h4 h5 h6
      obtain ⟨n0, e0, -, w0⟩ := DataW.trod_int Try.underlying2 h0
      obtain ⟨n1, e1, -, w1⟩ := DataW.trod_int Try.underlying2 h1
      obtain ⟨n2, e2, -, w2⟩ := DataW.trod_int Try.underlying2 h2
      obtain ⟨n3, e3, -, w3⟩ := DataW.trod_int Try.underlying2 h3
      obtain ⟨n4, e4, -, w4⟩ := DataW.trod_int Try.underlying2 h4
      obtain ⟨n5, e5, -, w5⟩ := DataW.trod_int Try.underlying2 h5
      obtain ⟨n6, e6, -, w6⟩ := DataW.trod_int Try.underlying2 h6
      simp at e0 e1 e2 e3 e4 e5 e6
      subst e0 e1 e2 e3 e4 e5 e6
      exact ⟨⟨n0, n1, n2, n3, n4, n5, n6⟩, rfl, fitC w0, fitC w1, fitC w2, fitC w3, fitC w4, fitC w5, fitC w6⟩

set_option maxHeartbeats 1000000 in
theorem toConfig_any (c : Cf) (w : World) :
    Calls Try.prog 8 #[.agg #[.int .i64 c.r, .int .i64 c.s, .int .i64 c.b, .int .i64 c.m, .int .i64 c.q, .int .i64 c.c, .int .i64 c.w]] w fun x w' => x = .returned (.agg #[.int .i64 c.r, .int .i64 c.s, .int .i64 c.b, .int .i64 c.m, .int .i64 c.q, .int .i64 c.c, .int .i64 c.w]) ∧ Fr w w' := by
  obtain ⟨c0, c1, c2, c3, c4, c5, c6⟩ := c
  simp only
  go_enter Try.func8, Try.ntmps8
  go_wp2_with fail
  refine bodyPost_ret (v := .agg #[.int .i64 c0, .int .i64 c1, .int .i64 c2, .int .i64 c3, .int .i64 c4, .int .i64 c5, .int .i64 c6]) (by simp [results, Try.results8, go_sem]) rfl ⟨rfl, ?_⟩
  exact ((Fr.alloc _ _).trans (Fr.alloc _ _)).trans (Fr.alloc _ _)
end Go.Proofs.Ytkfcchapfklpgaa
/-
  Writes into one block.
-/
namespace Go.Proofs.Ytkfcchapfklpgaa
open Go.RowKit

theorem grown_trans {a b c : World} {row : Option Nat} (h : a.grownBy b row) (k : b.grownBy c row) : a.grownBy c row :=
  ⟨k.os.trans h.os, k.tape.trans h.tape, k.output.trans h.output, Nat.le_trans h.size k.size, fun i hi hne => (k.block i (Nat.lt_of_lt_of_le hi h.size) hne).trans (h.block i hi hne)⟩
theorem grown_draw (w : World) (n : Nat) (row : Option Nat) : w.grownBy (w.drewN n) row := ⟨rfl, rfl, rfl, Nat.le_refl _, fun _ _ _ => rfl⟩
theorem grown_set (w : World) (g o : Nat) (v : Value) : w.grownBy (w.setCell ⟨g, o, none⟩ v) (some g) :=
  ⟨rfl, rfl, rfl, by simp, fun k _ hk => heap_setCell_other w ⟨g, o, none⟩ k v (fun e => hk (by simp [e]))⟩

theorem Fr.wide {w w' : World} {row : Option Nat} (h : Fr w w') : w.grownBy w' row := ⟨h.os, h.tape, h.output, h.size, fun i hi _ => h.block i hi (by simp)⟩
end Go.Proofs.Ytkfcchapfklpgaa
/-
  A region that draws its order, whose operations make new blocks alone and yield what stays so, but for the last one: one proof an operation serves every order.
-/
namespace Go.Proofs.Ytkfcchapfklpgaa
open Go.RowKit

def upd (X : Nat → Value) (d : Nat) (v : Value) : Nat → Value := fun k => if k = d then v else X k
theorem upd_same (X : Nat → Value) (d : Nat) (v : Value) : upd X d v d = v := by simp [upd]
theorem upd_ne (X : Nat → Value) {d k : Nat} (v : Value) (h : k ≠ d) : upd X d v k = X k := by simp [upd, h]

theorem getD_put {l : Array Bool} {i k : Nat} (hi : i < l.size) : (l.setIfInBounds i true).getD k false = if k = i then true else l.getD k false := by
  simp only [Array.getD_eq_getD_getElem?, Array.getElem?_setIfInBounds]
  by_cases h : i = k
  · subst h; simp [hi]
  · have : ¬ k = i := fun q => h q.symm
    simp [h, this]
/-- How many have not come up yet. -/
def left (n : Nat) (l : Array Bool) : Nat := ((List.range n).filter fun i => !l.getD i false).length
theorem left_put {l : Array Bool} {i n : Nat} (hn : l.size = n) (hi : i < n) (h : l.getD i false = false) : left n (l.setIfInBounds i true) < left n l := by
  unfold left
  have hs : ∀ (L : List Nat), i ∈ L → L.Nodup → (L.filter fun k => !(l.setIfInBounds i true).getD k false).length < (L.filter fun k => !l.getD k false).length := by
    intro L
    induction L with
    | nil => intro q; cases q
    | cons a L ih =>
      intro hm hnd
      have hsub : ∀ (M : List Nat), i ∉ M → (M.filter fun k => !(l.setIfInBounds i true).getD k false) = (M.filter fun k => !l.getD k false) := by
        intro M hM
        refine List.filter_congr (fun k hk => ?_)
        rw [getD_put (by omega), if_neg (fun (q : k = i) => hM (q ▸ hk))]
      rw [List.nodup_cons] at hnd
      by_cases ha : a = i
      · subst ha
        rw [List.filter_cons, List.filter_cons, getD_put (by omega), if_pos rfl, h, hsub L hnd.1]
        simp
      · have hm2 : i ∈ L := by
          rcases List.mem_cons.1 hm with q | q
          · exact absurd q.symm ha
          · exact q
        have := ih hm2 hnd.2
        rw [List.filter_cons, List.filter_cons, getD_put (by omega), if_neg ha]
        split
        · rw [List.length_cons, List.length_cons]; omega
        · exact this
  exact hs _ (List.mem_range.2 hi) List.nodup_range
theorem left_pos {l : Array Bool} {i n : Nat} (hi : i < n) (h : l.getD i false = false) : 0 < left n l := by
  unfold left
  exact List.length_pos_of_mem (List.mem_filter.2 ⟨List.mem_range.2 hi, by rw [h]; rfl⟩)

section
variable {P : Program} {ops : Array Oper} {Q : Exit → Act → World → Prop} {w : World} (n : Nat) (dst : Nat → Nat) (mk : (Nat → Value) → Act) (R : Nat → Value → World → Prop) (Le : World → World → Prop)

/-- The state when these have come up. -/
def StabInv (Q : Exit → Act → World → Prop) (w : World) (l : Array Bool) (a : Act) (u : World) : Prop :=
  l.size = n + 1 ∧ ((l.getD n false = false ∧ ∃ X, a = mk X ∧ Le w.drew u ∧ ∀ i, i < n → l.getD i false = true → R i (X (dst i)) u) ∨ ((∀ i, i < n + 1 → l.getD i false = true) ∧ Q .normal a u))

theorem wpAny_stab (hn : ops.size = n + 1) (hd : ∀ i j, i < n → j < n → dst i = dst j → i = j) (htr : ∀ a b c, Le a b → Le b c → Le a c) (hR : ∀ i v u u', R i v u → Le u u' → R i v u')
    (hlex : ∀ (i : Nat) (o : Oper), ops[i]? = some o → ∀ e ∈ o.after, e.on < i)
    (hall : ∀ o, ops[n]? = some o → ∀ i, i < n → ∃ e ∈ o.after, e.on = i ∧ Region.binds .any e = true)
    (step : ∀ (i : Nat) (o : Oper) X u, i < n → ops[i]? = some o → Le w.drew u → (∀ e ∈ o.after, Region.binds .any e = true → R e.on (X (dst e.on)) u) →
      Region.wanted o (yielded ops (mk X).tmps) = true ∧ o.wp P (mk X) u (fun a' u' => ∃ v, a' = mk (upd X (dst i) v) ∧ Le u u' ∧ R i v u') Q)
    (last : ∀ o X u, ops[n]? = some o → Le w.drew u → (∀ i, i < n → R i (X (dst i)) u) → Region.wanted o (yielded ops (mk X).tmps) = true ∧ o.wp P (mk X) u (fun a' u' => Q .normal a' u') Q) :
    ∀ (fuel : Nat) (l : Array Bool) (a : Act) (u : World), left (n + 1) l ≤ fuel → StabInv n dst mk R Le Q w l a u → wpAny P .any ops Q fuel l a u := by
  have hready : ∀ (l : Array Bool), l.size = n + 1 → (∃ i, i < n + 1 ∧ l.getD i false = false) → Region.ready .any ops l ≠ [] := by
    intro l hl hex he
    have hmin : ∀ m, m ≤ n + 1 → (∀ k, k < m → l.getD k false = true) := by
      intro m
      induction m with
      | zero => intro _ k hk; omega
      | succ m ih =>
        intro hm k hk
        by_cases hkm : k < m
        · exact ih (by omega) k hkm
        · have hk2 : k = m := by omega
          subst hk2
          cases hv : l.getD k false
          · exfalso
            have ho : ops[k]? = some ops[k] := Array.getElem?_eq_getElem (by omega)
            have : k ∈ Region.ready .any ops l := mem_ready.2 ⟨by
              rw [Array.getD_eq_getD_getElem?] at hv ⊢
              rw [Array.getElem?_eq_getElem (by omega)] at hv ⊢
              exact hv, _, ho, fun e he2 _ => ih (by omega) _ (hlex k _ ho e he2)⟩
            rw [he] at this
            cases this
          · rfl
    obtain ⟨i, hi, hf⟩ := hex
    have := hmin (n + 1) (Nat.le_refl _) i hi
    rw [hf] at this
    cases this
  intro fuel
  induction fuel with
  | zero =>
    intro l a u hf ⟨hl, hI⟩
    rcases hI with ⟨h0, -⟩ | ⟨h1, h2⟩
    · have := left_pos (l := l) (n := n + 1) (i := n) (by omega) h0
      omega
    · refine ⟨?_, h2⟩
      cases hr : Region.ready .any ops l with
      | nil => rfl
      | cons i r =>
        exfalso
        have hm : i ∈ Region.ready .any ops l := by rw [hr]; exact List.mem_cons_self
        obtain ⟨q1, o, q2, -⟩ := mem_ready.1 hm
        have hi : i < n + 1 := by rw [← hn]; exact (Array.getElem?_eq_some_iff.1 q2).1
        have := h1 i hi
        rw [Array.getD_eq_getD_getElem?] at this q1
        rw [Array.getElem?_eq_getElem (by omega)] at this q1
        simp at this q1
        rw [this] at q1
        cases q1
  | succ fuel ih =>
    intro l a u hf ⟨hl, hI⟩
    rcases hI with ⟨h0, X, rfl, hF, hX⟩ | ⟨h1, h2⟩
    · refine ⟨fun he => absurd he (hready l hl ⟨n, by omega, h0⟩), fun i hi => ?_⟩
      obtain ⟨q1, o, q2, q3⟩ := mem_ready.1 hi
      have hi2 : i < n + 1 := by rw [← hn]; exact (Array.getElem?_eq_some_iff.1 q2).1
      have hfi : l.getD i false = false := by
        rw [Array.getD_eq_getD_getElem?] at q1 ⊢
        rw [Array.getElem?_eq_getElem (by omega)] at q1 ⊢
        exact q1
      have hlt := left_put hl hi2 hfi
      unfold wpOp
      simp only [q2]
      by_cases hin : i = n
      · subst hin
        obtain ⟨w1, w2⟩ := last o X u q2 hF (fun k hk => by
          obtain ⟨e, e1, e2, e3⟩ := hall o q2 k hk
          exact hX k hk (e2 ▸ q3 e e1 e3))
        rw [if_pos w1]
        refine .inl (Oper.wp_mono (fun a' u' hq => ih _ a' u' (by omega) ⟨by simpa using hl, .inr ⟨fun k hk => ?_, hq⟩⟩) w2)
        rw [getD_put (by omega)]
        by_cases hki : k = i
        · rw [if_pos hki]
        · rw [if_neg hki]
          obtain ⟨e, e1, e2, e3⟩ := hall o q2 k (by omega)
          exact e2 ▸ q3 e e1 e3
      · obtain ⟨w1, w2⟩ := step i o X u (by omega) q2 hF (fun e he hb => hX e.on (by have := hlex i o q2 e he; omega) (q3 e he hb))
        rw [if_pos w1]
        refine .inl (Oper.wp_mono (fun a' u' hq => ?_) w2)
        obtain ⟨v, rfl, f2, r2⟩ := hq
        refine ih _ _ u' (by omega) ⟨by simpa using hl, .inl ⟨by rw [getD_put (by omega), if_neg (fun q => hin q.symm)]; exact h0, _, rfl, htr _ _ _ hF f2, fun k hk hkl => ?_⟩⟩
        rw [getD_put (by omega)] at hkl
        by_cases hki : k = i
        · subst hki
          rw [upd_same]
          exact r2
        · rw [if_neg hki] at hkl
          rw [upd_ne _ _ (fun q => hki (hd k i hk (by omega) q))]
          exact hR k _ _ _ (hX k hk hkl) f2
    · refine ⟨fun _ => h2, fun i hi => ?_⟩
      exfalso
      obtain ⟨q1, o, q2, -⟩ := mem_ready.1 hi
      have hi : i < n + 1 := by rw [← hn]; exact (Array.getElem?_eq_some_iff.1 q2).1
      have := h1 i hi
      rw [Array.getD_eq_getD_getElem?] at this q1
      rw [Array.getElem?_eq_getElem (by omega)] at this q1
      simp at this q1
      rw [this] at q1
      cases q1
end
theorem wp_region_le {P : Program} {ops : Array Oper} {Q : Exit → Act → World → Prop} {w : World} {id : Nat} (n : Nat) (dst : Nat → Nat) (mk : (Nat → Value) → Act) (R : Nat → Value → World → Prop) (Le : World → World → Prop) (X0 : Nat → Value) (hrf : ∀ u, Le u u) (htr : ∀ a b c, Le a b → Le b c → Le a c)
    (hm : P.follows .mixedOrders = true) (hn : ops.size = n + 1) (hd : ∀ i j, i < n → j < n → dst i = dst j → i = j) (hR : ∀ i v u u', R i v u → Le u u' → R i v u')
    (hlex : ∀ (i : Nat) (o : Oper), ops[i]? = some o → ∀ e ∈ o.after, e.on < i)
    (hall : ∀ o, ops[n]? = some o → ∀ i, i < n → ∃ e ∈ o.after, e.on = i ∧ Region.binds .any e = true)
    (step : ∀ (i : Nat) (o : Oper) X u, i < n → ops[i]? = some o → Le w.drew u → (∀ e ∈ o.after, Region.binds .any e = true → R e.on (X (dst e.on)) u) →
      Region.wanted o (yielded ops (mk X).tmps) = true ∧ o.wp P (mk X) u (fun a' u' => ∃ v, a' = mk (upd X (dst i) v) ∧ Le u u' ∧ R i v u') Q)
    (last : ∀ o X u, ops[n]? = some o → Le w.drew u → (∀ i, i < n → R i (X (dst i)) u) → Region.wanted o (yielded ops (mk X).tmps) = true ∧ o.wp P (mk X) u (fun a' u' => Q .normal a' u') Q) :
    (Code.region id ops true).wp P Q (mk X0) w := by
  refine wp_region_any hm (wpAny_stab n dst mk R Le hn hd htr hR hlex hall step last _ _ _ _ ?_ ⟨by simp [hn], .inl ⟨by simp [Array.getD_eq_getD_getElem?, hn], X0, rfl, hrf _, fun i hi h => ?_⟩⟩)
  · rw [hn]
    unfold left
    exact Nat.le_trans (List.length_filter_le _ _) (by simp)
  · exfalso
    rw [Array.getD_eq_getD_getElem?, Array.getElem?_replicate] at h
    split at h <;> simp at h
theorem wp_region_stab {P : Program} {ops : Array Oper} {Q : Exit → Act → World → Prop} {w : World} {id : Nat} (n : Nat) (dst : Nat → Nat) (mk : (Nat → Value) → Act) (R : Nat → Value → World → Prop) (X0 : Nat → Value)
    (hm : P.follows .mixedOrders = true) (hn : ops.size = n + 1) (hd : ∀ i j, i < n → j < n → dst i = dst j → i = j) (hR : ∀ i v u u', R i v u → Fr u u' → R i v u')
    (hlex : ∀ (i : Nat) (o : Oper), ops[i]? = some o → ∀ e ∈ o.after, e.on < i)
    (hall : ∀ o, ops[n]? = some o → ∀ i, i < n → ∃ e ∈ o.after, e.on = i ∧ Region.binds .any e = true)
    (step : ∀ (i : Nat) (o : Oper) X u, i < n → ops[i]? = some o → Fr w.drew u → (∀ e ∈ o.after, Region.binds .any e = true → R e.on (X (dst e.on)) u) →
      Region.wanted o (yielded ops (mk X).tmps) = true ∧ o.wp P (mk X) u (fun a' u' => ∃ v, a' = mk (upd X (dst i) v) ∧ Fr u u' ∧ R i v u') Q)
    (last : ∀ o X u, ops[n]? = some o → Fr w.drew u → (∀ i, i < n → R i (X (dst i)) u) → Region.wanted o (yielded ops (mk X).tmps) = true ∧ o.wp P (mk X) u (fun a' u' => Q .normal a' u') Q) :
    (Code.region id ops true).wp P Q (mk X0) w :=
  wp_region_le n dst mk R Fr X0 Fr.refl (fun _ _ _ h k => h.trans k) hm hn hd hR hlex hall step last
/-- The edges go back; the last one waits for all; no two write one slot. -/
def lexOk (ops : Array Oper) : Bool := (List.range ops.size).all fun i => ((ops[i]?).map fun o => o.after.all fun e => decide (e.on < i)).getD true
def allOk (ops : Array Oper) (n : Nat) : Bool := ((ops[n]?).map fun o => (List.range n).all fun i => o.after.any fun e => e.on == i && Region.binds .any e).getD true
def dstOk (dst : Nat → Nat) (n : Nat) : Bool := (List.range n).all fun i => (List.range n).all fun j => !(dst i == dst j) || i == j
theorem lex_of {ops : Array Oper} (h : lexOk ops = true) : ∀ (i : Nat) (o : Oper), ops[i]? = some o → ∀ e ∈ o.after, e.on < i := by
  intro i o ho e he
  have hi := (Array.getElem?_eq_some_iff.1 ho).1
  have h1 := List.all_eq_true.1 h i (List.mem_range.2 hi)
  simp only [ho, Option.map_some, Option.getD_some, Array.all_eq_true_iff_forall_mem, decide_eq_true_eq] at h1
  exact h1 e he
theorem allR_of {ops : Array Oper} {n : Nat} (h : allOk ops n = true) : ∀ o, ops[n]? = some o → ∀ i, i < n → ∃ e ∈ o.after, e.on = i ∧ Region.binds .any e = true := by
  intro o ho i hi
  unfold allOk at h
  simp only [ho, Option.map_some, Option.getD_some] at h
  have h1 := List.all_eq_true.1 h i (List.mem_range.2 hi)
  simp only [Array.any_eq_true'] at h1
  obtain ⟨e, he, hb⟩ := h1
  simp only [Bool.and_eq_true, beq_iff_eq] at hb
  exact ⟨e, he, hb⟩
theorem dst_of {dst : Nat → Nat} {n : Nat} (h : dstOk dst n = true) : ∀ i j, i < n → j < n → dst i = dst j → i = j := by
  intro i j hi hj e
  have h1 := List.all_eq_true.1 (List.all_eq_true.1 h i (List.mem_range.2 hi)) j (List.mem_range.2 hj)
  simpa [e] using h1
end Go.Proofs.Ytkfcchapfklpgaa
/-
  Periods: the program's limited config: what it admits, what is on, what opens.
-/
namespace Go.Proofs.Ytkfcchapfklpgaa
open Go.RowKit

/-- A limited config's cells. -/
def LcAt (w : World) (b : Nat) (c : Cf) : Prop := LmAt w b ∧ CfAt w b 14 c
theorem LcAt.fr {w w' : World} {b : Nat} {c : Cf} (h : LcAt w b c) (k : Fr w w') : LcAt w' b c := ⟨h.1.fr k, h.2.fr k⟩
/-- The block of a limited config. -/
def LcZ (w : World) (b : Nat) (c : Array Value) : Prop := w.heap[b]? = some (.cells c 71 (0, 0))
theorem LcZ.lt {w : World} {b : Nat} {c : Array Value} (h : LcZ w b c) : b < w.heap.size := (Array.getElem?_eq_some_iff.1 h).1
theorem LcZ.fr {w w' : World} {b : Nat} {c : Array Value} (h : LcZ w b c) (k : Fr w w') : LcZ w' b c := (k.block b h.lt (fun q => by simp at q)).trans h
theorem LcZ.free {w : World} {b : Nat} {c : Array Value} (h : LcZ w b c) (i : Nat) : w.frozen? ⟨b, i, none⟩ = false := frozen_of_row w b i _ _ h
theorem LcZ.at {w : World} {b : Nat} {c : Cf} (h : LcZ w b #[.int .i64 0, .int .i64 1, .int .i64 1, .int .i64 1, .int .i64 0, .int .i64 1, .int .i64 1, .int .i64 1000000, .int .i64 1000, .int .i64 1000, .int .i64 100000, .int .i64 100000, .int .i64 512, .int .i64 64, .int .i64 c.r, .int .i64 c.s, .int .i64 c.b, .int .i64 c.m, .int .i64 c.q, .int .i64 c.c, .int .i64 c.w]) : LcAt w b c := by
  refine ⟨?_, ?_⟩
  · refine ⟨?_, ?_, ?_, ?_, ?_, ?_, ?_, ?_, ?_, ?_, ?_, ?_, ?_, ?_⟩ <;> rw [cell_of_row _ _ _ _ _ _ h] <;> rfl
  · refine ⟨?_, ?_, ?_, ?_, ?_, ?_, ?_⟩ <;> rw [cell_of_row _ _ _ _ _ _ h] <;> rfl
theorem LcZ.set {w : World} {b : Nat} {c d : Array Value} (h : LcZ w b c) : LcZ (w.setRow b d) b d := by
  unfold LcZ at *
  simp only [World.setRow, Array.getElem?_modify, if_true, h, Option.map_some]
theorem LcZ.grown (w : World) (b : Nat) (d : Array Value) : w.grownBy (w.setRow b d) (some b) :=
  ⟨rfl, rfl, rfl, by simp [World.setRow], fun k hk hne => by
    simp only [World.setRow, Array.getElem?_modify]
    rw [if_neg (fun q => hne (by rw [q]))]⟩

def dstL : Nat → Nat | 0 => 3 | 1 => 4 | _ => 5
/-- What each operation yields. -/
def RL (c : Cf) : Nat → Value → World → Prop
  | 0, v, _ => v = .agg #[.int .i64 0, .int .i64 1, .int .i64 1, .int .i64 1, .int .i64 0, .int .i64 1, .int .i64 1, .int .i64 1000000, .int .i64 1000, .int .i64 1000, .int .i64 100000, .int .i64 100000, .int .i64 512, .int .i64 64]
  | 1, v, _ => v = .agg #[.int .i64 c.r, .int .i64 c.s, .int .i64 c.b, .int .i64 c.m, .int .i64 c.q, .int .i64 c.c, .int .i64 c.w]
  | 2, v, _ => v = .agg #[.int .i64 0, .int .i64 1, .int .i64 1, .int .i64 1, .int .i64 0, .int .i64 1, .int .i64 1, .int .i64 1000000, .int .i64 1000, .int .i64 1000, .int .i64 100000, .int .i64 100000, .int .i64 512, .int .i64 64, .int .i64 c.r, .int .i64 c.s, .int .i64 c.b, .int .i64 c.m, .int .i64 c.q, .int .i64 c.c, .int .i64 c.w]
  | _, _, _ => True

set_option maxRecDepth 20000 in
set_option maxHeartbeats 2000000 in
theorem limited_any (c : Cf) (W : World) :
    Calls Try.prog 40 #[.agg #[.int .i64 c.r, .int .i64 c.s, .int .i64 c.b, .int .i64 c.m, .int .i64 c.q, .int .i64 c.c, .int .i64 c.w]] W fun e w' => e = .returned (.agg #[.int .i64 0, .int .i64 1, .int .i64 1, .int .i64 1, .int .i64 0, .int .i64 1, .int .i64 1, .int .i64 1000000, .int .i64 1000, .int .i64 1000, .int .i64 100000, .int .i64 100000, .int .i64 512, .int .i64 64, .int .i64 c.r, .int .i64 c.s, .int .i64 c.b, .int .i64 c.m, .int .i64 c.q, .int .i64 c.c, .int .i64 c.w]) ∧ Fr W w' := by
  obtain ⟨r, s, b, m, q, c, w⟩ := c
  have aC := CfAt.new W ⟨r, s, b, m, q, c, w⟩ 29
  have f := Fr.alloc W (.cells #[.int .i64 r, .int .i64 s, .int .i64 b, .int .i64 m, .int .i64 q, .int .i64 c, .int .i64 w] 29)
  go_enter Try.func40, Try.ntmps40
  go_wp2_with fail
  obtain ⟨U, hU⟩ : ∃ U, U = W.alloc (.cells #[.int .i64 r, .int .i64 s, .int .i64 b, .int .i64 m, .int .i64 q, .int .i64 c, .int .i64 w] 29) := ⟨_, rfl⟩
  have hs : U.heap.size = W.heap.size + 1 := by rw [hU]; simp
  rw [← hU] at aC f ⊢
  clear hU
  have kz : LcZ (U.alloc (.cells #[.int .i64 0, .int .i64 0, .int .i64 0, .int .i64 0, .int .i64 0, .int .i64 0, .int .i64 0, .int .i64 0, .int .i64 0, .int .i64 0, .int .i64 0, .int .i64 0, .int .i64 0, .int .i64 0, .int .i64 0, .int .i64 0, .int .i64 0, .int .i64 0, .int .i64 0, .int .i64 0, .int .i64 0] 71)) U.heap.size #[.int .i64 0, .int .i64 0, .int .i64 0, .int .i64 0, .int .i64 0, .int .i64 0, .int .i64 0, .int .i64 0, .int .i64 0, .int .i64 0, .int .i64 0, .int .i64 0, .int .i64 0, .int .i64 0, .int .i64 0, .int .i64 0, .int .i64 0, .int .i64 0, .int .i64 0, .int .i64 0, .int .i64 0] := heap_alloc_new U _
  have f2 := Fr.alloc U (.cells #[.int .i64 0, .int .i64 0, .int .i64 0, .int .i64 0, .int .i64 0, .int .i64 0, .int .i64 0, .int .i64 0, .int .i64 0, .int .i64 0, .int .i64 0, .int .i64 0, .int .i64 0, .int .i64 0, .int .i64 0, .int .i64 0, .int .i64 0, .int .i64 0, .int .i64 0, .int .i64 0, .int .i64 0] 71)
  obtain ⟨V, hV⟩ : ∃ V, V = U.alloc (.cells #[.int .i64 0, .int .i64 0, .int .i64 0, .int .i64 0, .int .i64 0, .int .i64 0, .int .i64 0, .int .i64 0, .int .i64 0, .int .i64 0, .int .i64 0, .int .i64 0, .int .i64 0, .int .i64 0, .int .i64 0, .int .i64 0, .int .i64 0, .int .i64 0, .int .i64 0, .int .i64 0, .int .i64 0] 71) := ⟨_, rfl⟩
  rw [← hV] at f2 kz ⊢
  clear hV
  rw [hs] at kz
  replace aC := aC.fr f2
  replace f := f.trans f2
  clear f2 hs
  refine wp_region_stab 3 dstL (fun X => { tmps := #[.agg #[.int .i64 r, .int .i64 s, .int .i64 b, .int .i64 m, .int .i64 q, .int .i64 c, .int .i64 w], .pointer (some ⟨W.heap.size, 0, none⟩), .pointer (some ⟨W.heap.size + 1, 0, none⟩), X 3, X 4, X 5], defers := [] }) (RL ⟨r, s, b, m, q, c, w⟩) (fun _ => undef) (by kernel_rfl) rfl (dst_of (by kernel_rfl)) (fun i v u u' h _ => by rcases i with _ | _ | _ | i <;> exact h) (lex_of (by kernel_rfl)) (allR_of (by kernel_rfl)) ?_ ?_
  · intro i o X u hi ho hF hE
    have hFV : Fr V u := (Fr.drew V).trans hF
    obtain ⟨k0, k1, k2, k3, k4, k5, k6⟩ := aC.fr hFV
    simp only [Nat.zero_add] at k0 k1 k2 k3 k4 k5 k6
    rcases i with _ | _ | _ | i
    · simp only [List.getElem?_toArray, List.getElem?_cons_zero, Option.some.injEq] at ho
      subst ho
      refine ⟨by simp [Region.wanted], ?_⟩
      go_simp
      refine (limits_any _).mono ?_
      rintro x u' ⟨rfl, f'⟩
      exact ⟨_, (by simp [upd, dstL]), f', rfl⟩
    · simp only [List.getElem?_toArray, List.getElem?_cons_succ, List.getElem?_cons_zero, Option.some.injEq] at ho
      subst ho
      refine ⟨by simp [Region.wanted], ?_⟩
      go_simp
      exact ⟨_, (by simp [upd, dstL]), Fr.refl _, rfl⟩
    · simp only [List.getElem?_toArray, List.getElem?_cons_succ, List.getElem?_cons_zero, Option.some.injEq] at ho
      subst ho
      refine ⟨by simp [Region.wanted], ?_⟩
      have e0 : X 3 = .agg #[.int .i64 0, .int .i64 1, .int .i64 1, .int .i64 1, .int .i64 0, .int .i64 1, .int .i64 1, .int .i64 1000000, .int .i64 1000, .int .i64 1000, .int .i64 100000, .int .i64 100000, .int .i64 512, .int .i64 64] := hE ⟨0, .data⟩ (by simp) rfl
      have e1 : X 4 = .agg #[.int .i64 r, .int .i64 s, .int .i64 b, .int .i64 m, .int .i64 q, .int .i64 c, .int .i64 w] := hE ⟨1, .data⟩ (by simp) rfl
      go_simp
      exact ⟨_, (by simp only [upd, dstL, e0, e1]; simp), Fr.refl _, rfl⟩
    · omega
  · intro o X u ho hF hX
    simp only [List.getElem?_toArray, List.getElem?_cons_succ, List.getElem?_cons_zero, Option.some.injEq] at ho
    subst ho
    have hFV : Fr V u := (Fr.drew V).trans hF
    have e2 : X 5 = .agg #[.int .i64 0, .int .i64 1, .int .i64 1, .int .i64 1, .int .i64 0, .int .i64 1, .int .i64 1, .int .i64 1000000, .int .i64 1000, .int .i64 1000, .int .i64 100000, .int .i64 100000, .int .i64 512, .int .i64 64, .int .i64 r, .int .i64 s, .int .i64 b, .int .i64 m, .int .i64 q, .int .i64 c, .int .i64 w] := hX 2 (by omega)
    have ku := kz.fr hFV
    refine ⟨by simp [Region.wanted], wp_store_row 71 (.tmp 2) (.tmp 5) rfl (W.heap.size + 1) #[.int .i64 0, .int .i64 1, .int .i64 1, .int .i64 1, .int .i64 0, .int .i64 1, .int .i64 1, .int .i64 1000000, .int .i64 1000, .int .i64 1000, .int .i64 100000, .int .i64 100000, .int .i64 512, .int .i64 64, .int .i64 r, .int .i64 s, .int .i64 b, .int .i64 m, .int .i64 q, .int .i64 c, .int .i64 w] rfl e2 71 _ ku (by kernel_rfl) (by simp) (by simp [Value.oneCell']) ?_⟩
    have kr : LcZ (u.setRow (W.heap.size + 1) #[.int .i64 0, .int .i64 1, .int .i64 1, .int .i64 1, .int .i64 0, .int .i64 1, .int .i64 1, .int .i64 1000000, .int .i64 1000, .int .i64 1000, .int .i64 100000, .int .i64 100000, .int .i64 512, .int .i64 64, .int .i64 r, .int .i64 s, .int .i64 b, .int .i64 m, .int .i64 q, .int .i64 c, .int .i64 w]) (W.heap.size + 1) #[.int .i64 0, .int .i64 1, .int .i64 1, .int .i64 1, .int .i64 0, .int .i64 1, .int .i64 1, .int .i64 1000000, .int .i64 1000, .int .i64 1000, .int .i64 100000, .int .i64 100000, .int .i64 512, .int .i64 64, .int .i64 r, .int .i64 s, .int .i64 b, .int .i64 m, .int .i64 q, .int .i64 c, .int .i64 w] := ku.set
    have gr := LcZ.grown u (W.heap.size + 1) (#[.int .i64 0, .int .i64 1, .int .i64 1, .int .i64 1, .int .i64 0, .int .i64 1, .int .i64 1, .int .i64 1000000, .int .i64 1000, .int .i64 1000, .int .i64 100000, .int .i64 100000, .int .i64 512, .int .i64 64, .int .i64 r, .int .i64 s, .int .i64 b, .int .i64 m, .int .i64 q, .int .i64 c, .int .i64 w])
    obtain ⟨Y, hY⟩ : ∃ Y, Y = u.setRow (W.heap.size + 1) #[.int .i64 0, .int .i64 1, .int .i64 1, .int .i64 1, .int .i64 0, .int .i64 1, .int .i64 1, .int .i64 1000000, .int .i64 1000, .int .i64 1000, .int .i64 100000, .int .i64 100000, .int .i64 512, .int .i64 64, .int .i64 r, .int .i64 s, .int .i64 b, .int .i64 m, .int .i64 q, .int .i64 c, .int .i64 w] := ⟨_, rfl⟩
    rw [← hY] at kr gr ⊢
    clear hY
    have hr := run_loadVar_row (P := Try.prog) Y (W.heap.size + 1) 71 71 #[.int .i64 0, .int .i64 1, .int .i64 1, .int .i64 1, .int .i64 0, .int .i64 1, .int .i64 1, .int .i64 1000000, .int .i64 1000, .int .i64 1000, .int .i64 100000, .int .i64 100000, .int .i64 512, .int .i64 64, .int .i64 r, .int .i64 s, .int .i64 b, .int .i64 m, .int .i64 q, .int .i64 c, .int .i64 w] (0, 0) _ kr Try.underlying71 rfl (by kernel_rfl)
    go_wp2_with fail
    refine bodyPost_ret (v := .agg #[.int .i64 0, .int .i64 1, .int .i64 1, .int .i64 1, .int .i64 0, .int .i64 1, .int .i64 1, .int .i64 1000000, .int .i64 1000, .int .i64 1000, .int .i64 100000, .int .i64 100000, .int .i64 512, .int .i64 64, .int .i64 r, .int .i64 s, .int .i64 b, .int .i64 m, .int .i64 q, .int .i64 c, .int .i64 w]) (by simp only [results, Try.results40]; simp; exact hr) rfl ⟨rfl, ?_⟩
    exact (f.trans hFV).then gr (by intro j hj; cases hj; omega)

set_option maxRecDepth 20000 in
set_option maxHeartbeats 2000000 in
theorem lcOk_any (c : Cf) (W : World) :
    Calls Try.prog 48 #[.agg #[.int .i64 0, .int .i64 1, .int .i64 1, .int .i64 1, .int .i64 0, .int .i64 1, .int .i64 1, .int .i64 1000000, .int .i64 1000, .int .i64 1000, .int .i64 100000, .int .i64 100000, .int .i64 512, .int .i64 64, .int .i64 c.r, .int .i64 c.s, .int .i64 c.b, .int .i64 c.m, .int .i64 c.q, .int .i64 c.c, .int .i64 c.w]] W fun e w' => e = .returned (.bool (cfB c)) ∧ Fr W w' := by
  have cA := fun u => admit_any c u
  obtain ⟨r, s, b, m, q, c, w⟩ := c
  generalize cfB ⟨r, s, b, m, q, c, w⟩ = B at cA ⊢
  simp only at cA ⊢
  have kb : LcZ (W.alloc (.cells #[.int .i64 0, .int .i64 1, .int .i64 1, .int .i64 1, .int .i64 0, .int .i64 1, .int .i64 1, .int .i64 1000000, .int .i64 1000, .int .i64 1000, .int .i64 100000, .int .i64 100000, .int .i64 512, .int .i64 64, .int .i64 r, .int .i64 s, .int .i64 b, .int .i64 m, .int .i64 q, .int .i64 c, .int .i64 w] 71)) W.heap.size #[.int .i64 0, .int .i64 1, .int .i64 1, .int .i64 1, .int .i64 0, .int .i64 1, .int .i64 1, .int .i64 1000000, .int .i64 1000, .int .i64 1000, .int .i64 100000, .int .i64 100000, .int .i64 512, .int .i64 64, .int .i64 r, .int .i64 s, .int .i64 b, .int .i64 m, .int .i64 q, .int .i64 c, .int .i64 w] := heap_alloc_new W _
  have f := Fr.alloc W (.cells #[.int .i64 0, .int .i64 1, .int .i64 1, .int .i64 1, .int .i64 0, .int .i64 1, .int .i64 1, .int .i64 1000000, .int .i64 1000, .int .i64 1000, .int .i64 100000, .int .i64 100000, .int .i64 512, .int .i64 64, .int .i64 r, .int .i64 s, .int .i64 b, .int .i64 m, .int .i64 q, .int .i64 c, .int .i64 w] 71)
  go_enter Try.func48, Try.ntmps48
  go_wp2_with fail
  obtain ⟨U, hU⟩ : ∃ U, U = W.alloc (.cells #[.int .i64 0, .int .i64 1, .int .i64 1, .int .i64 1, .int .i64 0, .int .i64 1, .int .i64 1, .int .i64 1000000, .int .i64 1000, .int .i64 1000, .int .i64 100000, .int .i64 100000, .int .i64 512, .int .i64 64, .int .i64 r, .int .i64 s, .int .i64 b, .int .i64 m, .int .i64 q, .int .i64 c, .int .i64 w] 71) := ⟨_, rfl⟩
  rw [← hU] at kb f ⊢
  clear hU
  refine (cA _).mono ?_
  rintro e u1 ⟨rfl, f1⟩
  go_wp2_with fail
  go_ret
  exact ⟨rfl, f.trans f1⟩

/-- Are these right draws? -/
def dwB (xs : List Int) : Bool := decide (xs.length ≤ 300) && xs.all (inB 0 999999)
theorem dwB_long {xs : List Int} (h : 300 < xs.length) : dwB xs = false := by
  have : decide (xs.length ≤ 300) = false := decide_eq_false (by omega)
  simp [dwB, this]
theorem dwB_bad {xs : List Int} {j : Nat} (hj : j < xs.length) (h : inB 0 999999 xs[j] = false) : dwB xs = false := by
  have : xs.all (inB 0 999999) = false := by
    rw [Bool.eq_false_iff]; intro e; rw [List.all_eq_true] at e; have := e xs[j] (List.getElem_mem hj); rw [h] at this; cases this
  simp [dwB, this]
theorem dwB_mk {xs : List Int} (h1 : xs.length ≤ 300) (h2 : ∀ j, j < xs.length → inB 0 999999 (xs.getD j 0) = true) : dwB xs = true := by
  simp only [dwB, Bool.and_eq_true, decide_eq_true_eq, List.all_eq_true]
  refine ⟨h1, fun x hx => ?_⟩
  obtain ⟨j, hj, rfl⟩ := List.mem_iff_getElem.1 hx
  have := h2 j hj
  rwa [getD_at hj] at this
theorem dwB_len {xs : List Int} (h : dwB xs = true) : xs.length ≤ 300 := by
  simp only [dwB, Bool.and_eq_true, decide_eq_true_eq] at h; exact h.1
theorem dwB_at {xs : List Int} (h : dwB xs = true) {j : Nat} (hj : j < xs.length) : 0 ≤ xs.getD j 0 ∧ xs.getD j 0 ≤ 999999 := by
  simp only [dwB, Bool.and_eq_true, List.all_eq_true] at h
  rw [getD_at hj]
  exact inB_true (h.2 _ (List.getElem_mem hj))

set_option maxRecDepth 20000 in
set_option maxHeartbeats 2000000 in
theorem admitDraws_any (ao : Option Addr) (n cap : Nat) (xs : List Int) (W : World) (hn : xs.length = n) (h : Reads W ao xs) :
    Calls Try.prog 56 #[.agg #[.int .i64 0, .int .i64 1, .int .i64 1, .int .i64 1, .int .i64 0, .int .i64 1, .int .i64 1, .int .i64 1000000, .int .i64 1000, .int .i64 1000, .int .i64 100000, .int .i64 100000, .int .i64 512, .int .i64 64], .slice ao n cap] W fun e w' => e = .returned (.bool (dwB xs)) ∧ Fr W w' := by
  subst hn
  have hl := h.len
  have aL := LmAt.new W 69
  have f := Fr.alloc W (.cells #[.int .i64 0, .int .i64 1, .int .i64 1, .int .i64 1, .int .i64 0, .int .i64 1, .int .i64 1, .int .i64 1000000, .int .i64 1000, .int .i64 1000, .int .i64 100000, .int .i64 100000, .int .i64 512, .int .i64 64] 69)
  by_cases h3 : 300 < xs.length
  · go_enter Try.func56, Try.ntmps56
    go_wp2_with fail
    go_ret
    exact ⟨ret_bool (dwB_long h3).symm, f⟩
  · have h3' : xs.length ≤ 300 := by omega
    go_enter Try.func56, Try.ntmps56
    go_wp2
    obtain ⟨U, hU⟩ : ∃ U, U = W.alloc (.cells #[.int .i64 0, .int .i64 1, .int .i64 1, .int .i64 1, .int .i64 0, .int .i64 1, .int .i64 1, .int .i64 1000000, .int .i64 1000, .int .i64 1000, .int .i64 100000, .int .i64 100000, .int .i64 512, .int .i64 64] 69) := ⟨_, rfl⟩
    rw [← hU] at aL f ⊢
    clear hU
    obtain ⟨m0, m1, m2, m3, m4, m5, m6, n0, n1, n2, n3, n4, n5, n6⟩ := aL
    have h := h.fr f
    go_loop [12] (fun i => ∃ k : Nat, k ≤ xs.length ∧ i = .int .i64 k ∧ Hid (∀ j, j < k → inB 0 999999 (xs.getD j 0) = true)) (fun i => xs.length - (intOf i).toNat)
    case atStart => exact ⟨0, Nat.zero_le _, rfl, fun j hj => by omega⟩
    case round =>
      obtain ⟨k, hk, rfl, HA⟩ := hrel
      by_cases hlt : k < xs.length
      · obtain ⟨b, off, rfl, hc⟩ := h.at_ k hlt
        have hck := hc k hlt
        rw [getD_at hlt] at hck
        clear hc
        cases hin : inB 0 999999 xs[k]
        · go_wp2_with (go_at_call 29; refine (within_any _ _ _ _).mono ?_; rintro e w' ⟨rfl, rfl⟩)
          go_ret
          exact ⟨ret_bool (dwB_bad hlt hin).symm, f⟩
        · go_wp2_with (go_at_call 29; refine (within_any _ _ _ _).mono ?_; rintro e w' ⟨rfl, rfl⟩)
          go_round
          case rel =>
            refine ⟨k + 1, by omega, by go_num, fun j hj => ?_⟩
            by_cases e : j = k
            · subst e; rw [getD_at hlt]; exact hin
            · exact HA.out j (by omega)
          case measure => simp [intOf]; omega
      · go_wp2
        go_ret
        exact ⟨ret_bool (dwB_mk h3' fun j hj => HA.out j (by omega)).symm, f⟩
end Go.Proofs.Ytkfcchapfklpgaa
