/-
  Events: what is asked of each field by the Kind; the small callees of both EventOks.
-/
import Derived.Test.YtihdablgnmkjnaaDoorInts
import Derived.Test.YtihdablgnmkjnaaDoorRange
namespace Go.Proofs.YtihdablgnmkjnaaDoor
open Go.RowKit

/-- An event's eight numbers: Kind, Gor, Obj, With, Lo, Size, Fn, Site. -/
structure Ev where
  (k g o w l s f t : Int)

/-- What the Kinds from 1 on have, as a sum. -/
def fldN (n : Nat) : Int := [1, 1, 1, 1, 1, 9, 1, 1, 3, 1, 1, 9, 1, 1, 1, 1, 1, 1, 1, 60, 60, 12].getD n 0
def fldV (k : Int) : Int := if inB 1 22 k then fldN (k - 1).toNat else -1
/-- The least Size of a Kind, and the greatest. -/
def loV (k : Int) : Int := if k = 12 ∨ k = 20 ∨ k = 21 ∨ k = 22 then 1 else 0
def hiV (k : Int) : Int := if k = 6 then 8 else if k = 12 then 9 else if k = 20 ∨ k = 21 then 8 else if k = 22 then 64 else 0
/-- Has the Kind that field? -/
def hasB (k d : Int) : Bool := ((fldV k).tdiv d).tmod 2 == 1
/-- A field that the Kind has is in range, one that it has not is 0. -/
def fitB (h : Bool) (n lo hi : Int) : Bool := if h then inB lo hi n else n == 0
/-- The six fields' tests. -/
def ev1 (e : Ev) : Bool := fitB (hasB e.k 1) e.o 0 15
def ev2 (e : Ev) : Bool := fitB (hasB e.k 2) e.w 0 15
def ev3 (e : Ev) : Bool := fitB (hasB e.k 4) e.l 0 65535
def ev4 (e : Ev) : Bool := fitB (hasB e.k 8) e.s (loV e.k) (hiV e.k)
def ev5 (e : Ev) : Bool := fitB (hasB e.k 16) e.f 0 999
def ev6 (e : Ev) : Bool := fitB (hasB e.k 32) e.t 0 999
/-- EventOk. -/
def evOk (e : Ev) : Bool := inB 1 22 e.k && inB 0 15 e.g && ev1 e && ev2 e && ev3 e && ev4 e && ev5 e && ev6 e

theorem kinds {k : Int} (h : inB 1 22 k = true) : ∃ n : Nat, n < 22 ∧ k = (n : Int) + 1 := by
  have := inB_true h
  exact ⟨(k - 1).toNat, by omega, by omega⟩

theorem fldV_at (n : Nat) (h : n < 22) : fldV ((n : Int) + 1) = fldN n := by
  rw [fldV, if_pos (inB_mk (by omega) (by omega))]
  congr 1
  omega
theorem fldN_in (n : Nat) : 0 ≤ fldN n ∧ fldN n ≤ 60 := by
  by_cases h : n < 22
  · exact (by decide : ∀ m, m < 22 → 0 ≤ fldN m ∧ fldN m ≤ 60) n h
  · rw [fldN, List.getD_eq_getElem?_getD, List.getElem?_eq_none (by simp; omega)]; decide
theorem fldV_in (k : Int) : -1 ≤ fldV k ∧ fldV k ≤ 60 := by
  rw [fldV]; split
  · have := fldN_in (k - 1).toNat; omega
  · omega

/-- The program asks by a mask. -/
theorem mask_has (n : Nat) (h : n < 22) (d : Int) (hd : d ∈ ([1, 2, 4, 8, 16, 32] : List Int)) : (bits .and .i64 (fldN n) d == 0) = !hasB ((n : Int) + 1) d := by
  rw [hasB, fldV_at n h]
  exact (by decide +kernel : ∀ m, m < 22 → ∀ d ∈ ([1, 2, 4, 8, 16, 32] : List Int), (bits .and .i64 (fldN m) d == 0) = !(((fldN m).tdiv d).tmod 2 == 1)) n h d hd

theorem kindIn_any (x : Int) (w : World) :
    Calls Tryd.prog 19 #[.int .i64 x] w fun e w' => e = .returned (.bool (inB 1 22 x)) ∧ w' = w := by
  by_cases h : 1 ≤ x
  · by_cases h2 : x ≤ 22
    · rw [inB_mk h (by omega)]
      go_enter Tryd.func19, Tryd.ntmps19
      go_wp2
      go_ret
      exact ⟨rfl, rfl⟩
    · rw [inB_not (by omega)]
      go_enter Tryd.func19, Tryd.ntmps19
      go_wp2
      go_ret
      exact ⟨rfl, rfl⟩
  · rw [inB_not (by omega)]
    go_enter Tryd.func19, Tryd.ntmps19
    go_wp2
    go_ret
    exact ⟨rfl, rfl⟩

theorem mostObj_any (x : Int) (w : World) :
    Calls Tryd.prog 22 #[.int .i64 x] w fun e w' => e = .returned (.int .i64 15) ∧ w' = w := by
  by_cases h : x = 1
  · subst h
    go_enter Tryd.func22, Tryd.ntmps22
    go_wp2
    go_ret
    exact ⟨rfl, rfl⟩
  · go_enter Tryd.func22, Tryd.ntmps22
    go_wp2
    go_ret
    exact ⟨rfl, rfl⟩

/-- One test of the program's, on a row of its table. -/
theorem fits_any (F L M d n lo hi : Int) (h : Bool) (hh : (bits .and .i64 F d == 0) = !h) (w : World) :
    Calls Tryd.prog 21 #[.agg #[.int .i64 F, .int .i64 L, .int .i64 M], .int .i64 d, .int .i64 n, .int .i64 lo, .int .i64 hi] w fun e w' => e = .returned (.bool (fitB h n lo hi)) ∧ Fr w w' := by
  cases h
  · simp only [Bool.not_false] at hh
    go_enter Tryd.func21, Tryd.ntmps21
    go_wp2
    go_ret
    exact ⟨rfl, Fr.alloc _ _⟩
  · simp only [Bool.not_true] at hh
    by_cases h1 : lo ≤ n
    · by_cases h2 : n ≤ hi
      · go_enter Tryd.func21, Tryd.ntmps21
        go_wp2
        go_ret
        exact ⟨ret_bool (by rw [fitB, if_pos rfl, inB_mk h1 h2]), Fr.alloc _ _⟩
      · go_enter Tryd.func21, Tryd.ntmps21
        go_wp2
        go_ret
        exact ⟨ret_bool (by rw [fitB, if_pos rfl, inB_not (by omega)]), Fr.alloc _ _⟩
    · go_enter Tryd.func21, Tryd.ntmps21
      go_wp2
      go_ret
      exact ⟨ret_bool (by rw [fitB, if_pos rfl, inB_not (by omega)]), Fr.alloc _ _⟩

/-- One of some numbers that lie in a block of their own, by its place. -/
theorem lit_at {w : World} {t : TypeId} (zs : List Int) (k : Nat) (hk : k < zs.length) :
    (w.alloc (.cells (zs.map (Value.int .i64)).toArray t)).cell? ⟨w.heap.size, k, none⟩ = some (.int .i64 (zs.getD k 0)) := by
  rw [cell_of_row _ _ _ _ _ _ (heap_alloc_new w _)]
  simp [hk]

theorem specFields_any (k : Int) (w : World) :
    Calls Tryd.prog 14 #[.int .i64 k] w fun e w' => e = .returned (.int .i64 (fldV k)) ∧ Fr w w' := by
  cases h : inB 1 22 k
  · have e : fldV k = -1 := by rw [fldV, h]; rfl
    rw [e]
    clear e
    have c1 := fun w => l1In_any k 1 22 w
    simp only [h] at c1
    clear h
    go_enter Tryd.func14, Tryd.ntmps14
    go_wp2_with fail
    refine (c1 _).mono ?_
    rintro e w1 ⟨rfl, rfl⟩
    go_wp2_with fail
    go_ret
    exact ⟨rfl, Fr.refl _⟩
  · have c1 := fun w => l1In_any k 1 22 w
    simp only [h] at c1
    obtain ⟨n, hn, rfl⟩ := kinds h
    rw [fldV_at n hn]
    clear h
    have hc := lit_at (w := w) (t := 2) [1, 1, 1, 1, 1, 9, 1, 1, 3, 1, 1, 9, 1, 1, 1, 1, 1, 1, 1, 60, 60, 12] n hn
    change _ = some (Value.int IntKind.i64 (fldN n)) at hc
    obtain ⟨z, hz⟩ : ∃ z, z = fldN n := ⟨_, rfl⟩
    rw [← hz] at hc ⊢
    clear hz
    simp only [List.map_cons, List.map_nil] at hc
    go_enter Tryd.func14, Tryd.ntmps14
    go_wp2_with fail
    refine (c1 _).mono ?_
    rintro e w1 ⟨rfl, rfl⟩
    go_wp2_with fail
    go_ret
    exact ⟨rfl, Fr.alloc _ _⟩
end Go.Proofs.YtihdablgnmkjnaaDoor
