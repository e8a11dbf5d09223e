/-
  Pack AE: GrownSet, Grown, Ev, IntsEq.
-/
import Derived.Test.YtcofhmikdkkigaaGreatDoorPfAA
import Derived.Test.YtcofhmikdkkigaaGreatDoorPfAC
namespace Go.Proofs.YtcofhmikdkkigaaGreatDoor
open Go.RowKit

theorem grown_trans {a b c : World} {row : Option Nat} (h : a.grownBy b row) (k : b.grownBy c row) : a.grownBy c row :=
  ⟨k.os.trans h.os, k.tape.trans h.tape, k.output.trans h.output, Nat.le_trans h.size k.size, fun i hi hne => (k.block i (Nat.lt_of_lt_of_le hi h.size) hne).trans (h.block i hi hne)⟩
theorem grown_draw (w : World) (n : Nat) (row : Option Nat) : w.grownBy (w.drewN n) row := ⟨rfl, rfl, rfl, Nat.le_refl _, fun _ _ _ => rfl⟩
theorem grown_set (w : World) (g o : Nat) (v : Value) : w.grownBy (w.setCell ⟨g, o, none⟩ v) (some g) :=
  ⟨rfl, rfl, rfl, by simp, fun k _ hk => heap_setCell_other w ⟨g, o, none⟩ k v (fun e => hk (by simp [e]))⟩

theorem Fr.wide {w w' : World} {row : Option Nat} (h : Fr w w') : w.grownBy w' row := ⟨h.os, h.tape, h.output, h.size, fun i hi _ => h.block i hi (by simp)⟩
end Go.Proofs.YtcofhmikdkkigaaGreatDoor
namespace Go.Proofs.YtcofhmikdkkigaaGreatDoor
open Go.RowKit

structure Later (w : World) where
  u : World
  fr : Fr w u

theorem Later.some (w : World) : Nonempty (Later w) := ⟨⟨w, Fr.refl w⟩⟩

theorem wp_region_grown {P : Program} {id : Nat} {Q : Exit → Act → World → Prop} {a : Act} {w : World} {l : List Oper} (hm : P.follows .mixedOrders = true) (hB : Region.lexB .any l.toArray = true)
    (h : wpQuiet P l.toArray (fun w' => ∃ s : Later w, w' = s.u) (fun a' => ∀ w', (∃ s : Later w, w' = s.u) → Q .normal a' w') l a) : (Code.region id l.toArray true).wp P Q a w :=
  wp_region_quiet (C := fun w' => ∃ s : Later w, w' = s.u) hm hB ⟨⟨w.drew, Fr.drew w⟩, rfl⟩ (by simpa using h)

theorem Calls.grown_of {P : Program} {f : FuncId} {args : Array Value} {w : World} {s : Later w} {v : Value}
    (h : Calls P f args s.u fun e w' => e = .returned v ∧ Fr s.u w') : Calls P f args s.u fun e w'' => e = .returned v ∧ ∃ s' : Later w, w'' = s'.u :=
  h.mono fun _ w' ⟨he, hf⟩ => ⟨he, ⟨w', s.fr.trans hf⟩, rfl⟩
theorem Calls.grown_same {P : Program} {f : FuncId} {args : Array Value} {w : World} {s : Later w} {v : Value}
    (h : Calls P f args s.u fun e w' => e = .returned v ∧ w' = s.u) : Calls P f args s.u fun e w'' => e = .returned v ∧ ∃ s' : Later w, w'' = s'.u :=
  h.mono fun _ _ ⟨he, hm⟩ => ⟨he, s, hm⟩
end Go.Proofs.YtcofhmikdkkigaaGreatDoor
namespace Go.Proofs.YtcofhmikdkkigaaGreatDoor
open Go.RowKit

structure Ev where
  (k g o w l s f t : Int)

def fldN (n : Nat) : Int := [1, 1, 1, 1, 1, 9, 1, 1, 3, 1, 1, 9, 1, 1, 1, 1, 1, 1, 1, 60, 60, 12].getD n 0
def fldV (k : Int) : Int := if inB 1 22 k then fldN (k - 1).toNat else -1
def loV (k : Int) : Int := if k = 12 ∨ k = 20 ∨ k = 21 ∨ k = 22 then 1 else 0
def hiV (k : Int) : Int := if k = 6 then 8 else if k = 12 then 9 else if k = 20 ∨ k = 21 then 8 else if k = 22 then 64 else 0
def hasB (k d : Int) : Bool := ((fldV k).tdiv d).tmod 2 == 1
def fitB (h : Bool) (n lo hi : Int) : Bool := if h then inB lo hi n else n == 0
def ev1 (e : Ev) : Bool := fitB (hasB e.k 1) e.o 0 15
def ev2 (e : Ev) : Bool := fitB (hasB e.k 2) e.w 0 15
def ev3 (e : Ev) : Bool := fitB (hasB e.k 4) e.l 0 65535
def ev4 (e : Ev) : Bool := fitB (hasB e.k 8) e.s (loV e.k) (hiV e.k)
def ev5 (e : Ev) : Bool := fitB (hasB e.k 16) e.f 0 999
def ev6 (e : Ev) : Bool := fitB (hasB e.k 32) e.t 0 999
def evOk (e : Ev) : Bool := inB 1 22 e.k && inB 0 15 e.g && ev1 e && ev2 e && ev3 e && ev4 e && ev5 e && ev6 e

theorem kinds {k : Int} (h : inB 1 22 k = true) : ∃ n : Nat, n < 22 ∧ k = (n : Int) + 1 := by
  have := inB_true h
  exact ⟨(k - 1).toNat, by omega, by omega⟩

theorem fldV_at (n : Nat) (h : n < 22) : fldV ((n : Int) + 1) = fldN n := by
  rw [fldV, if_pos (inB_mk (by omega) (by omega))]
  congr 1
  omega
theorem fldN_in (n : Nat) : 0 ≤ fldN n ∧ fldN n ≤ 60 := by
  by_cases h : n < 22
  · exact (by decide : ∀ m, m < 22 → 0 ≤ fldN m ∧ fldN m ≤ 60) n h
  · rw [fldN, List.getD_eq_getElem?_getD, List.getElem?_eq_none (by simp; omega)]; decide
theorem fldV_in (k : Int) : -1 ≤ fldV k ∧ fldV k ≤ 60 := by
  rw [fldV]; split
  · have := fldN_in (k - 1).toNat; omega
  · omega

theorem mask_has (n : Nat) (h : n < 22) (d : Int) (hd : d ∈ ([1, 2, 4, 8, 16, 32] : List Int)) : (bits .and .i64 (fldN n) d == 0) = !hasB ((n : Int) + 1) d := by
  rw [hasB, fldV_at n h]
  exact (by decide +kernel : ∀ m, m < 22 → ∀ d ∈ ([1, 2, 4, 8, 16, 32] : List Int), (bits .and .i64 (fldN m) d == 0) = !(((fldN m).tdiv d).tmod 2 == 1)) n h d hd

theorem kindIn_any (x : Int) (w : World) :
    Calls Tryz.prog 158 #[.int .i64 x] w fun e w' => e = .returned (.bool (inB 1 22 x)) ∧ w' = w := by
  by_cases h : 1 ≤ x
  · by_cases h2 : x ≤ 22
    · rw [inB_mk h (by omega)]
      go_enter Tryz.func158, Tryz.ntmps158
      go_wp2
      go_ret
      exact ⟨rfl, rfl⟩
    · rw [inB_not (by omega)]
      go_enter Tryz.func158, Tryz.ntmps158
      go_wp2
      go_ret
      exact ⟨rfl, rfl⟩
  · rw [inB_not (by omega)]
    go_enter Tryz.func158, Tryz.ntmps158
    go_wp2
    go_ret
    exact ⟨rfl, rfl⟩

theorem mostObj_any (x : Int) (w : World) :
    Calls Tryz.prog 161 #[.int .i64 x] w fun e w' => e = .returned (.int .i64 15) ∧ w' = w := by
  by_cases h : x = 1
  · subst h
    go_enter Tryz.func161, Tryz.ntmps161
    go_wp2
    go_ret
    exact ⟨rfl, rfl⟩
  · go_enter Tryz.func161, Tryz.ntmps161
    go_wp2
    go_ret
    exact ⟨rfl, rfl⟩

theorem fits_any (F L M d n lo hi : Int) (h : Bool) (hh : (bits .and .i64 F d == 0) = !h) (w : World) :
    Calls Tryz.prog 160 #[.agg #[.int .i64 F, .int .i64 L, .int .i64 M], .int .i64 d, .int .i64 n, .int .i64 lo, .int .i64 hi] w fun e w' => e = .returned (.bool (fitB h n lo hi)) ∧ Fr w w' := by
  cases h
  · simp only [Bool.not_false] at hh
    go_enter Tryz.func160, Tryz.ntmps160
    go_wp2
    go_ret
    exact ⟨rfl, Fr.alloc _ _⟩
  · simp only [Bool.not_true] at hh
    by_cases h1 : lo ≤ n
    · by_cases h2 : n ≤ hi
      · go_enter Tryz.func160, Tryz.ntmps160
        go_wp2
        go_ret
        exact ⟨ret_bool (by rw [fitB, if_pos rfl, inB_mk h1 h2]), Fr.alloc _ _⟩
      · go_enter Tryz.func160, Tryz.ntmps160
        go_wp2
        go_ret
        exact ⟨ret_bool (by rw [fitB, if_pos rfl, inB_not (by omega)]), Fr.alloc _ _⟩
    · go_enter Tryz.func160, Tryz.ntmps160
      go_wp2
      go_ret
      exact ⟨ret_bool (by rw [fitB, if_pos rfl, inB_not (by omega)]), Fr.alloc _ _⟩

theorem lit_at {w : World} {t : TypeId} (zs : List Int) (k : Nat) (hk : k < zs.length) :
    (w.alloc (.cells (zs.map (Value.int .i64)).toArray t)).cell? ⟨w.heap.size, k, none⟩ = some (.int .i64 (zs.getD k 0)) := by
  rw [cell_of_row _ _ _ _ _ _ (heap_alloc_new w _)]
  simp [hk]

theorem specFields_any (k : Int) (w : World) :
    Calls Tryz.prog 107 #[.int .i64 k] w fun e w' => e = .returned (.int .i64 (fldV k)) ∧ Fr w w' := by
  cases h : inB 1 22 k
  · have e : fldV k = -1 := by rw [fldV, h]; rfl
    rw [e]
    clear e
    have c1 := fun w => l1In_any k 1 22 w
    simp only [h] at c1
    clear h
    go_enter Tryz.func107, Tryz.ntmps107
    go_wp2_with fail
    refine (c1 _).mono ?_
    rintro e w1 ⟨rfl, rfl⟩
    go_wp2_with fail
    go_ret
    exact ⟨rfl, Fr.refl _⟩
  · have c1 := fun w => l1In_any k 1 22 w
    simp only [h] at c1
    obtain ⟨n, hn, rfl⟩ := kinds h
    rw [fldV_at n hn]
    clear h
    have hc := lit_at (w := w) (t := 2) [1, 1, 1, 1, 1, 9, 1, 1, 3, 1, 1, 9, 1, 1, 1, 1, 1, 1, 1, 60, 60, 12] n hn
    change _ = some (Value.int IntKind.i64 (fldN n)) at hc
    obtain ⟨z, hz⟩ : ∃ z, z = fldN n := ⟨_, rfl⟩
    rw [← hz] at hc ⊢
    clear hz
    simp only [List.map_cons, List.map_nil] at hc
    go_enter Tryz.func107, Tryz.ntmps107
    go_wp2_with fail
    refine (c1 _).mono ?_
    rintro e w1 ⟨rfl, rfl⟩
    go_wp2_with fail
    go_ret
    exact ⟨rfl, Fr.alloc _ _⟩
end Go.Proofs.YtcofhmikdkkigaaGreatDoor
namespace Go.Proofs.YtcofhmikdkkigaaGreatDoor
open Go.RowKit

set_option maxHeartbeats 400000 in
theorem eqI_any (ao bo : Option Addr) (n m c d : Nat) (xs ys : List Int) (w : World) (hn : xs.length = n) (hm : ys.length = m) (h : Reads w ao xs) (h' : Reads w bo ys) :
    Calls Tryz.prog 35 #[.slice ao n c, .slice bo m d] w fun e w' => e = .returned (.bool (decide (xs = ys))) ∧ ∃ nq, w' = w.drewN nq := by
  subst hn hm
  have hl := h.len
  by_cases hne : xs.length = ys.length
  · have hb : ((xs.length : Int) != (ys.length : Int)) = false := by simp [hne]
    have HNE : Hid (xs.length = ys.length) := hne
    clear hne
    go_enter Tryz.func35, Tryz.ntmps35
    go_wp2
    go_loopw [5] (fun i wr => ∃ k : Nat, k ≤ xs.length ∧ i = .int .i64 k ∧ Hid (xs.take k = ys.take k) ∧ ∃ nq, wr = w.drewN nq) (fun i _ => xs.length - (intOf i).toNat)
    case atStart => exact ⟨0, Nat.zero_le _, rfl, rfl, 0, rfl⟩
    case round =>
      obtain ⟨k, hk, rfl, HT, nq, rfl⟩ := hrel
      by_cases hlt : k < xs.length
      · have hlt' : k < ys.length := by have := HNE.out; omega
        obtain ⟨b, off, rfl, hc⟩ := h.at_ k hlt
        obtain ⟨b', off', rfl, hc'⟩ := h'.at_ k hlt'
        have hck := hc k hlt
        have hck' := hc' k hlt'
        rw [getD_at hlt] at hck
        rw [getD_at hlt'] at hck'
        clear hc hc' hb
        go_wp2
        go_quiet (fail)
        go_wp2
        · have hq : (xs[k] != ys[k]) = true := by assumption
          go_ret
          refine ⟨?_, _, drew2 _ _ _⟩
          rw [ne_of_at hlt hlt' (by simpa using hq)]
          rfl
        · have hq : (xs[k] != ys[k]) = false := by assumption
          go_roundw
          case rel => exact ⟨k + 1, by omega, by go_num, eq_step HNE.out hlt HT.out (by simpa using hq), _, rfl⟩
          case measure => simp [intOf]; omega
      · go_wp2
        go_ret
        refine ⟨?_, nq, rfl⟩
        have e : xs = ys := by
          have h1 := HT.out
          have h2 := HNE.out
          rwa [List.take_of_length_le (by omega), List.take_of_length_le (by omega)] at h1
        have : decide (xs = ys) = true := by simpa using e
        rw [this]
        rfl
  · have hb : ((xs.length : Int) != (ys.length : Int)) = true := by simp; omega
    go_enter Tryz.func35, Tryz.ntmps35
    go_wp2
    go_ret
    refine ⟨?_, 0, rfl⟩
    have : decide (xs = ys) = false := by simp only [decide_eq_false_iff_not]; intro e; exact hne (by rw [e])
    rw [this]
    rfl
end Go.Proofs.YtcofhmikdkkigaaGreatDoor
