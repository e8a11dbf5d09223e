/-
  The drawing cursor of the specification (l1Cur): what is drawn is in range, and a draw writes into the cursor alone.
-/
import Derived.Test.YtpmloeneffolpaaGrownSet
import Derived.Test.YtpmloeneffolpaaInts
import Derived.Test.YtpmloeneffolpaaRange
import Derived.Laws.Bits128
import Derived.Laws.Shifts
import Derived.Laws.Pointers
namespace Go.Proofs.Ytpmloeneffolpaa
open Go.RowKit

theorem i64_and255 (n : Int) : bits .and .i64 n 255 = n % 256 := by
  have h255 : (BitVec.ofInt 64 255).toNat = 2 ^ 8 - 1 := by decide
  have key : (BitVec.ofInt 64 n &&& BitVec.ofInt 64 255).toNat = (n % ((2 ^ 64 : Nat) : Int)).toNat % 2 ^ 8 := by
    rw [BitVec.toNat_and, BitVec.toNat_ofInt, h255, Nat.and_two_pow_sub_one_eq_mod]
  show IntKind.i64.wrap ((BitVec.ofInt 64 n &&& BitVec.ofInt 64 255).toNat : Nat) = n % 256
  rw [key, IntKind.wrap_i64]
  omega
theorem i64_and30 (n : Int) : bits .and .i64 n 1073741823 = n % 1073741824 := by
  have h30 : (BitVec.ofInt 64 1073741823).toNat = 2 ^ 30 - 1 := by decide
  have key : (BitVec.ofInt 64 n &&& BitVec.ofInt 64 1073741823).toNat = (n % ((2 ^ 64 : Nat) : Int)).toNat % 2 ^ 30 := by
    rw [BitVec.toNat_and, BitVec.toNat_ofInt, h30, Nat.and_two_pow_sub_one_eq_mod]
  show IntKind.i64.wrap ((BitVec.ofInt 64 n &&& BitVec.ofInt 64 1073741823).toNat : Nat) = n % 1073741824
  rw [key, IntKind.wrap_i64]
  omega

/-- The bytes of a slice: n of them at the address ao. -/
def Bytes (w : World) (g : Nat) (ao : Option Addr) (n : Nat) : Prop :=
  ∀ i, i < n → ∃ b off, ao = some ⟨b, off, none⟩ ∧ b < g ∧ ∀ j, j < n → ∃ x : Int, w.cell? ⟨b, off + j, none⟩ = some (.int .u8 x) ∧ 0 ≤ x ∧ x ≤ 255

theorem Bytes.keep {w w' : World} {g n : Nat} {ao : Option Addr} (h : Bytes w g ao n) (k : w.grownBy w' (some g)) : Bytes w' g ao n := by
  intro i hi
  obtain ⟨b, off, e, hb, hc⟩ := h i hi
  refine ⟨b, off, e, hb, fun j hj => ?_⟩
  obtain ⟨x, hx, h0, h1⟩ := hc j hj
  exact ⟨x, k.cell hx (by simp; omega), h0, h1⟩

/-- A right cursor lies in the block g. -/
def Cur (w : World) (g : Nat) : Prop :=
  ∃ ao n cap, ∃ i : Nat, ∃ h : Int, w.heap[g]? = some (.cells #[.slice ao n cap, .int .i64 i, .int .i64 h] 60 (0, 0)) ∧ i ≤ n ∧ n ≤ 4294967296 ∧ Bytes w g ao n

theorem cur_set {w : World} {g : Nat} {a0 a1 a2 : Value} {t : TypeId} (hg : w.heap[g]? = some (.cells #[a0, a1, a2] t (0, 0))) (v : Value) :
    (w.setCell ⟨g, 2, none⟩ v).heap[g]? = some (.cells #[a0, a1, v] t (0, 0)) ∧ (w.setCell ⟨g, 1, none⟩ v).heap[g]? = some (.cells #[a0, v, a2] t (0, 0)) := by
  have h1 := heap_setCell_same w g 2 #[a0, a1, a2] t v hg
  have h2 := heap_setCell_same w g 1 #[a0, a1, a2] t v hg
  exact ⟨by simpa using h1, by simpa using h2⟩

/-- A draw without a byte of the code: the number h has turned. -/
theorem cur_step {w : World} {g n cap i : Nat} {ao : Option Addr} {h : Int} (hg : w.heap[g]? = some (.cells #[.slice ao n cap, .int .i64 i, .int .i64 h] 60 (0, 0)))
    (hin : i ≤ n) (hn : n ≤ 4294967296) (hb : Bytes w g ao n) (h2 : Int) (a b : Nat) :
    Cur (((w.setCell ⟨g, 2, none⟩ (.int .i64 h2)).drewN a).drewN b) g ∧ w.grownBy (((w.setCell ⟨g, 2, none⟩ (.int .i64 h2)).drewN a).drewN b) (some g) := by
  have k : w.grownBy (((w.setCell ⟨g, 2, none⟩ (.int .i64 h2)).drewN a).drewN b) (some g) := grown_trans (grown_trans (grown_set w g 2 _) (grown_draw _ a _)) (grown_draw _ b _)
  exact ⟨⟨ao, n, cap, i, h2, (cur_set hg _).1, hin, hn, hb.keep k⟩, k⟩

/-- A draw with one. -/
theorem cur_step2 {w : World} {g n cap i : Nat} {ao : Option Addr} {h : Int} (hg : w.heap[g]? = some (.cells #[.slice ao n cap, .int .i64 i, .int .i64 h] 60 (0, 0)))
    (hin : i < n) (hn : n ≤ 4294967296) (hb : Bytes w g ao n) (h2 : Int) (a : Nat) :
    Cur (((w.setCell ⟨g, 2, none⟩ (.int .i64 h2)).drewN a).setCell ⟨g, 1, none⟩ (.int .i64 ((i : Int) + 1))) g ∧ w.grownBy (((w.setCell ⟨g, 2, none⟩ (.int .i64 h2)).drewN a).setCell ⟨g, 1, none⟩ (.int .i64 ((i : Int) + 1))) (some g) := by
  have k : w.grownBy (((w.setCell ⟨g, 2, none⟩ (.int .i64 h2)).drewN a).setCell ⟨g, 1, none⟩ (.int .i64 ((i : Int) + 1))) (some g) := grown_trans (grown_trans (grown_set w g 2 _) (grown_draw _ a _)) (grown_set _ g 1 _)
  have e : ((i : Int) + 1) = ((i + 1 : Nat) : Int) := by omega
  have h1 := (cur_set hg (.int .i64 h2)).1
  have h3 : ((w.setCell ⟨g, 2, none⟩ (.int .i64 h2)).drewN a).heap[g]? = _ := h1
  refine ⟨⟨ao, n, cap, i + 1, h2, ?_, hin, hn, hb.keep k⟩, k⟩
  rw [e]
  exact (cur_set h3 _).2

theorem emod_le_self (a n : Int) (h0 : 0 ≤ a) (hn : 0 < n) : a % n ≤ a := by
  have h1 := Int.mul_nonneg (show 0 ≤ n by omega) (Int.ediv_nonneg h0 (show 0 ≤ n by omega))
  rw [Int.emod_def]
  omega
theorem byte_in (n : Int) : 0 ≤ bits .and .i64 n 255 ∧ bits .and .i64 n 255 ≤ 255 := by rw [i64_and255]; omega

set_option maxHeartbeats 400000 in
theorem l1Byte_any (g : Nat) (w : World) (hc : Cur w g) :
    Calls Try.prog 45 #[.pointer (some ⟨g, 0, none⟩)] w fun e w' => ∃ x : Int, e = .returned (.int .i64 x) ∧ 0 ≤ x ∧ x ≤ 255 ∧ Cur w' g ∧ w.grownBy w' (some g) := by
  obtain ⟨ao, n, cap, i, h, hg, hin, hn, hb⟩ := hc
  have c0 : w.cell? ⟨g, 0, none⟩ = some (.slice ao n cap) := cell_of_row w g 0 _ _ _ hg
  have c1 : w.cell? ⟨g, 1, none⟩ = some (.int .i64 i) := cell_of_row w g 1 _ _ _ hg
  have c2 : w.cell? ⟨g, 2, none⟩ = some (.int .i64 h) := cell_of_row w g 2 _ _ _ hg
  have z1 : w.frozen? ⟨g, 1, none⟩ = false := frozen_of_row w g 1 _ _ hg
  have z2 : w.frozen? ⟨g, 2, none⟩ = false := frozen_of_row w g 2 _ _ hg
  by_cases hlt : i < n
  · obtain ⟨b, off, rfl, hbg, hx⟩ := hb i hlt
    obtain ⟨x, hxc, x0, x1⟩ := hx i hlt
    go_enter Try.func45, Try.ntmps45
    go_wp2
    generalize wrap64 (wrap64 (h * 6364136223846793005) + 1442695040888963407) = h2
    go_quiet (fail)
    go_wp2
    go_quiet (fail)
    go_wp2
    go_quiet (fail)
    go_wp2
    go_ret
    have k := cur_step2 hg hlt hn hb h2
    exact ⟨_, rfl, (byte_in _).1, (byte_in _).2, (k _).1, (k _).2⟩
  · go_enter Try.func45, Try.ntmps45
    go_wp2
    generalize wrap64 (wrap64 (h * 6364136223846793005) + 1442695040888963407) = h2
    go_quiet (fail)
    go_wp2
    go_quiet (fail)
    go_wp2
    go_ret
    have k := cur_step hg hin hn hb h2
    exact ⟨_, rfl, (byte_in _).1, (byte_in _).2, (k _ _).1, (k _ _).2⟩

set_option maxHeartbeats 400000 in
/-- A number from 0 to n less 1; 0 where n is not above 0. -/
theorem l1Below_any (g : Nat) (n : Int) (w : World) (hc : Cur w g) :
    Calls Try.prog 38 #[.pointer (some ⟨g, 0, none⟩), .int .i64 n] w fun e w' => ∃ x : Int, e = .returned (.int .i64 x) ∧ 0 ≤ x ∧ (0 < n → x < n) ∧ x ≤ 4294967295 ∧ Cur w' g ∧ w.grownBy w' (some g) := by
  by_cases h0 : n ≤ 0
  · go_enter Try.func38, Try.ntmps38
    go_wp2
    go_ret
    exact ⟨0, rfl, by omega, by omega, by omega, hc, ⟨rfl, rfl, rfl, Nat.le_refl _, fun _ _ _ => rfl⟩⟩
  · have h0' : 0 < n := by omega
    by_cases h1 : n ≤ 256
    · go_enter Try.func38, Try.ntmps38
      go_wp2_with fail
      refine (l1Byte_any _ _ hc).mono ?_
      rintro e w1 ⟨x, rfl, x0, x1, c1, k1⟩
      go_wp2_with fail
      go_ret
      have b1 := Int.emod_nonneg x (show n ≠ 0 by omega)
      have b2 := Int.emod_lt_of_pos x h0'
      exact ⟨_, rfl, b1, fun _ => b2, by omega, c1, k1⟩
    · go_enter Try.func38, Try.ntmps38
      go_wp2_with fail
      refine (l1Byte_any _ _ hc).mono ?_
      rintro e w1 ⟨x, rfl, x0, x1, c1, k1⟩
      go_wp2_with fail
      refine (l1Byte_any _ _ c1).mono ?_
      rintro e w2 ⟨y, rfl, y0, y1, c2, k2⟩
      go_wp2_with fail
      refine (l1Byte_any _ _ c2).mono ?_
      rintro e w3 ⟨z, rfl, z0, z1, c3, k3⟩
      go_wp2_with fail
      refine (l1Byte_any _ _ c3).mono ?_
      rintro e w4 ⟨u, rfl, u0, u1, c4, k4⟩
      go_wp2_with fail
      go_ret
      have b0 : 0 ≤ x * 16777216 + y * 65536 + z * 256 + u := by omega
      have b1 := Int.emod_nonneg (x * 16777216 + y * 65536 + z * 256 + u) (show n ≠ 0 by omega)
      have b2 := Int.emod_lt_of_pos (x * 16777216 + y * 65536 + z * 256 + u) h0'
      have b3 : (x * 16777216 + y * 65536 + z * 256 + u) % n ≤ x * 16777216 + y * 65536 + z * 256 + u := emod_le_self _ _ b0 h0'
      exact ⟨_, rfl, b1, fun _ => b2, by omega, c4, grown_trans (grown_trans (grown_trans k1 k2) k3) k4⟩

theorem l1Once_any (g : Nat) (n : Int) (w : World) (hc : Cur w g) :
    Calls Try.prog 39 #[.pointer (some ⟨g, 0, none⟩), .int .i64 n] w fun e w' => ∃ b : Bool, e = .returned (.bool b) ∧ Cur w' g ∧ w.grownBy w' (some g) := by
  go_enter Try.func39, Try.ntmps39
  go_wp2_with fail
  refine (l1Below_any _ _ _ hc).mono ?_
  rintro e w1 ⟨x, rfl, x0, x1, x2, c1, k1⟩
  go_wp2_with fail
  go_ret
  exact ⟨_, rfl, c1, k1⟩

/-- What else is written and made leaves the cursor as it is. -/
theorem Cur.other {w w' : World} {g : Nat} {row : Option Nat} (h : Cur w g) (k : w.grownBy w' row) (hr : ∀ j, row = some j → g < j) : Cur w' g := by
  obtain ⟨ao, n, cap, i, hh, hg, hin, hn, hb⟩ := h
  have hlt : g < w.heap.size := (Array.getElem?_eq_some_iff.1 hg).1
  refine ⟨ao, n, cap, i, hh, ?_, hin, hn, fun i hi => ?_⟩
  · rw [k.block g hlt (fun e => by have := hr g e.symm; omega)]; exact hg
  · obtain ⟨b, off, e, hbg, hc⟩ := hb i hi
    refine ⟨b, off, e, hbg, fun j hj => ?_⟩
    obtain ⟨x, hx, h0, h1⟩ := hc j hj
    exact ⟨x, k.cell hx (fun e => by have := hr b e.symm; omega), h0, h1⟩
theorem Cur.lt {w : World} {g : Nat} (h : Cur w g) : g < w.heap.size := by
  obtain ⟨ao, n, cap, i, hh, hg, _⟩ := h
  exact (Array.getElem?_eq_some_iff.1 hg).1
theorem Cur.fr {w w' : World} {g : Nat} (h : Cur w g) (k : Fr w w') : Cur w' g := h.other k (by simp)
/-- What is new, and writes into it, beside the writes into the block g. -/
theorem grown_then {a b c : World} {g : Nat} {row : Option Nat} (h : a.grownBy b (some g)) (k : b.grownBy c row) (hr : ∀ j, row = some j → a.heap.size ≤ j ∨ j = g) : a.grownBy c (some g) :=
  ⟨k.os.trans h.os, k.tape.trans h.tape, k.output.trans h.output, Nat.le_trans h.size k.size,
    fun i hi hne => (k.block i (Nat.lt_of_lt_of_le hi h.size) (fun e => by rcases hr i e.symm with q | q; omega; exact hne (by rw [q]))).trans (h.block i hi hne)⟩
theorem grown_refl (w : World) (row : Option Nat) : w.grownBy w row := ⟨rfl, rfl, rfl, Nat.le_refl _, fun _ _ _ => rfl⟩

/-- One of some numbers that lie in a block of their own. -/
theorem lit_cell {w : World} {t : TypeId} (zs : List Int) (hz : ∀ z ∈ zs, I64 z) (k : Nat) (hk : k < zs.length) :
    ∃ z, I64 z ∧ (w.alloc (.cells (zs.map (Value.int .i64)).toArray t)).cell? ⟨w.heap.size, k, none⟩ = some (.int .i64 z) := by
  refine ⟨zs[k], hz _ (List.getElem_mem hk), ?_⟩
  rw [cell_of_row _ _ _ _ _ _ (heap_alloc_new w _)]
  simp [hk]

set_option maxHeartbeats 400000 in
theorem l1Odd_any (g : Nat) (w : World) (hc : Cur w g) :
    Calls Try.prog 40 #[.pointer (some ⟨g, 0, none⟩)] w fun e w' => ∃ x : Int, e = .returned (.int .i64 x) ∧ I64 x ∧ Cur w' g ∧ w.grownBy w' (some g) := by
  have hlt := hc.lt
  go_enter Try.func40, Try.ntmps40
  go_wp2_with fail
  refine (l1Below_any _ _ _ (hc.fr (Fr.alloc _ _))).mono ?_
  rintro e w1 ⟨x, rfl, x0, x1, x2, c1, k1⟩
  have x3 : x < 10 := x1 (by omega)
  clear x1 x2
  obtain ⟨k, rfl⟩ := Int.eq_ofNat_of_zero_le x0
  obtain ⟨z, hz, hcell⟩ := lit_cell (w := w) (t := 2) [-1, 0, 1, 2147483648, -2147483648, 1099511627776, 4611686018427387904, -4611686018427387904, 9223372036854775807, -9223372036854775808] (by intro z hz; simp at hz; rcases hz with rfl | rfl | rfl | rfl | rfl | rfl | rfl | rfl | rfl | rfl <;> exact ⟨by decide, by decide⟩) k (by simp; omega)
  have hcell2 := k1.cell hcell (by simp; omega)
  have hk10 : k < 10 := by omega
  clear hcell
  go_wp2_with fail
  go_ret
  exact ⟨z, rfl, hz, c1, grown_then (Fr.alloc w _).wide k1 (by intro j hj; right; simpa using hj.symm)⟩

set_option maxHeartbeats 400000 in
theorem l1Min_any (a b : Int) (w : World) :
    Calls Try.prog 46 #[.int .i64 a, .int .i64 b] w fun e w' => e = .returned (.int .i64 (min a b)) ∧ w' = w := by
  by_cases h : a < b
  · go_enter Try.func46, Try.ntmps46
    go_wp2
    go_ret
    exact ⟨ret_int (by omega), rfl⟩
  · go_enter Try.func46, Try.ntmps46
    go_wp2
    go_ret
    exact ⟨ret_int (by omega), rfl⟩

set_option maxHeartbeats 400000 in
theorem l1Num_any (g : Nat) (most : Int) (w : World) (hc : Cur w g) (m0 : 0 ≤ most) (m1 : most ≤ 4611686018427387904) :
    Calls Try.prog 44 #[.pointer (some ⟨g, 0, none⟩), .int .i64 most] w fun e w' => ∃ x : Int, e = .returned (.int .i64 x) ∧ I64 x ∧ Cur w' g ∧ w.grownBy w' (some g) := by
  go_enter Try.func44, Try.ntmps44
  go_wp2_with fail
  refine (l1Once_any _ _ _ hc).mono ?_
  rintro e w1 ⟨b, rfl, c1, k1⟩
  cases b
  · go_wp2_with fail
    refine (l1Once_any _ _ _ c1).mono ?_
    rintro e w2 ⟨b, rfl, c2, k2⟩
    cases b
    · go_wp2_with fail
      refine (l1Below_any _ _ _ c2).mono ?_
      rintro e w3 ⟨x, rfl, x0, x1, x2, c3, k3⟩
      go_wp2_with fail
      go_ret
      exact ⟨x, rfl, ⟨by omega, by omega⟩, c3, grown_trans (grown_trans k1 k2) k3⟩
    · go_wp2_with fail
      refine (l1Min_any _ _ _).mono ?_
      rintro e w3 ⟨rfl, rfl⟩
      obtain ⟨q, hq⟩ : ∃ q, q = min most 4 := ⟨_, rfl⟩
      have q0 : 0 ≤ q ∧ q ≤ 4 := by omega
      simp only [← hq]
      clear hq
      obtain ⟨q1, q2⟩ := q0
      go_wp2_with fail
      refine (l1Below_any _ _ _ c2).mono ?_
      rintro e w4 ⟨x, rfl, x0, x1, x2, c3, k3⟩
      go_wp2_with fail
      go_ret
      exact ⟨x, rfl, ⟨by omega, by omega⟩, c3, grown_trans (grown_trans k1 k2) k3⟩
  · go_wp2_with fail
    refine (l1Odd_any _ _ c1).mono ?_
    rintro e w2 ⟨o, rfl, ho, c2, k2⟩
    have hlt := c2.lt
    go_wp2_with fail
    refine (l1Below_any _ _ _ (c2.fr (Fr.alloc _ _))).mono ?_
    rintro e w3 ⟨x, rfl, x0, x1, x2, c3, k3⟩
    have x3 : x < 4 := x1 (by omega)
    clear x1 x2
    obtain ⟨k, rfl⟩ := Int.eq_ofNat_of_zero_le x0
    obtain ⟨z, hz, hcell⟩ := lit_cell (w := w2) (t := 2) [-1, most, most + 1, o] (by intro z hz; simp at hz; rcases hz with rfl | rfl | rfl | rfl; exact ⟨by decide, by decide⟩; exact ⟨by omega, by omega⟩; exact ⟨by omega, by omega⟩; exact ho) k (by simp; omega)
    have hcell2 := k3.cell hcell (by simp; omega)
    have hk4 : k < 4 := by omega
    clear hcell
    go_wp2_with fail
    go_ret
    exact ⟨z, rfl, hz, c3, grown_trans (grown_trans k1 k2) (grown_then (Fr.alloc w2 _).wide k3 (by intro j hj; right; simpa using hj.symm))⟩
end Go.Proofs.Ytpmloeneffolpaa
