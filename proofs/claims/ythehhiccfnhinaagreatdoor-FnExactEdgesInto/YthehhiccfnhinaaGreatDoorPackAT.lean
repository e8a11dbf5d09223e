/-
  The drawing cursor of the specification (l1Cur): what is drawn is in range, and a draw writes into the cursor alone.
-/
import Derived.Test.YthehhiccfnhinaaGreatDoorPackAB
import Derived.Test.YthehhiccfnhinaaGreatDoorPackAA
import Derived.Laws.Bits128
import Derived.Laws.Shifts
import Derived.Laws.Pointers
import Derived.Test.YthehhiccfnhinaaGreatDoorPackAJ
import Derived.Test.YthehhiccfnhinaaGreatDoorPackAF
import Derived.Test.YthehhiccfnhinaaGreatDoorPackAS
namespace Go.Proofs.YthehhiccfnhinaaGreatDoor
open Go.RowKit

theorem i64_and255 (n : Int) : bits .and .i64 n 255 = n % 256 := by
  have h255 : (BitVec.ofInt 64 255).toNat = 2 ^ 8 - 1 := by decide
  have key : (BitVec.ofInt 64 n &&& BitVec.ofInt 64 255).toNat = (n % ((2 ^ 64 : Nat) : Int)).toNat % 2 ^ 8 := by
    rw [BitVec.toNat_and, BitVec.toNat_ofInt, h255, Nat.and_two_pow_sub_one_eq_mod]
  show IntKind.i64.wrap ((BitVec.ofInt 64 n &&& BitVec.ofInt 64 255).toNat : Nat) = n % 256
  rw [key, IntKind.wrap_i64]
  omega
theorem i64_and30 (n : Int) : bits .and .i64 n 1073741823 = n % 1073741824 := by
  have h30 : (BitVec.ofInt 64 1073741823).toNat = 2 ^ 30 - 1 := by decide
  have key : (BitVec.ofInt 64 n &&& BitVec.ofInt 64 1073741823).toNat = (n % ((2 ^ 64 : Nat) : Int)).toNat % 2 ^ 30 := by
    rw [BitVec.toNat_and, BitVec.toNat_ofInt, h30, Nat.and_two_pow_sub_one_eq_mod]
  show IntKind.i64.wrap ((BitVec.ofInt 64 n &&& BitVec.ofInt 64 1073741823).toNat : Nat) = n % 1073741824
  rw [key, IntKind.wrap_i64]
  omega

/-- The bytes of a slice: n of them at the address ao. -/
def Bytes (w : World) (g : Nat) (ao : Option Addr) (n : Nat) : Prop :=
  ∀ i, i < n → ∃ b off, ao = some ⟨b, off, none⟩ ∧ b < g ∧ ∀ j, j < n → ∃ x : Int, w.cell? ⟨b, off + j, none⟩ = some (.int .u8 x) ∧ 0 ≤ x ∧ x ≤ 255

theorem Bytes.keep {w w' : World} {g n : Nat} {ao : Option Addr} (h : Bytes w g ao n) (k : w.grownBy w' (some g)) : Bytes w' g ao n := by
  intro i hi
  obtain ⟨b, off, e, hb, hc⟩ := h i hi
  refine ⟨b, off, e, hb, fun j hj => ?_⟩
  obtain ⟨x, hx, h0, h1⟩ := hc j hj
  exact ⟨x, k.cell hx (by simp; omega), h0, h1⟩

/-- A right cursor lies in the block g. -/
def Cur (w : World) (g : Nat) : Prop :=
  ∃ ao n cap, ∃ i : Nat, ∃ h : Int, w.heap[g]? = some (.cells #[.slice ao n cap, .int .i64 i, .int .i64 h] 136 (0, 0)) ∧ i ≤ n ∧ n ≤ 4294967296 ∧ Bytes w g ao n

theorem cur_set {w : World} {g : Nat} {a0 a1 a2 : Value} {t : TypeId} (hg : w.heap[g]? = some (.cells #[a0, a1, a2] t (0, 0))) (v : Value) :
    (w.setCell ⟨g, 2, none⟩ v).heap[g]? = some (.cells #[a0, a1, v] t (0, 0)) ∧ (w.setCell ⟨g, 1, none⟩ v).heap[g]? = some (.cells #[a0, v, a2] t (0, 0)) := by
  have h1 := heap_setCell_same w g 2 #[a0, a1, a2] t v hg
  have h2 := heap_setCell_same w g 1 #[a0, a1, a2] t v hg
  exact ⟨by simpa using h1, by simpa using h2⟩

/-- A draw without a byte of the code: the number h has turned. -/
theorem cur_step {w : World} {g n cap i : Nat} {ao : Option Addr} {h : Int} (hg : w.heap[g]? = some (.cells #[.slice ao n cap, .int .i64 i, .int .i64 h] 136 (0, 0)))
    (hin : i ≤ n) (hn : n ≤ 4294967296) (hb : Bytes w g ao n) (h2 : Int) (a b : Nat) :
    Cur (((w.setCell ⟨g, 2, none⟩ (.int .i64 h2)).drewN a).drewN b) g ∧ w.grownBy (((w.setCell ⟨g, 2, none⟩ (.int .i64 h2)).drewN a).drewN b) (some g) := by
  have k : w.grownBy (((w.setCell ⟨g, 2, none⟩ (.int .i64 h2)).drewN a).drewN b) (some g) := grown_trans (grown_trans (grown_set w g 2 _) (grown_draw _ a _)) (grown_draw _ b _)
  exact ⟨⟨ao, n, cap, i, h2, (cur_set hg _).1, hin, hn, hb.keep k⟩, k⟩

/-- A draw with one. -/
theorem cur_step2 {w : World} {g n cap i : Nat} {ao : Option Addr} {h : Int} (hg : w.heap[g]? = some (.cells #[.slice ao n cap, .int .i64 i, .int .i64 h] 136 (0, 0)))
    (hin : i < n) (hn : n ≤ 4294967296) (hb : Bytes w g ao n) (h2 : Int) (a : Nat) :
    Cur (((w.setCell ⟨g, 2, none⟩ (.int .i64 h2)).drewN a).setCell ⟨g, 1, none⟩ (.int .i64 ((i : Int) + 1))) g ∧ w.grownBy (((w.setCell ⟨g, 2, none⟩ (.int .i64 h2)).drewN a).setCell ⟨g, 1, none⟩ (.int .i64 ((i : Int) + 1))) (some g) := by
  have k : w.grownBy (((w.setCell ⟨g, 2, none⟩ (.int .i64 h2)).drewN a).setCell ⟨g, 1, none⟩ (.int .i64 ((i : Int) + 1))) (some g) := grown_trans (grown_trans (grown_set w g 2 _) (grown_draw _ a _)) (grown_set _ g 1 _)
  have e : ((i : Int) + 1) = ((i + 1 : Nat) : Int) := by omega
  have h1 := (cur_set hg (.int .i64 h2)).1
  have h3 : ((w.setCell ⟨g, 2, none⟩ (.int .i64 h2)).drewN a).heap[g]? = _ := h1
  refine ⟨⟨ao, n, cap, i + 1, h2, ?_, hin, hn, hb.keep k⟩, k⟩
  rw [e]
  exact (cur_set h3 _).2

theorem emod_le_self (a n : Int) (h0 : 0 ≤ a) (hn : 0 < n) : a % n ≤ a := by
  have h1 := Int.mul_nonneg (show 0 ≤ n by omega) (Int.ediv_nonneg h0 (show 0 ≤ n by omega))
  rw [Int.emod_def]
  omega
theorem byte_in (n : Int) : 0 ≤ bits .and .i64 n 255 ∧ bits .and .i64 n 255 ≤ 255 := by rw [i64_and255]; omega

set_option maxHeartbeats 400000 in
theorem l1Byte_any (g : Nat) (w : World) (hc : Cur w g) :
    Calls Tryz.prog 193 #[.pointer (some ⟨g, 0, none⟩)] w fun e w' => ∃ x : Int, e = .returned (.int .i64 x) ∧ 0 ≤ x ∧ x ≤ 255 ∧ Cur w' g ∧ w.grownBy w' (some g) := by
  obtain ⟨ao, n, cap, i, h, hg, hin, hn, hb⟩ := hc
  have c0 : w.cell? ⟨g, 0, none⟩ = some (.slice ao n cap) := cell_of_row w g 0 _ _ _ hg
  have c1 : w.cell? ⟨g, 1, none⟩ = some (.int .i64 i) := cell_of_row w g 1 _ _ _ hg
  have c2 : w.cell? ⟨g, 2, none⟩ = some (.int .i64 h) := cell_of_row w g 2 _ _ _ hg
  have z1 : w.frozen? ⟨g, 1, none⟩ = false := frozen_of_row w g 1 _ _ hg
  have z2 : w.frozen? ⟨g, 2, none⟩ = false := frozen_of_row w g 2 _ _ hg
  by_cases hlt : i < n
  · obtain ⟨b, off, rfl, hbg, hx⟩ := hb i hlt
    obtain ⟨x, hxc, x0, x1⟩ := hx i hlt
    go_enter Tryz.func193, Tryz.ntmps193
    go_wp2
    generalize wrap64 (wrap64 (h * 6364136223846793005) + 1442695040888963407) = h2
    go_quiet (fail)
    go_wp2
    go_quiet (fail)
    go_wp2
    go_quiet (fail)
    go_wp2
    go_ret
    have k := cur_step2 hg hlt hn hb h2
    exact ⟨_, rfl, (byte_in _).1, (byte_in _).2, (k _).1, (k _).2⟩
  · go_enter Tryz.func193, Tryz.ntmps193
    go_wp2
    generalize wrap64 (wrap64 (h * 6364136223846793005) + 1442695040888963407) = h2
    go_quiet (fail)
    go_wp2
    go_quiet (fail)
    go_wp2
    go_ret
    have k := cur_step hg hin hn hb h2
    exact ⟨_, rfl, (byte_in _).1, (byte_in _).2, (k _ _).1, (k _ _).2⟩

set_option maxHeartbeats 400000 in
/-- A number from 0 to n less 1; 0 where n is not above 0. -/
theorem l1Below_any (g : Nat) (n : Int) (w : World) (hc : Cur w g) :
    Calls Tryz.prog 165 #[.pointer (some ⟨g, 0, none⟩), .int .i64 n] w fun e w' => ∃ x : Int, e = .returned (.int .i64 x) ∧ 0 ≤ x ∧ (0 < n → x < n) ∧ x ≤ 4294967295 ∧ Cur w' g ∧ w.grownBy w' (some g) := by
  by_cases h0 : n ≤ 0
  · go_enter Tryz.func165, Tryz.ntmps165
    go_wp2
    go_ret
    exact ⟨0, rfl, by omega, by omega, by omega, hc, ⟨rfl, rfl, rfl, Nat.le_refl _, fun _ _ _ => rfl⟩⟩
  · have h0' : 0 < n := by omega
    by_cases h1 : n ≤ 256
    · go_enter Tryz.func165, Tryz.ntmps165
      go_wp2_with fail
      refine (l1Byte_any _ _ hc).mono ?_
      rintro e w1 ⟨x, rfl, x0, x1, c1, k1⟩
      go_wp2_with fail
      go_ret
      have b1 := Int.emod_nonneg x (show n ≠ 0 by omega)
      have b2 := Int.emod_lt_of_pos x h0'
      exact ⟨_, rfl, b1, fun _ => b2, by omega, c1, k1⟩
    · go_enter Tryz.func165, Tryz.ntmps165
      go_wp2_with fail
      refine (l1Byte_any _ _ hc).mono ?_
      rintro e w1 ⟨x, rfl, x0, x1, c1, k1⟩
      go_wp2_with fail
      refine (l1Byte_any _ _ c1).mono ?_
      rintro e w2 ⟨y, rfl, y0, y1, c2, k2⟩
      go_wp2_with fail
      refine (l1Byte_any _ _ c2).mono ?_
      rintro e w3 ⟨z, rfl, z0, z1, c3, k3⟩
      go_wp2_with fail
      refine (l1Byte_any _ _ c3).mono ?_
      rintro e w4 ⟨u, rfl, u0, u1, c4, k4⟩
      go_wp2_with fail
      go_ret
      have b0 : 0 ≤ x * 16777216 + y * 65536 + z * 256 + u := by omega
      have b1 := Int.emod_nonneg (x * 16777216 + y * 65536 + z * 256 + u) (show n ≠ 0 by omega)
      have b2 := Int.emod_lt_of_pos (x * 16777216 + y * 65536 + z * 256 + u) h0'
      have b3 : (x * 16777216 + y * 65536 + z * 256 + u) % n ≤ x * 16777216 + y * 65536 + z * 256 + u := emod_le_self _ _ b0 h0'
      exact ⟨_, rfl, b1, fun _ => b2, by omega, c4, grown_trans (grown_trans (grown_trans k1 k2) k3) k4⟩

theorem l1Once_any (g : Nat) (n : Int) (w : World) (hc : Cur w g) :
    Calls Tryz.prog 104 #[.pointer (some ⟨g, 0, none⟩), .int .i64 n] w fun e w' => ∃ b : Bool, e = .returned (.bool b) ∧ Cur w' g ∧ w.grownBy w' (some g) := by
  go_enter Tryz.func104, Tryz.ntmps104
  go_wp2_with fail
  refine (l1Below_any _ _ _ hc).mono ?_
  rintro e w1 ⟨x, rfl, x0, x1, x2, c1, k1⟩
  go_wp2_with fail
  go_ret
  exact ⟨_, rfl, c1, k1⟩

/-- What else is written and made leaves the cursor as it is. -/
theorem Cur.other {w w' : World} {g : Nat} {row : Option Nat} (h : Cur w g) (k : w.grownBy w' row) (hr : ∀ j, row = some j → g < j) : Cur w' g := by
  obtain ⟨ao, n, cap, i, hh, hg, hin, hn, hb⟩ := h
  have hlt : g < w.heap.size := (Array.getElem?_eq_some_iff.1 hg).1
  refine ⟨ao, n, cap, i, hh, ?_, hin, hn, fun i hi => ?_⟩
  · rw [k.block g hlt (fun e => by have := hr g e.symm; omega)]; exact hg
  · obtain ⟨b, off, e, hbg, hc⟩ := hb i hi
    refine ⟨b, off, e, hbg, fun j hj => ?_⟩
    obtain ⟨x, hx, h0, h1⟩ := hc j hj
    exact ⟨x, k.cell hx (fun e => by have := hr b e.symm; omega), h0, h1⟩
theorem Cur.lt {w : World} {g : Nat} (h : Cur w g) : g < w.heap.size := by
  obtain ⟨ao, n, cap, i, hh, hg, _⟩ := h
  exact (Array.getElem?_eq_some_iff.1 hg).1
theorem Cur.fr {w w' : World} {g : Nat} (h : Cur w g) (k : Fr w w') : Cur w' g := h.other k (by simp)
/-- What is new, and writes into it, beside the writes into the block g. -/
theorem grown_then {a b c : World} {g : Nat} {row : Option Nat} (h : a.grownBy b (some g)) (k : b.grownBy c row) (hr : ∀ j, row = some j → a.heap.size ≤ j ∨ j = g) : a.grownBy c (some g) :=
  ⟨k.os.trans h.os, k.tape.trans h.tape, k.output.trans h.output, Nat.le_trans h.size k.size,
    fun i hi hne => (k.block i (Nat.lt_of_lt_of_le hi h.size) (fun e => by rcases hr i e.symm with q | q; omega; exact hne (by rw [q]))).trans (h.block i hi hne)⟩
theorem grown_refl (w : World) (row : Option Nat) : w.grownBy w row := ⟨rfl, rfl, rfl, Nat.le_refl _, fun _ _ _ => rfl⟩

/-- One of some numbers that lie in a block of their own. -/
theorem lit_cell {w : World} {t : TypeId} (zs : List Int) (hz : ∀ z ∈ zs, I64 z) (k : Nat) (hk : k < zs.length) :
    ∃ z, I64 z ∧ (w.alloc (.cells (zs.map (Value.int .i64)).toArray t)).cell? ⟨w.heap.size, k, none⟩ = some (.int .i64 z) := by
  refine ⟨zs[k], hz _ (List.getElem_mem hk), ?_⟩
  rw [cell_of_row _ _ _ _ _ _ (heap_alloc_new w _)]
  simp [hk]

set_option maxHeartbeats 400000 in
theorem l1Odd_any (g : Nat) (w : World) (hc : Cur w g) :
    Calls Tryz.prog 170 #[.pointer (some ⟨g, 0, none⟩)] w fun e w' => ∃ x : Int, e = .returned (.int .i64 x) ∧ I64 x ∧ Cur w' g ∧ w.grownBy w' (some g) := by
  have hlt := hc.lt
  go_enter Tryz.func170, Tryz.ntmps170
  go_wp2_with fail
  refine (l1Below_any _ _ _ (hc.fr (Fr.alloc _ _))).mono ?_
  rintro e w1 ⟨x, rfl, x0, x1, x2, c1, k1⟩
  have x3 : x < 10 := x1 (by omega)
  clear x1 x2
  obtain ⟨k, rfl⟩ := Int.eq_ofNat_of_zero_le x0
  obtain ⟨z, hz, hcell⟩ := lit_cell (w := w) (t := 2) [-1, 0, 1, 2147483648, -2147483648, 1099511627776, 4611686018427387904, -4611686018427387904, 9223372036854775807, -9223372036854775808] (by intro z hz; simp at hz; rcases hz with rfl | rfl | rfl | rfl | rfl | rfl | rfl | rfl | rfl | rfl <;> exact ⟨by decide, by decide⟩) k (by simp; omega)
  have hcell2 := k1.cell hcell (by simp; omega)
  have hk10 : k < 10 := by omega
  clear hcell
  go_wp2_with fail
  go_ret
  exact ⟨z, rfl, hz, c1, grown_then (Fr.alloc w _).wide k1 (by intro j hj; right; simpa using hj.symm)⟩

set_option maxHeartbeats 400000 in
theorem l1Min_any (a b : Int) (w : World) :
    Calls Tryz.prog 168 #[.int .i64 a, .int .i64 b] w fun e w' => e = .returned (.int .i64 (min a b)) ∧ w' = w := by
  by_cases h : a < b
  · go_enter Tryz.func168, Tryz.ntmps168
    go_wp2
    go_ret
    exact ⟨ret_int (by omega), rfl⟩
  · go_enter Tryz.func168, Tryz.ntmps168
    go_wp2
    go_ret
    exact ⟨ret_int (by omega), rfl⟩

set_option maxHeartbeats 400000 in
theorem l1Num_any (g : Nat) (most : Int) (w : World) (hc : Cur w g) (m0 : 0 ≤ most) (m1 : most ≤ 4611686018427387904) :
    Calls Tryz.prog 166 #[.pointer (some ⟨g, 0, none⟩), .int .i64 most] w fun e w' => ∃ x : Int, e = .returned (.int .i64 x) ∧ I64 x ∧ Cur w' g ∧ w.grownBy w' (some g) := by
  go_enter Tryz.func166, Tryz.ntmps166
  go_wp2_with fail
  refine (l1Once_any _ _ _ hc).mono ?_
  rintro e w1 ⟨b, rfl, c1, k1⟩
  cases b
  · go_wp2_with fail
    refine (l1Once_any _ _ _ c1).mono ?_
    rintro e w2 ⟨b, rfl, c2, k2⟩
    cases b
    · go_wp2_with fail
      refine (l1Below_any _ _ _ c2).mono ?_
      rintro e w3 ⟨x, rfl, x0, x1, x2, c3, k3⟩
      go_wp2_with fail
      go_ret
      exact ⟨x, rfl, ⟨by omega, by omega⟩, c3, grown_trans (grown_trans k1 k2) k3⟩
    · go_wp2_with fail
      refine (l1Min_any _ _ _).mono ?_
      rintro e w3 ⟨rfl, rfl⟩
      obtain ⟨q, hq⟩ : ∃ q, q = min most 4 := ⟨_, rfl⟩
      have q0 : 0 ≤ q ∧ q ≤ 4 := by omega
      simp only [← hq]
      clear hq
      obtain ⟨q1, q2⟩ := q0
      go_wp2_with fail
      refine (l1Below_any _ _ _ c2).mono ?_
      rintro e w4 ⟨x, rfl, x0, x1, x2, c3, k3⟩
      go_wp2_with fail
      go_ret
      exact ⟨x, rfl, ⟨by omega, by omega⟩, c3, grown_trans (grown_trans k1 k2) k3⟩
  · go_wp2_with fail
    refine (l1Odd_any _ _ c1).mono ?_
    rintro e w2 ⟨o, rfl, ho, c2, k2⟩
    have hlt := c2.lt
    go_wp2_with fail
    refine (l1Below_any _ _ _ (c2.fr (Fr.alloc _ _))).mono ?_
    rintro e w3 ⟨x, rfl, x0, x1, x2, c3, k3⟩
    have x3 : x < 4 := x1 (by omega)
    clear x1 x2
    obtain ⟨k, rfl⟩ := Int.eq_ofNat_of_zero_le x0
    obtain ⟨z, hz, hcell⟩ := lit_cell (w := w2) (t := 2) [-1, most, most + 1, o] (by intro z hz; simp at hz; rcases hz with rfl | rfl | rfl | rfl; exact ⟨by decide, by decide⟩; exact ⟨by omega, by omega⟩; exact ⟨by omega, by omega⟩; exact ho) k (by simp; omega)
    have hcell2 := k3.cell hcell (by simp; omega)
    have hk4 : k < 4 := by omega
    clear hcell
    go_wp2_with fail
    go_ret
    exact ⟨z, rfl, hz, c3, grown_trans (grown_trans k1 k2) (grown_then (Fr.alloc w2 _).wide k3 (by intro j hj; right; simpa using hj.symm))⟩
end Go.Proofs.YthehhiccfnhinaaGreatDoor
/-
  A cursor over the bytes of a code: l1New; and the laws' test 'big'.
-/
namespace Go.Proofs.YthehhiccfnhinaaGreatDoor
open Go.RowKit

theorem row_some {g : Nat} {P : Nat → Prop} (h : P g) : ∀ j, some g = some j → P j := by
  intro j e
  simp only [Option.some.injEq] at e
  subst e
  exact h

/-- n bytes lie at the address ao. -/
def ByteRow (w : World) (ao : Option Addr) (n : Nat) : Prop :=
  ∀ i, i < n → ∃ b off, ao = some ⟨b, off, none⟩ ∧ ∀ j, j < n → ∃ x : Int, w.cell? ⟨b, off + j, none⟩ = some (.int .u8 x) ∧ 0 ≤ x ∧ x ≤ 255

theorem bytes_of_row {w : World} {a : Option Addr} {len cap : Nat} {zs : List Int}
    (h : (a = none ∧ len = 0 ∧ cap = 0 ∧ zs = []) ∨ ∃ x, a = some x ∧ len ≤ cap ∧ cap ≤ maxLen ∧ zs.length = cap ∧ (∀ i, i < zs.length → w.cell? (x.add i) = some (.int .u8 (zs.getD i 0))) ∧ ∀ n ∈ zs, (Lit.int .u8 n).wf = true) :
    ByteRow w a len := by
  rcases h with ⟨rfl, rfl, rfl, rfl⟩ | ⟨x, rfl, h1, h2, h3, h4, h5⟩
  · intro i hi; omega
  · intro i hi
    obtain ⟨b, off, spot⟩ := x
    have hc := h4 0 (by omega)
    have hspot : spot = none := by
      have := World.cell?_spot hc
      simpa [Addr.add] using this
    subst hspot
    refine ⟨b, off, rfl, fun j hj => ?_⟩
    have hj' : j < zs.length := by omega
    have := h4 j hj'
    rw [Addr.add_lit] at this
    have hb := bounds_u8 (h5 _ (List.getElem_mem hj'))
    rw [getD_at hj'] at this
    exact ⟨zs[j], this, by omega, by omega⟩

theorem ByteRow.fr {w w' : World} {ao : Option Addr} {n : Nat} (h : ByteRow w ao n) (k : Fr w w') : ByteRow w' ao n := by
  intro i hi
  obtain ⟨b, off, e, hc⟩ := h i hi
  refine ⟨b, off, e, fun j hj => ?_⟩
  obtain ⟨x, hx, r⟩ := hc j hj
  exact ⟨x, k.cell hx, r⟩

theorem cur_new {w : World} {ao : Option Addr} {n cap : Nat} (h : ByteRow w ao n) (hn : n ≤ 4294967296) (hv : Int) :
    Cur (w.alloc (.cells #[.slice ao n cap, .int .i64 0, .int .i64 hv] 136)) w.heap.size := by
  refine ⟨ao, n, cap, 0, hv, heap_alloc_new w _, Nat.zero_le _, hn, fun i hi => ?_⟩
  obtain ⟨b, off, e, hc⟩ := h i hi
  obtain ⟨x, hx, _⟩ := hc i hi
  refine ⟨b, off, e, World.block_lt_of_cell? w _ hx, fun j hj => ?_⟩
  obtain ⟨x, hx, r⟩ := hc j hj
  exact ⟨x, (Fr.alloc w _).cell hx, r⟩

theorem and30_in (n : Int) : 0 ≤ bits .and .i64 n 1073741823 ∧ bits .and .i64 n 1073741823 ≤ 1073741823 := by rw [i64_and30]; omega

set_option maxHeartbeats 400000 in
theorem l1New_any (ao : Option Addr) (n cap : Nat) (w : World) (h : ByteRow w ao n) (hn : n ≤ 4294967296) :
    Calls Tryz.prog 48 #[.slice ao n cap] w fun e w' => e = .returned (.pointer (some ⟨w.heap.size, 0, none⟩)) ∧ Cur w' w.heap.size ∧ Fr w w' := by
  go_enter Tryz.func48, Tryz.ntmps48
  go_wp2_with fail
  go_loop [3, 4] (fun hh i => ∃ k : Nat, ∃ hv : Int, k ≤ n ∧ i = .int .i64 k ∧ hh = .int .i64 hv ∧ 0 ≤ hv ∧ hv ≤ 8589934592) (fun _ i => n - (intOf i).toNat)
  case atStart => exact ⟨0, 161803 + (n : Int), Nat.zero_le _, rfl, rfl, by omega, by omega⟩
  case round =>
    obtain ⟨k, hv, hk, rfl, rfl, b0, b1⟩ := hrel
    by_cases hlt : k < n
    · obtain ⟨b, off, rfl, hc⟩ := h k hlt
      obtain ⟨x, hx, x0, x1⟩ := hc k hlt
      clear hc
      go_wp2_with fail
      go_round
      case rel => exact ⟨k + 1, _, by omega, by go_num, rfl, (and30_in _).1, by have := (and30_in (hv * 199 + x + 11)).2; omega⟩
      case measure => simp [intOf]; omega
    · go_wp2_with fail
      go_ret
      exact ⟨rfl, cur_new h hn hv, Fr.alloc _ _⟩

theorem big_any (ao : Option Addr) (n cap : Nat) (w : World) (_hn : n ≤ 9223372036854775807) :
    Calls Tryz.prog 12 #[.slice ao n cap] w fun e w' => e = .returned (.bool (decide (4096 < (n : Int)))) ∧ w' = w := by
  go_enter Tryz.func12, Tryz.ntmps12
  go_wp2
  go_ret
  exact ⟨rfl, rfl⟩
end Go.Proofs.YthehhiccfnhinaaGreatDoor
/-
  The drawing of events: whatever is drawn is an event of int64s, and a draw writes into the cursor alone.
-/
namespace Go.Proofs.YthehhiccfnhinaaGreatDoor
open Go.RowKit

set_option maxHeartbeats 400000 in
theorem l1From_any (g : Nat) (lo hi : Int) (w : World) (hc : Cur w g) (h1 : -1000000 ≤ lo) (h2 : lo ≤ hi) (h3 : hi ≤ 1000000) :
    Calls Tryz.prog 167 #[.pointer (some ⟨g, 0, none⟩), .int .i64 lo, .int .i64 hi] w fun e w' => ∃ x : Int, e = .returned (.int .i64 x) ∧ lo ≤ x ∧ x ≤ hi ∧ Cur w' g ∧ w.grownBy w' (some g) := by
  go_enter Tryz.func167, Tryz.ntmps167
  go_wp2_with fail
  refine (l1Below_any _ _ _ hc).mono ?_
  rintro e w1 ⟨x, rfl, x0, x1, x2, c1, k1⟩
  have x3 : x < hi - lo + 1 := x1 (by omega)
  clear x1
  go_wp2_with fail
  go_ret
  exact ⟨_, rfl, by omega, by omega, c1, k1⟩

/-- In the midst of a draw: the cursor in the block g, the event in the block b, room for the answer in the block r. -/
structure DS (w0 : World) (g r b : Nat) (e : Ev) (wr : World) : Prop where
  cur : Cur wr g
  gro : w0.grownBy wr (some g)
  ev : EvB wr b e
  res : EvB wr r ⟨0, 0, 0, 0, 0, 0, 0, 0⟩
  gl : g < w0.heap.size
  rl : w0.heap.size ≤ r
  bl : r < b

theorem DS.draw {w0 wr w' : World} {g r b : Nat} {e : Ev} (h : DS w0 g r b e wr) (c : Cur w' g) (k : wr.grownBy w' (some g)) : DS w0 g r b e w' := by
  obtain ⟨h1, h2, h3, h4, h5, h6, h7⟩ := h
  exact ⟨c, grown_trans h2 k, h3.keep k (by simp; omega), h4.keep k (by simp; omega), h5, h6, h7⟩
theorem DS.fr {w0 wr w' : World} {g r b : Nat} {e : Ev} (h : DS w0 g r b e wr) (k : Fr wr w') : DS w0 g r b e w' := by
  obtain ⟨h1, h2, h3, h4, h5, h6, h7⟩ := h
  exact ⟨h1.fr k, grown_trans h2 k.wide, h3.keep k (by simp), h4.keep k (by simp), h5, h6, h7⟩
theorem DS.wrote {w0 wr w' : World} {g r b : Nat} {e e' : Ev} (h : DS w0 g r b e wr) (k : wr.grownBy w' (some b)) (hb : EvB w' b e') : DS w0 g r b e' w' := by
  obtain ⟨h1, h2, h3, h4, h5, h6, h7⟩ := h
  exact ⟨h1.other k (by intro j hj; simp only [Option.some.injEq] at hj; omega), grown_then h2 k (by intro j hj; simp only [Option.some.injEq] at hj; omega), hb, h4.keep k (by simp; omega), h5, h6, h7⟩
theorem DS.setK {w0 wr : World} {g r b : Nat} {k gr o wi l sz f t : Int} (h : DS w0 g r b ⟨k, gr, o, wi, l, sz, f, t⟩ wr) (x : Int) : DS w0 g r b ⟨x, gr, o, wi, l, sz, f, t⟩ (wr.setCell ⟨b, 0, none⟩ (.int .i64 x)) :=
  h.wrote (grown_set wr b 0 _) (h.ev.setK x)
theorem DS.setG {w0 wr : World} {g r b : Nat} {k gr o wi l sz f t : Int} (h : DS w0 g r b ⟨k, gr, o, wi, l, sz, f, t⟩ wr) (x : Int) : DS w0 g r b ⟨k, x, o, wi, l, sz, f, t⟩ (wr.setCell ⟨b, 1, none⟩ (.int .i64 x)) :=
  h.wrote (grown_set wr b 1 _) (h.ev.setG x)
theorem DS.setO {w0 wr : World} {g r b : Nat} {k gr o wi l sz f t : Int} (h : DS w0 g r b ⟨k, gr, o, wi, l, sz, f, t⟩ wr) (x : Int) : DS w0 g r b ⟨k, gr, x, wi, l, sz, f, t⟩ (wr.setCell ⟨b, 2, none⟩ (.int .i64 x)) :=
  h.wrote (grown_set wr b 2 _) (h.ev.setO x)
theorem DS.setW {w0 wr : World} {g r b : Nat} {k gr o wi l sz f t : Int} (h : DS w0 g r b ⟨k, gr, o, wi, l, sz, f, t⟩ wr) (x : Int) : DS w0 g r b ⟨k, gr, o, x, l, sz, f, t⟩ (wr.setCell ⟨b, 3, none⟩ (.int .i64 x)) :=
  h.wrote (grown_set wr b 3 _) (h.ev.setW x)
theorem DS.setL {w0 wr : World} {g r b : Nat} {k gr o wi l sz f t : Int} (h : DS w0 g r b ⟨k, gr, o, wi, l, sz, f, t⟩ wr) (x : Int) : DS w0 g r b ⟨k, gr, o, wi, x, sz, f, t⟩ (wr.setCell ⟨b, 4, none⟩ (.int .i64 x)) :=
  h.wrote (grown_set wr b 4 _) (h.ev.setL x)
theorem DS.setS {w0 wr : World} {g r b : Nat} {k gr o wi l sz f t : Int} (h : DS w0 g r b ⟨k, gr, o, wi, l, sz, f, t⟩ wr) (x : Int) : DS w0 g r b ⟨k, gr, o, wi, l, x, f, t⟩ (wr.setCell ⟨b, 5, none⟩ (.int .i64 x)) :=
  h.wrote (grown_set wr b 5 _) (h.ev.setS x)
theorem DS.setF {w0 wr : World} {g r b : Nat} {k gr o wi l sz f t : Int} (h : DS w0 g r b ⟨k, gr, o, wi, l, sz, f, t⟩ wr) (x : Int) : DS w0 g r b ⟨k, gr, o, wi, l, sz, x, t⟩ (wr.setCell ⟨b, 6, none⟩ (.int .i64 x)) :=
  h.wrote (grown_set wr b 6 _) (h.ev.setF x)
theorem DS.setT {w0 wr : World} {g r b : Nat} {k gr o wi l sz f t : Int} (h : DS w0 g r b ⟨k, gr, o, wi, l, sz, f, t⟩ wr) (x : Int) : DS w0 g r b ⟨k, gr, o, wi, l, sz, f, x⟩ (wr.setCell ⟨b, 7, none⟩ (.int .i64 x)) :=
  h.wrote (grown_set wr b 7 _) (h.ev.setT x)

theorem DS.fin {w0 wr w' : World} {g r b : Nat} {e : Ev} (h : DS w0 g r b e wr) (k : wr.grownBy w' (some r)) : Cur w' g ∧ w0.grownBy w' (some g) := by
  obtain ⟨h1, h2, h3, h4, h5, h6, h7⟩ := h
  exact ⟨h1.other k (by intro j hj; simp only [Option.some.injEq] at hj; omega), grown_then h2 k (by intro j hj; simp only [Option.some.injEq] at hj; omega)⟩

/-- The five ways in which a Kind has fields. -/
theorem has_ways (k : Int) (h0 : 1 ≤ k) (h1 : k ≤ 22) :
    (hasB k 1 = true ∧ hasB k 2 = false ∧ hasB k 4 = false ∧ hasB k 8 = false ∧ hasB k 16 = false ∧ hasB k 32 = false) ∨
    (hasB k 1 = true ∧ hasB k 2 = true ∧ hasB k 4 = false ∧ hasB k 8 = false ∧ hasB k 16 = false ∧ hasB k 32 = false) ∨
    (hasB k 1 = true ∧ hasB k 2 = false ∧ hasB k 4 = false ∧ hasB k 8 = true ∧ hasB k 16 = false ∧ hasB k 32 = false) ∨
    (hasB k 1 = false ∧ hasB k 2 = false ∧ hasB k 4 = true ∧ hasB k 8 = true ∧ hasB k 16 = false ∧ hasB k 32 = false) ∨
    (hasB k 1 = false ∧ hasB k 2 = false ∧ hasB k 4 = true ∧ hasB k 8 = true ∧ hasB k 16 = true ∧ hasB k 32 = true) := by
  obtain ⟨n, hn, rfl⟩ := kinds (inB_mk h0 h1)
  exact (by decide +kernel : ∀ n : Nat, n < 22 →
    (hasB ((n : Int) + 1) 1 = true ∧ hasB ((n : Int) + 1) 2 = false ∧ hasB ((n : Int) + 1) 4 = false ∧ hasB ((n : Int) + 1) 8 = false ∧ hasB ((n : Int) + 1) 16 = false ∧ hasB ((n : Int) + 1) 32 = false) ∨
    (hasB ((n : Int) + 1) 1 = true ∧ hasB ((n : Int) + 1) 2 = true ∧ hasB ((n : Int) + 1) 4 = false ∧ hasB ((n : Int) + 1) 8 = false ∧ hasB ((n : Int) + 1) 16 = false ∧ hasB ((n : Int) + 1) 32 = false) ∨
    (hasB ((n : Int) + 1) 1 = true ∧ hasB ((n : Int) + 1) 2 = false ∧ hasB ((n : Int) + 1) 4 = false ∧ hasB ((n : Int) + 1) 8 = true ∧ hasB ((n : Int) + 1) 16 = false ∧ hasB ((n : Int) + 1) 32 = false) ∨
    (hasB ((n : Int) + 1) 1 = false ∧ hasB ((n : Int) + 1) 2 = false ∧ hasB ((n : Int) + 1) 4 = true ∧ hasB ((n : Int) + 1) 8 = true ∧ hasB ((n : Int) + 1) 16 = false ∧ hasB ((n : Int) + 1) 32 = false) ∨
    (hasB ((n : Int) + 1) 1 = false ∧ hasB ((n : Int) + 1) 2 = false ∧ hasB ((n : Int) + 1) 4 = true ∧ hasB ((n : Int) + 1) 8 = true ∧ hasB ((n : Int) + 1) 16 = true ∧ hasB ((n : Int) + 1) 32 = true)) n hn
theorem size_in (k : Int) : 0 ≤ loV k ∧ loV k ≤ hiV k ∧ hiV k ≤ 64 := by
  unfold loV hiV
  repeat (split <;> try omega)

theorem put8 (w : World) (r : Nat) (v0 v1 v2 v3 v4 v5 v6 v7 : Value) :
    w.grownBy ((((((((w.setCell ⟨r, 0, none⟩ v0).setCell ⟨r, 1, none⟩ v1).setCell ⟨r, 2, none⟩ v2).setCell ⟨r, 3, none⟩ v3).setCell ⟨r, 4, none⟩ v4).setCell ⟨r, 5, none⟩ v5).setCell ⟨r, 6, none⟩ v6).setCell ⟨r, 7, none⟩ v7) (some r) :=
  grown_trans (grown_trans (grown_trans (grown_trans (grown_trans (grown_trans (grown_trans (grown_set _ r 0 _) (grown_set _ r 1 _)) (grown_set _ r 2 _)) (grown_set _ r 3 _)) (grown_set _ r 4 _)) (grown_set _ r 5 _)) (grown_set _ r 6 _)) (grown_set _ r 7 _)

set_option maxHeartbeats 4000000 in
theorem l2Draw_any (g : Nat) (w : World) (hc : Cur w g) :
    Calls Tryz.prog 103 #[.pointer (some ⟨g, 0, none⟩)] w fun x w' => ∃ e : Ev, x = .returned (.agg #[.int .i64 e.k, .int .i64 e.g, .int .i64 e.o, .int .i64 e.w, .int .i64 e.l, .int .i64 e.s, .int .i64 e.f, .int .i64 e.t]) ∧ EvI e ∧ Cur w' g ∧ w.grownBy w' (some g) := by
  have hgl := hc.lt
  go_enter Tryz.func103, Tryz.ntmps103
  have hr0 := EvB.new w ⟨0, 0, 0, 0, 0, 0, 0, 0⟩
  go_wp2_with fail
  refine (l1From_any _ _ _ _ (hc.fr (Fr.alloc _ _)) (by decide) (by decide) (by decide)).mono ?_
  rintro e w1 ⟨k, rfl, k0, k1, c1, g1⟩
  go_wp2_with fail
  refine (l1Below_any _ _ _ c1).mono ?_
  rintro e w2 ⟨gor, rfl, r0, -, r1, c2, g2⟩
  have h : DS w g w.heap.size w2.heap.size ⟨k, gor, 0, 0, 0, 0, 0, 0⟩ (w2.alloc (.cells #[.int .i64 k, .int .i64 gor, .int .i64 0, .int .i64 0, .int .i64 0, .int .i64 0, .int .i64 0, .int .i64 0] 31)) := by
    have ga := grown_trans g1 g2
    have hlt := (hr0.keep ga (by simp; omega)).lt
    exact ⟨c2.fr (Fr.alloc _ _), grown_then (grown_then (Fr.alloc w _).wide ga (row_some (.inr rfl))) (Fr.alloc _ _) (by simp), EvB.new _ ⟨k, gor, 0, 0, 0, 0, 0, 0⟩, (hr0.keep ga (by simp; omega)).keep (Fr.alloc _ _) (by simp), hgl, Nat.le_refl _, hlt⟩
  obtain ⟨r, hr⟩ : ∃ r, r = w.heap.size := ⟨_, rfl⟩
  simp only [← hr] at h ⊢
  clear hr hr0 c1 g1 c2 g2 hc hgl
  go_wp2_with fail
  refine (l1Once_any _ _ _ h.cur).mono ?_
  rintro e w3 ⟨once, rfl, c3, g3⟩
  have h0 := h.draw c3 g3
  clear h
  obtain ⟨b, hb⟩ : ∃ b, b = w2.heap.size := ⟨_, rfl⟩
  simp only [← hb] at h0 ⊢
  clear hb c3 g3 w2 w1
  have n0 : w3.cell? ⟨b, 0, none⟩ = some (.int .i64 k) := h0.ev.at.1
  cases once
  · have hw := has_ways k k0 k1
    rcases hw with ⟨p0, p1, p2, p3, p4, p5⟩ | ⟨p0, p1, p2, p3, p4, p5⟩ | ⟨p0, p1, p2, p3, p4, p5⟩ | ⟨p0, p1, p2, p3, p4, p5⟩ | ⟨p0, p1, p2, p3, p4, p5⟩
    · have hz := size_in k
      have t0 := fun w => l2Has_any k 1 w (by simp)
      simp only [p0] at t0
      have t1 := fun w => l2Has_any k 2 w (by simp)
      simp only [p1] at t1
      have t2 := fun w => l2Has_any k 4 w (by simp)
      simp only [p2] at t2
      have t3 := fun w => l2Has_any k 8 w (by simp)
      simp only [p3] at t3
      have t4 := fun w => l2Has_any k 16 w (by simp)
      simp only [p4] at t4
      have t5 := fun w => l2Has_any k 32 w (by simp)
      simp only [p5] at t5
      clear p0 p1 p2 p3 p4 p5
      have ts := fun w => l2Sizes_any k w
      obtain ⟨lo, elo⟩ : ∃ z, z = loV k := ⟨_, rfl⟩
      obtain ⟨hi, ehi⟩ : ∃ z, z = hiV k := ⟨_, rfl⟩
      simp only [← elo, ← ehi] at hz ts
      clear elo ehi
      obtain ⟨hz0, hz1, hz2⟩ := hz
      go_wp2_with fail
      refine (ts _).mono ?_
      rintro e y0 ⟨rfl, rfl⟩
      go_wp2_with fail
      refine (t0 _).mono ?_
      rintro e y1 ⟨rfl, f1⟩
      have h1 := h0.fr f1
      clear n0 f1 h0
      have n0 : y1.cell? ⟨b, 0, none⟩ = some (.int .i64 k) := h1.ev.at.1
      go_wp2_with fail
      refine (l1Below_any _ _ _ h1.cur).mono ?_
      rintro e y2 ⟨x2, rfl, a2, -, b2, c2, q2⟩
      have g2 := h1.draw c2 q2
      clear n0 c2 q2 h1
      have n0 : y2.cell? ⟨b, 0, none⟩ = some (.int .i64 k) := g2.ev.at.1
      have cc : y2.cell? ⟨b, 2, none⟩ = some (.int .i64 0) := g2.ev.at.2.2.1
      have zz := g2.ev.free 2
      have h2 := g2.setO x2
      clear g2
      go_wp2_with fail
      refine (t1 _).mono ?_
      rintro e y3 ⟨rfl, f3⟩
      have h3 := h2.fr f3
      clear n0 f3 h2 cc zz
      have n0 : y3.cell? ⟨b, 0, none⟩ = some (.int .i64 k) := h3.ev.at.1
      go_wp2_with fail
      refine (t2 _).mono ?_
      rintro e y4 ⟨rfl, f4⟩
      have h4 := h3.fr f4
      clear n0 f4 h3
      have n0 : y4.cell? ⟨b, 0, none⟩ = some (.int .i64 k) := h4.ev.at.1
      go_wp2_with fail
      refine (t3 _).mono ?_
      rintro e y5 ⟨rfl, f5⟩
      have h5 := h4.fr f5
      clear n0 f5 h4
      have n0 : y5.cell? ⟨b, 0, none⟩ = some (.int .i64 k) := h5.ev.at.1
      go_wp2_with fail
      refine (t4 _).mono ?_
      rintro e y6 ⟨rfl, f6⟩
      have h6 := h5.fr f6
      clear n0 f6 h5
      have n0 : y6.cell? ⟨b, 0, none⟩ = some (.int .i64 k) := h6.ev.at.1
      go_wp2_with fail
      refine (t5 _).mono ?_
      rintro e y7 ⟨rfl, f7⟩
      have h7 := h6.fr f7
      clear n0 f7 h6
      obtain ⟨e0, e1, e2, e3, e4, e5, e6, e7⟩ := h7.ev.at
      obtain ⟨u0, u1, u2, u3, u4, u5, u6, u7⟩ := h7.res.at
      have hbr := h7.bl
      have v0 := h7.res.free 0
      have v1 := h7.res.free 1
      have v2 := h7.res.free 2
      have v3 := h7.res.free 3
      have v4 := h7.res.free 4
      have v5 := h7.res.free 5
      have v6 := h7.res.free 6
      have v7 := h7.res.free 7
      simp only at e0 e1 e2 e3 e4 e5 e6 e7 u0 u1 u2 u3 u4 u5 u6 u7
      have hfin := fun v0 v1 v2 v3 v4 v5 v6 v7 => h7.fin (put8 _ r v0 v1 v2 v3 v4 v5 v6 v7)
      clear h7
      go_wp2_with fail
      refine bodyPost_ret (v := .agg #[.int .i64 k, .int .i64 gor, .int .i64 x2, .int .i64 0, .int .i64 0, .int .i64 0, .int .i64 0, .int .i64 0]) (by simp [results, Tryz.results103, go_sem, u0, u1, u2, u3, u4, u5, u6, u7]) rfl ⟨⟨k, gor, x2, 0, 0, 0, 0, 0⟩, rfl, ?_, (hfin _ _ _ _ _ _ _ _).1, (hfin _ _ _ _ _ _ _ _).2⟩
      refine ⟨⟨?_, ?_⟩, ⟨?_, ?_⟩, ⟨?_, ?_⟩, ⟨?_, ?_⟩, ⟨?_, ?_⟩, ⟨?_, ?_⟩, ⟨?_, ?_⟩, ⟨?_, ?_⟩⟩ <;> simp only <;> omega
    · have hz := size_in k
      have t0 := fun w => l2Has_any k 1 w (by simp)
      simp only [p0] at t0
      have t1 := fun w => l2Has_any k 2 w (by simp)
      simp only [p1] at t1
      have t2 := fun w => l2Has_any k 4 w (by simp)
      simp only [p2] at t2
      have t3 := fun w => l2Has_any k 8 w (by simp)
      simp only [p3] at t3
      have t4 := fun w => l2Has_any k 16 w (by simp)
      simp only [p4] at t4
      have t5 := fun w => l2Has_any k 32 w (by simp)
      simp only [p5] at t5
      clear p0 p1 p2 p3 p4 p5
      have ts := fun w => l2Sizes_any k w
      obtain ⟨lo, elo⟩ : ∃ z, z = loV k := ⟨_, rfl⟩
      obtain ⟨hi, ehi⟩ : ∃ z, z = hiV k := ⟨_, rfl⟩
      simp only [← elo, ← ehi] at hz ts
      clear elo ehi
      obtain ⟨hz0, hz1, hz2⟩ := hz
      go_wp2_with fail
      refine (ts _).mono ?_
      rintro e y0 ⟨rfl, rfl⟩
      go_wp2_with fail
      refine (t0 _).mono ?_
      rintro e y1 ⟨rfl, f1⟩
      have h1 := h0.fr f1
      clear n0 f1 h0
      have n0 : y1.cell? ⟨b, 0, none⟩ = some (.int .i64 k) := h1.ev.at.1
      go_wp2_with fail
      refine (l1Below_any _ _ _ h1.cur).mono ?_
      rintro e y2 ⟨x2, rfl, a2, -, b2, c2, q2⟩
      have g2 := h1.draw c2 q2
      clear n0 c2 q2 h1
      have n0 : y2.cell? ⟨b, 0, none⟩ = some (.int .i64 k) := g2.ev.at.1
      have cc : y2.cell? ⟨b, 2, none⟩ = some (.int .i64 0) := g2.ev.at.2.2.1
      have zz := g2.ev.free 2
      have h2 := g2.setO x2
      clear g2
      go_wp2_with fail
      refine (t1 _).mono ?_
      rintro e y3 ⟨rfl, f3⟩
      have h3 := h2.fr f3
      clear n0 f3 h2 cc zz
      have n0 : y3.cell? ⟨b, 0, none⟩ = some (.int .i64 k) := h3.ev.at.1
      go_wp2_with fail
      refine (l1Below_any _ _ _ h3.cur).mono ?_
      rintro e y4 ⟨x3, rfl, a3, -, b3, c4, q4⟩
      have g4 := h3.draw c4 q4
      clear n0 c4 q4 h3
      have n0 : y4.cell? ⟨b, 0, none⟩ = some (.int .i64 k) := g4.ev.at.1
      have cc : y4.cell? ⟨b, 3, none⟩ = some (.int .i64 0) := g4.ev.at.2.2.2.1
      have zz := g4.ev.free 3
      have h4 := g4.setW x3
      clear g4
      go_wp2_with fail
      refine (t2 _).mono ?_
      rintro e y5 ⟨rfl, f5⟩
      have h5 := h4.fr f5
      clear n0 f5 h4 cc zz
      have n0 : y5.cell? ⟨b, 0, none⟩ = some (.int .i64 k) := h5.ev.at.1
      go_wp2_with fail
      refine (t3 _).mono ?_
      rintro e y6 ⟨rfl, f6⟩
      have h6 := h5.fr f6
      clear n0 f6 h5
      have n0 : y6.cell? ⟨b, 0, none⟩ = some (.int .i64 k) := h6.ev.at.1
      go_wp2_with fail
      refine (t4 _).mono ?_
      rintro e y7 ⟨rfl, f7⟩
      have h7 := h6.fr f7
      clear n0 f7 h6
      have n0 : y7.cell? ⟨b, 0, none⟩ = some (.int .i64 k) := h7.ev.at.1
      go_wp2_with fail
      refine (t5 _).mono ?_
      rintro e y8 ⟨rfl, f8⟩
      have h8 := h7.fr f8
      clear n0 f8 h7
      obtain ⟨e0, e1, e2, e3, e4, e5, e6, e7⟩ := h8.ev.at
      obtain ⟨u0, u1, u2, u3, u4, u5, u6, u7⟩ := h8.res.at
      have hbr := h8.bl
      have v0 := h8.res.free 0
      have v1 := h8.res.free 1
      have v2 := h8.res.free 2
      have v3 := h8.res.free 3
      have v4 := h8.res.free 4
      have v5 := h8.res.free 5
      have v6 := h8.res.free 6
      have v7 := h8.res.free 7
      simp only at e0 e1 e2 e3 e4 e5 e6 e7 u0 u1 u2 u3 u4 u5 u6 u7
      have hfin := fun v0 v1 v2 v3 v4 v5 v6 v7 => h8.fin (put8 _ r v0 v1 v2 v3 v4 v5 v6 v7)
      clear h8
      go_wp2_with fail
      refine bodyPost_ret (v := .agg #[.int .i64 k, .int .i64 gor, .int .i64 x2, .int .i64 x3, .int .i64 0, .int .i64 0, .int .i64 0, .int .i64 0]) (by simp [results, Tryz.results103, go_sem, u0, u1, u2, u3, u4, u5, u6, u7]) rfl ⟨⟨k, gor, x2, x3, 0, 0, 0, 0⟩, rfl, ?_, (hfin _ _ _ _ _ _ _ _).1, (hfin _ _ _ _ _ _ _ _).2⟩
      refine ⟨⟨?_, ?_⟩, ⟨?_, ?_⟩, ⟨?_, ?_⟩, ⟨?_, ?_⟩, ⟨?_, ?_⟩, ⟨?_, ?_⟩, ⟨?_, ?_⟩, ⟨?_, ?_⟩⟩ <;> simp only <;> omega
    · have hz := size_in k
      have t0 := fun w => l2Has_any k 1 w (by simp)
      simp only [p0] at t0
      have t1 := fun w => l2Has_any k 2 w (by simp)
      simp only [p1] at t1
      have t2 := fun w => l2Has_any k 4 w (by simp)
      simp only [p2] at t2
      have t3 := fun w => l2Has_any k 8 w (by simp)
      simp only [p3] at t3
      have t4 := fun w => l2Has_any k 16 w (by simp)
      simp only [p4] at t4
      have t5 := fun w => l2Has_any k 32 w (by simp)
      simp only [p5] at t5
      clear p0 p1 p2 p3 p4 p5
      have ts := fun w => l2Sizes_any k w
      obtain ⟨lo, elo⟩ : ∃ z, z = loV k := ⟨_, rfl⟩
      obtain ⟨hi, ehi⟩ : ∃ z, z = hiV k := ⟨_, rfl⟩
      simp only [← elo, ← ehi] at hz ts
      clear elo ehi
      obtain ⟨hz0, hz1, hz2⟩ := hz
      go_wp2_with fail
      refine (ts _).mono ?_
      rintro e y0 ⟨rfl, rfl⟩
      go_wp2_with fail
      refine (t0 _).mono ?_
      rintro e y1 ⟨rfl, f1⟩
      have h1 := h0.fr f1
      clear n0 f1 h0
      have n0 : y1.cell? ⟨b, 0, none⟩ = some (.int .i64 k) := h1.ev.at.1
      go_wp2_with fail
      refine (l1Below_any _ _ _ h1.cur).mono ?_
      rintro e y2 ⟨x2, rfl, a2, -, b2, c2, q2⟩
      have g2 := h1.draw c2 q2
      clear n0 c2 q2 h1
      have n0 : y2.cell? ⟨b, 0, none⟩ = some (.int .i64 k) := g2.ev.at.1
      have cc : y2.cell? ⟨b, 2, none⟩ = some (.int .i64 0) := g2.ev.at.2.2.1
      have zz := g2.ev.free 2
      have h2 := g2.setO x2
      clear g2
      go_wp2_with fail
      refine (t1 _).mono ?_
      rintro e y3 ⟨rfl, f3⟩
      have h3 := h2.fr f3
      clear n0 f3 h2 cc zz
      have n0 : y3.cell? ⟨b, 0, none⟩ = some (.int .i64 k) := h3.ev.at.1
      go_wp2_with fail
      refine (t2 _).mono ?_
      rintro e y4 ⟨rfl, f4⟩
      have h4 := h3.fr f4
      clear n0 f4 h3
      have n0 : y4.cell? ⟨b, 0, none⟩ = some (.int .i64 k) := h4.ev.at.1
      go_wp2_with fail
      refine (t3 _).mono ?_
      rintro e y5 ⟨rfl, f5⟩
      have h5 := h4.fr f5
      clear n0 f5 h4
      have n0 : y5.cell? ⟨b, 0, none⟩ = some (.int .i64 k) := h5.ev.at.1
      obtain ⟨mn, emn⟩ : ∃ z, z = min hi (lo + 3) := ⟨_, rfl⟩
      have hm : lo ≤ mn ∧ mn ≤ 64 := by omega
      obtain ⟨hm0, hm1⟩ := hm
      have tm := fun w => l1Min_any hi (lo + 3) w
      simp only [← emn] at tm
      clear emn
      go_wp2_with fail
      refine (tm _).mono ?_
      rintro e y5 ⟨rfl, rfl⟩
      go_wp2_with fail
      refine (l1From_any _ _ _ _ h5.cur (by omega) (by omega) (by omega)).mono ?_
      rintro e y6 ⟨x5, rfl, a5, b5, c6, q6⟩
      have g6 := h5.draw c6 q6
      clear n0 c6 q6 h5
      have n0 : y6.cell? ⟨b, 0, none⟩ = some (.int .i64 k) := g6.ev.at.1
      have cc : y6.cell? ⟨b, 5, none⟩ = some (.int .i64 0) := g6.ev.at.2.2.2.2.2.1
      have zz := g6.ev.free 5
      have h6 := g6.setS x5
      clear g6
      go_wp2_with fail
      refine (t4 _).mono ?_
      rintro e y7 ⟨rfl, f7⟩
      have h7 := h6.fr f7
      clear n0 f7 h6 cc zz
      have n0 : y7.cell? ⟨b, 0, none⟩ = some (.int .i64 k) := h7.ev.at.1
      go_wp2_with fail
      refine (t5 _).mono ?_
      rintro e y8 ⟨rfl, f8⟩
      have h8 := h7.fr f8
      clear n0 f8 h7
      obtain ⟨e0, e1, e2, e3, e4, e5, e6, e7⟩ := h8.ev.at
      obtain ⟨u0, u1, u2, u3, u4, u5, u6, u7⟩ := h8.res.at
      have hbr := h8.bl
      have v0 := h8.res.free 0
      have v1 := h8.res.free 1
      have v2 := h8.res.free 2
      have v3 := h8.res.free 3
      have v4 := h8.res.free 4
      have v5 := h8.res.free 5
      have v6 := h8.res.free 6
      have v7 := h8.res.free 7
      simp only at e0 e1 e2 e3 e4 e5 e6 e7 u0 u1 u2 u3 u4 u5 u6 u7
      have hfin := fun v0 v1 v2 v3 v4 v5 v6 v7 => h8.fin (put8 _ r v0 v1 v2 v3 v4 v5 v6 v7)
      clear h8
      go_wp2_with fail
      refine bodyPost_ret (v := .agg #[.int .i64 k, .int .i64 gor, .int .i64 x2, .int .i64 0, .int .i64 0, .int .i64 x5, .int .i64 0, .int .i64 0]) (by simp [results, Tryz.results103, go_sem, u0, u1, u2, u3, u4, u5, u6, u7]) rfl ⟨⟨k, gor, x2, 0, 0, x5, 0, 0⟩, rfl, ?_, (hfin _ _ _ _ _ _ _ _).1, (hfin _ _ _ _ _ _ _ _).2⟩
      refine ⟨⟨?_, ?_⟩, ⟨?_, ?_⟩, ⟨?_, ?_⟩, ⟨?_, ?_⟩, ⟨?_, ?_⟩, ⟨?_, ?_⟩, ⟨?_, ?_⟩, ⟨?_, ?_⟩⟩ <;> simp only <;> omega
    · have hz := size_in k
      have t0 := fun w => l2Has_any k 1 w (by simp)
      simp only [p0] at t0
      have t1 := fun w => l2Has_any k 2 w (by simp)
      simp only [p1] at t1
      have t2 := fun w => l2Has_any k 4 w (by simp)
      simp only [p2] at t2
      have t3 := fun w => l2Has_any k 8 w (by simp)
      simp only [p3] at t3
      have t4 := fun w => l2Has_any k 16 w (by simp)
      simp only [p4] at t4
      have t5 := fun w => l2Has_any k 32 w (by simp)
      simp only [p5] at t5
      clear p0 p1 p2 p3 p4 p5
      have ts := fun w => l2Sizes_any k w
      obtain ⟨lo, elo⟩ : ∃ z, z = loV k := ⟨_, rfl⟩
      obtain ⟨hi, ehi⟩ : ∃ z, z = hiV k := ⟨_, rfl⟩
      simp only [← elo, ← ehi] at hz ts
      clear elo ehi
      obtain ⟨hz0, hz1, hz2⟩ := hz
      go_wp2_with fail
      refine (ts _).mono ?_
      rintro e y0 ⟨rfl, rfl⟩
      go_wp2_with fail
      refine (t0 _).mono ?_
      rintro e y1 ⟨rfl, f1⟩
      have h1 := h0.fr f1
      clear n0 f1 h0
      have n0 : y1.cell? ⟨b, 0, none⟩ = some (.int .i64 k) := h1.ev.at.1
      go_wp2_with fail
      refine (t1 _).mono ?_
      rintro e y2 ⟨rfl, f2⟩
      have h2 := h1.fr f2
      clear n0 f2 h1
      have n0 : y2.cell? ⟨b, 0, none⟩ = some (.int .i64 k) := h2.ev.at.1
      go_wp2_with fail
      refine (t2 _).mono ?_
      rintro e y3 ⟨rfl, f3⟩
      have h3 := h2.fr f3
      clear n0 f3 h2
      have n0 : y3.cell? ⟨b, 0, none⟩ = some (.int .i64 k) := h3.ev.at.1
      go_wp2_with fail
      refine (l1Below_any _ _ _ h3.cur).mono ?_
      rintro e y4 ⟨x4, rfl, a4, -, b4, c4, q4⟩
      have g4 := h3.draw c4 q4
      clear n0 c4 q4 h3
      have n0 : y4.cell? ⟨b, 0, none⟩ = some (.int .i64 k) := g4.ev.at.1
      have cc : y4.cell? ⟨b, 4, none⟩ = some (.int .i64 0) := g4.ev.at.2.2.2.2.1
      have zz := g4.ev.free 4
      have h4 := g4.setL x4
      clear g4
      go_wp2_with fail
      refine (t3 _).mono ?_
      rintro e y5 ⟨rfl, f5⟩
      have h5 := h4.fr f5
      clear n0 f5 h4 cc zz
      have n0 : y5.cell? ⟨b, 0, none⟩ = some (.int .i64 k) := h5.ev.at.1
      obtain ⟨mn, emn⟩ : ∃ z, z = min hi (lo + 3) := ⟨_, rfl⟩
      have hm : lo ≤ mn ∧ mn ≤ 64 := by omega
      obtain ⟨hm0, hm1⟩ := hm
      have tm := fun w => l1Min_any hi (lo + 3) w
      simp only [← emn] at tm
      clear emn
      go_wp2_with fail
      refine (tm _).mono ?_
      rintro e y5 ⟨rfl, rfl⟩
      go_wp2_with fail
      refine (l1From_any _ _ _ _ h5.cur (by omega) (by omega) (by omega)).mono ?_
      rintro e y6 ⟨x5, rfl, a5, b5, c6, q6⟩
      have g6 := h5.draw c6 q6
      clear n0 c6 q6 h5
      have n0 : y6.cell? ⟨b, 0, none⟩ = some (.int .i64 k) := g6.ev.at.1
      have cc : y6.cell? ⟨b, 5, none⟩ = some (.int .i64 0) := g6.ev.at.2.2.2.2.2.1
      have zz := g6.ev.free 5
      have h6 := g6.setS x5
      clear g6
      go_wp2_with fail
      refine (t4 _).mono ?_
      rintro e y7 ⟨rfl, f7⟩
      have h7 := h6.fr f7
      clear n0 f7 h6 cc zz
      have n0 : y7.cell? ⟨b, 0, none⟩ = some (.int .i64 k) := h7.ev.at.1
      go_wp2_with fail
      refine (t5 _).mono ?_
      rintro e y8 ⟨rfl, f8⟩
      have h8 := h7.fr f8
      clear n0 f8 h7
      obtain ⟨e0, e1, e2, e3, e4, e5, e6, e7⟩ := h8.ev.at
      obtain ⟨u0, u1, u2, u3, u4, u5, u6, u7⟩ := h8.res.at
      have hbr := h8.bl
      have v0 := h8.res.free 0
      have v1 := h8.res.free 1
      have v2 := h8.res.free 2
      have v3 := h8.res.free 3
      have v4 := h8.res.free 4
      have v5 := h8.res.free 5
      have v6 := h8.res.free 6
      have v7 := h8.res.free 7
      simp only at e0 e1 e2 e3 e4 e5 e6 e7 u0 u1 u2 u3 u4 u5 u6 u7
      have hfin := fun v0 v1 v2 v3 v4 v5 v6 v7 => h8.fin (put8 _ r v0 v1 v2 v3 v4 v5 v6 v7)
      clear h8
      go_wp2_with fail
      refine bodyPost_ret (v := .agg #[.int .i64 k, .int .i64 gor, .int .i64 0, .int .i64 0, .int .i64 x4, .int .i64 x5, .int .i64 0, .int .i64 0]) (by simp [results, Tryz.results103, go_sem, u0, u1, u2, u3, u4, u5, u6, u7]) rfl ⟨⟨k, gor, 0, 0, x4, x5, 0, 0⟩, rfl, ?_, (hfin _ _ _ _ _ _ _ _).1, (hfin _ _ _ _ _ _ _ _).2⟩
      refine ⟨⟨?_, ?_⟩, ⟨?_, ?_⟩, ⟨?_, ?_⟩, ⟨?_, ?_⟩, ⟨?_, ?_⟩, ⟨?_, ?_⟩, ⟨?_, ?_⟩, ⟨?_, ?_⟩⟩ <;> simp only <;> omega
    · have hz := size_in k
      have t0 := fun w => l2Has_any k 1 w (by simp)
      simp only [p0] at t0
      have t1 := fun w => l2Has_any k 2 w (by simp)
      simp only [p1] at t1
      have t2 := fun w => l2Has_any k 4 w (by simp)
      simp only [p2] at t2
      have t3 := fun w => l2Has_any k 8 w (by simp)
      simp only [p3] at t3
      have t4 := fun w => l2Has_any k 16 w (by simp)
      simp only [p4] at t4
      have t5 := fun w => l2Has_any k 32 w (by simp)
      simp only [p5] at t5
      clear p0 p1 p2 p3 p4 p5
      have ts := fun w => l2Sizes_any k w
      obtain ⟨lo, elo⟩ : ∃ z, z = loV k := ⟨_, rfl⟩
      obtain ⟨hi, ehi⟩ : ∃ z, z = hiV k := ⟨_, rfl⟩
      simp only [← elo, ← ehi] at hz ts
      clear elo ehi
      obtain ⟨hz0, hz1, hz2⟩ := hz
      go_wp2_with fail
      refine (ts _).mono ?_
      rintro e y0 ⟨rfl, rfl⟩
      go_wp2_with fail
      refine (t0 _).mono ?_
      rintro e y1 ⟨rfl, f1⟩
      have h1 := h0.fr f1
      clear n0 f1 h0
      have n0 : y1.cell? ⟨b, 0, none⟩ = some (.int .i64 k) := h1.ev.at.1
      go_wp2_with fail
      refine (t1 _).mono ?_
      rintro e y2 ⟨rfl, f2⟩
      have h2 := h1.fr f2
      clear n0 f2 h1
      have n0 : y2.cell? ⟨b, 0, none⟩ = some (.int .i64 k) := h2.ev.at.1
      go_wp2_with fail
      refine (t2 _).mono ?_
      rintro e y3 ⟨rfl, f3⟩
      have h3 := h2.fr f3
      clear n0 f3 h2
      have n0 : y3.cell? ⟨b, 0, none⟩ = some (.int .i64 k) := h3.ev.at.1
      go_wp2_with fail
      refine (l1Below_any _ _ _ h3.cur).mono ?_
      rintro e y4 ⟨x4, rfl, a4, -, b4, c4, q4⟩
      have g4 := h3.draw c4 q4
      clear n0 c4 q4 h3
      have n0 : y4.cell? ⟨b, 0, none⟩ = some (.int .i64 k) := g4.ev.at.1
      have cc : y4.cell? ⟨b, 4, none⟩ = some (.int .i64 0) := g4.ev.at.2.2.2.2.1
      have zz := g4.ev.free 4
      have h4 := g4.setL x4
      clear g4
      go_wp2_with fail
      refine (t3 _).mono ?_
      rintro e y5 ⟨rfl, f5⟩
      have h5 := h4.fr f5
      clear n0 f5 h4 cc zz
      have n0 : y5.cell? ⟨b, 0, none⟩ = some (.int .i64 k) := h5.ev.at.1
      obtain ⟨mn, emn⟩ : ∃ z, z = min hi (lo + 3) := ⟨_, rfl⟩
      have hm : lo ≤ mn ∧ mn ≤ 64 := by omega
      obtain ⟨hm0, hm1⟩ := hm
      have tm := fun w => l1Min_any hi (lo + 3) w
      simp only [← emn] at tm
      clear emn
      go_wp2_with fail
      refine (tm _).mono ?_
      rintro e y5 ⟨rfl, rfl⟩
      go_wp2_with fail
      refine (l1From_any _ _ _ _ h5.cur (by omega) (by omega) (by omega)).mono ?_
      rintro e y6 ⟨x5, rfl, a5, b5, c6, q6⟩
      have g6 := h5.draw c6 q6
      clear n0 c6 q6 h5
      have n0 : y6.cell? ⟨b, 0, none⟩ = some (.int .i64 k) := g6.ev.at.1
      have cc : y6.cell? ⟨b, 5, none⟩ = some (.int .i64 0) := g6.ev.at.2.2.2.2.2.1
      have zz := g6.ev.free 5
      have h6 := g6.setS x5
      clear g6
      go_wp2_with fail
      refine (t4 _).mono ?_
      rintro e y7 ⟨rfl, f7⟩
      have h7 := h6.fr f7
      clear n0 f7 h6 cc zz
      have n0 : y7.cell? ⟨b, 0, none⟩ = some (.int .i64 k) := h7.ev.at.1
      go_wp2_with fail
      refine (l1Below_any _ _ _ h7.cur).mono ?_
      rintro e y8 ⟨x6, rfl, a6, -, b6, c8, q8⟩
      have g8 := h7.draw c8 q8
      clear n0 c8 q8 h7
      have n0 : y8.cell? ⟨b, 0, none⟩ = some (.int .i64 k) := g8.ev.at.1
      have cc : y8.cell? ⟨b, 6, none⟩ = some (.int .i64 0) := g8.ev.at.2.2.2.2.2.2.1
      have zz := g8.ev.free 6
      have h8 := g8.setF x6
      clear g8
      go_wp2_with fail
      refine (t5 _).mono ?_
      rintro e y9 ⟨rfl, f9⟩
      have h9 := h8.fr f9
      clear n0 f9 h8 cc zz
      have n0 : y9.cell? ⟨b, 0, none⟩ = some (.int .i64 k) := h9.ev.at.1
      go_wp2_with fail
      refine (l1Below_any _ _ _ h9.cur).mono ?_
      rintro e y10 ⟨x7, rfl, a7, -, b7, c10, q10⟩
      have g10 := h9.draw c10 q10
      clear n0 c10 q10 h9
      have n0 : y10.cell? ⟨b, 0, none⟩ = some (.int .i64 k) := g10.ev.at.1
      have cc : y10.cell? ⟨b, 7, none⟩ = some (.int .i64 0) := g10.ev.at.2.2.2.2.2.2.2
      have zz := g10.ev.free 7
      have h10 := g10.setT x7
      obtain ⟨e0, e1, e2, e3, e4, e5, e6, e7⟩ := g10.ev.at
      obtain ⟨u0, u1, u2, u3, u4, u5, u6, u7⟩ := g10.res.at
      have hbr := g10.bl
      have v0 := g10.res.free 0
      have v1 := g10.res.free 1
      have v2 := g10.res.free 2
      have v3 := g10.res.free 3
      have v4 := g10.res.free 4
      have v5 := g10.res.free 5
      have v6 := g10.res.free 6
      have v7 := g10.res.free 7
      clear n0 cc
      simp only at e0 e1 e2 e3 e4 e5 e6 e7 u0 u1 u2 u3 u4 u5 u6 u7
      have hfin := fun v0 v1 v2 v3 v4 v5 v6 v7 => h10.fin (put8 _ r v0 v1 v2 v3 v4 v5 v6 v7)
      clear h10 g10
      go_wp2_with fail
      refine bodyPost_ret (v := .agg #[.int .i64 k, .int .i64 gor, .int .i64 0, .int .i64 0, .int .i64 x4, .int .i64 x5, .int .i64 x6, .int .i64 x7]) (by simp [results, Tryz.results103, go_sem, u0, u1, u2, u3, u4, u5, u6, u7]) rfl ⟨⟨k, gor, 0, 0, x4, x5, x6, x7⟩, rfl, ?_, (hfin _ _ _ _ _ _ _ _).1, (hfin _ _ _ _ _ _ _ _).2⟩
      refine ⟨⟨?_, ?_⟩, ⟨?_, ?_⟩, ⟨?_, ?_⟩, ⟨?_, ?_⟩, ⟨?_, ?_⟩, ⟨?_, ?_⟩, ⟨?_, ?_⟩, ⟨?_, ?_⟩⟩ <;> simp only <;> omega
  · clear k0 k1
    go_wp2_with fail
    refine (l1From_any _ _ _ _ h0.cur (by decide) (by decide) (by decide)).mono ?_
    rintro e w4 ⟨kk, rfl, k0, k1, c4, g4⟩
    have h1 := h0.draw c4 g4
    clear n0 h0
    have n0 : w4.cell? ⟨b, 0, none⟩ = some (.int .i64 k) := h1.ev.at.1
    have z0 := h1.ev.free 0
    have h0 := h1.setK kk
    clear h1 c4 g4
    have hw : hasB kk 1 = false ∧ hasB kk 2 = false ∧ hasB kk 4 = true ∧ hasB kk 8 = true ∧ hasB kk 16 = true ∧ hasB kk 32 = true := by
      have e : kk = 20 ∨ kk = 21 := by omega
      rcases e with rfl | rfl <;> decide +kernel
    obtain ⟨p0, p1, p2, p3, p4, p5⟩ := hw
    have hz := size_in kk
    have t0 := fun w => l2Has_any kk 1 w (by simp)
    simp only [p0] at t0
    have t1 := fun w => l2Has_any kk 2 w (by simp)
    simp only [p1] at t1
    have t2 := fun w => l2Has_any kk 4 w (by simp)
    simp only [p2] at t2
    have t3 := fun w => l2Has_any kk 8 w (by simp)
    simp only [p3] at t3
    have t4 := fun w => l2Has_any kk 16 w (by simp)
    simp only [p4] at t4
    have t5 := fun w => l2Has_any kk 32 w (by simp)
    simp only [p5] at t5
    clear p0 p1 p2 p3 p4 p5
    have ts := fun w => l2Sizes_any kk w
    obtain ⟨lo, elo⟩ : ∃ z, z = loV kk := ⟨_, rfl⟩
    obtain ⟨hi, ehi⟩ : ∃ z, z = hiV kk := ⟨_, rfl⟩
    simp only [← elo, ← ehi] at hz ts
    clear elo ehi
    obtain ⟨hz0, hz1, hz2⟩ := hz
    go_wp2_with fail
    refine (ts _).mono ?_
    rintro e y0 ⟨rfl, rfl⟩
    go_wp2_with fail
    refine (t0 _).mono ?_
    rintro e y1 ⟨rfl, f1⟩
    have h1 := h0.fr f1
    clear n0 f1 h0 z0
    have n0 : y1.cell? ⟨b, 0, none⟩ = some (.int .i64 kk) := h1.ev.at.1
    go_wp2_with fail
    refine (t1 _).mono ?_
    rintro e y2 ⟨rfl, f2⟩
    have h2 := h1.fr f2
    clear n0 f2 h1
    have n0 : y2.cell? ⟨b, 0, none⟩ = some (.int .i64 kk) := h2.ev.at.1
    go_wp2_with fail
    refine (t2 _).mono ?_
    rintro e y3 ⟨rfl, f3⟩
    have h3 := h2.fr f3
    clear n0 f3 h2
    have n0 : y3.cell? ⟨b, 0, none⟩ = some (.int .i64 kk) := h3.ev.at.1
    go_wp2_with fail
    refine (l1Below_any _ _ _ h3.cur).mono ?_
    rintro e y4 ⟨x4, rfl, a4, -, b4, c4, q4⟩
    have g4 := h3.draw c4 q4
    clear n0 c4 q4 h3
    have n0 : y4.cell? ⟨b, 0, none⟩ = some (.int .i64 kk) := g4.ev.at.1
    have cc : y4.cell? ⟨b, 4, none⟩ = some (.int .i64 0) := g4.ev.at.2.2.2.2.1
    have zz := g4.ev.free 4
    have h4 := g4.setL x4
    clear g4
    go_wp2_with fail
    refine (t3 _).mono ?_
    rintro e y5 ⟨rfl, f5⟩
    have h5 := h4.fr f5
    clear n0 f5 h4 cc zz
    have n0 : y5.cell? ⟨b, 0, none⟩ = some (.int .i64 kk) := h5.ev.at.1
    obtain ⟨mn, emn⟩ : ∃ z, z = min hi (lo + 3) := ⟨_, rfl⟩
    have hm : lo ≤ mn ∧ mn ≤ 64 := by omega
    obtain ⟨hm0, hm1⟩ := hm
    have tm := fun w => l1Min_any hi (lo + 3) w
    simp only [← emn] at tm
    clear emn
    go_wp2_with fail
    refine (tm _).mono ?_
    rintro e y5 ⟨rfl, rfl⟩
    go_wp2_with fail
    refine (l1From_any _ _ _ _ h5.cur (by omega) (by omega) (by omega)).mono ?_
    rintro e y6 ⟨x5, rfl, a5, b5, c6, q6⟩
    have g6 := h5.draw c6 q6
    clear n0 c6 q6 h5
    have n0 : y6.cell? ⟨b, 0, none⟩ = some (.int .i64 kk) := g6.ev.at.1
    have cc : y6.cell? ⟨b, 5, none⟩ = some (.int .i64 0) := g6.ev.at.2.2.2.2.2.1
    have zz := g6.ev.free 5
    have h6 := g6.setS x5
    clear g6
    go_wp2_with fail
    refine (t4 _).mono ?_
    rintro e y7 ⟨rfl, f7⟩
    have h7 := h6.fr f7
    clear n0 f7 h6 cc zz
    have n0 : y7.cell? ⟨b, 0, none⟩ = some (.int .i64 kk) := h7.ev.at.1
    go_wp2_with fail
    refine (l1Below_any _ _ _ h7.cur).mono ?_
    rintro e y8 ⟨x6, rfl, a6, -, b6, c8, q8⟩
    have g8 := h7.draw c8 q8
    clear n0 c8 q8 h7
    have n0 : y8.cell? ⟨b, 0, none⟩ = some (.int .i64 kk) := g8.ev.at.1
    have cc : y8.cell? ⟨b, 6, none⟩ = some (.int .i64 0) := g8.ev.at.2.2.2.2.2.2.1
    have zz := g8.ev.free 6
    have h8 := g8.setF x6
    clear g8
    go_wp2_with fail
    refine (t5 _).mono ?_
    rintro e y9 ⟨rfl, f9⟩
    have h9 := h8.fr f9
    clear n0 f9 h8 cc zz
    have n0 : y9.cell? ⟨b, 0, none⟩ = some (.int .i64 kk) := h9.ev.at.1
    go_wp2_with fail
    refine (l1Below_any _ _ _ h9.cur).mono ?_
    rintro e y10 ⟨x7, rfl, a7, -, b7, c10, q10⟩
    have g10 := h9.draw c10 q10
    clear n0 c10 q10 h9
    have n0 : y10.cell? ⟨b, 0, none⟩ = some (.int .i64 kk) := g10.ev.at.1
    have cc : y10.cell? ⟨b, 7, none⟩ = some (.int .i64 0) := g10.ev.at.2.2.2.2.2.2.2
    have zz := g10.ev.free 7
    have h10 := g10.setT x7
    obtain ⟨e0, e1, e2, e3, e4, e5, e6, e7⟩ := g10.ev.at
    obtain ⟨u0, u1, u2, u3, u4, u5, u6, u7⟩ := g10.res.at
    have hbr := g10.bl
    have v0 := g10.res.free 0
    have v1 := g10.res.free 1
    have v2 := g10.res.free 2
    have v3 := g10.res.free 3
    have v4 := g10.res.free 4
    have v5 := g10.res.free 5
    have v6 := g10.res.free 6
    have v7 := g10.res.free 7
    clear n0 cc
    simp only at e0 e1 e2 e3 e4 e5 e6 e7 u0 u1 u2 u3 u4 u5 u6 u7
    have hfin := fun v0 v1 v2 v3 v4 v5 v6 v7 => h10.fin (put8 _ r v0 v1 v2 v3 v4 v5 v6 v7)
    clear h10 g10
    go_wp2_with fail
    refine bodyPost_ret (v := .agg #[.int .i64 kk, .int .i64 gor, .int .i64 0, .int .i64 0, .int .i64 x4, .int .i64 x5, .int .i64 x6, .int .i64 x7]) (by simp [results, Tryz.results103, go_sem, u0, u1, u2, u3, u4, u5, u6, u7]) rfl ⟨⟨kk, gor, 0, 0, x4, x5, x6, x7⟩, rfl, ?_, (hfin _ _ _ _ _ _ _ _).1, (hfin _ _ _ _ _ _ _ _).2⟩
    refine ⟨⟨?_, ?_⟩, ⟨?_, ?_⟩, ⟨?_, ?_⟩, ⟨?_, ?_⟩, ⟨?_, ?_⟩, ⟨?_, ?_⟩, ⟨?_, ?_⟩, ⟨?_, ?_⟩⟩ <;> simp only <;> omega
end Go.Proofs.YthehhiccfnhinaaGreatDoor
