/-
  The drawing cursor of the specification (l1Cur): what is drawn is in range, and a draw writes into the cursor alone.
-/
import Derived.Test.YtikjodbboljhjaaGreatDoorPackAB
import Derived.Test.YtikjodbboljhjaaGreatDoorPackAA
import Derived.Laws.Bits128
import Derived.Laws.Shifts
import Derived.Laws.Pointers
import Derived.RegionTactic
import Derived.BigRegion
import Derived.Deep.RegionHeld3
import Derived.Test.YtikjodbboljhjaaGreatDoorPackAO
namespace Go.Proofs.YtikjodbboljhjaaGreatDoor
open Go.RowKit

theorem i64_and255 (n : Int) : bits .and .i64 n 255 = n % 256 := by
  have h255 : (BitVec.ofInt 64 255).toNat = 2 ^ 8 - 1 := by decide
  have key : (BitVec.ofInt 64 n &&& BitVec.ofInt 64 255).toNat = (n % ((2 ^ 64 : Nat) : Int)).toNat % 2 ^ 8 := by
    rw [BitVec.toNat_and, BitVec.toNat_ofInt, h255, Nat.and_two_pow_sub_one_eq_mod]
  show IntKind.i64.wrap ((BitVec.ofInt 64 n &&& BitVec.ofInt 64 255).toNat : Nat) = n % 256
  rw [key, IntKind.wrap_i64]
  omega
theorem i64_and30 (n : Int) : bits .and .i64 n 1073741823 = n % 1073741824 := by
  have h30 : (BitVec.ofInt 64 1073741823).toNat = 2 ^ 30 - 1 := by decide
  have key : (BitVec.ofInt 64 n &&& BitVec.ofInt 64 1073741823).toNat = (n % ((2 ^ 64 : Nat) : Int)).toNat % 2 ^ 30 := by
    rw [BitVec.toNat_and, BitVec.toNat_ofInt, h30, Nat.and_two_pow_sub_one_eq_mod]
  show IntKind.i64.wrap ((BitVec.ofInt 64 n &&& BitVec.ofInt 64 1073741823).toNat : Nat) = n % 1073741824
  rw [key, IntKind.wrap_i64]
  omega

/-- The bytes of a slice: n of them at the address ao. -/
def Bytes (w : World) (g : Nat) (ao : Option Addr) (n : Nat) : Prop :=
  ∀ i, i < n → ∃ b off, ao = some ⟨b, off, none⟩ ∧ b < g ∧ ∀ j, j < n → ∃ x : Int, w.cell? ⟨b, off + j, none⟩ = some (.int .u8 x) ∧ 0 ≤ x ∧ x ≤ 255

theorem Bytes.keep {w w' : World} {g n : Nat} {ao : Option Addr} (h : Bytes w g ao n) (k : w.grownBy w' (some g)) : Bytes w' g ao n := by
  intro i hi
  obtain ⟨b, off, e, hb, hc⟩ := h i hi
  refine ⟨b, off, e, hb, fun j hj => ?_⟩
  obtain ⟨x, hx, h0, h1⟩ := hc j hj
  exact ⟨x, k.cell hx (by simp; omega), h0, h1⟩

/-- A right cursor lies in the block g. -/
def Cur (w : World) (g : Nat) : Prop :=
  ∃ ao n cap, ∃ i : Nat, ∃ h : Int, w.heap[g]? = some (.cells #[.slice ao n cap, .int .i64 i, .int .i64 h] 120 (0, 0)) ∧ i ≤ n ∧ n ≤ 4294967296 ∧ Bytes w g ao n

theorem cur_set {w : World} {g : Nat} {a0 a1 a2 : Value} {t : TypeId} (hg : w.heap[g]? = some (.cells #[a0, a1, a2] t (0, 0))) (v : Value) :
    (w.setCell ⟨g, 2, none⟩ v).heap[g]? = some (.cells #[a0, a1, v] t (0, 0)) ∧ (w.setCell ⟨g, 1, none⟩ v).heap[g]? = some (.cells #[a0, v, a2] t (0, 0)) := by
  have h1 := heap_setCell_same w g 2 #[a0, a1, a2] t v hg
  have h2 := heap_setCell_same w g 1 #[a0, a1, a2] t v hg
  exact ⟨by simpa using h1, by simpa using h2⟩

/-- A draw without a byte of the code: the number h has turned. -/
theorem cur_step {w : World} {g n cap i : Nat} {ao : Option Addr} {h : Int} (hg : w.heap[g]? = some (.cells #[.slice ao n cap, .int .i64 i, .int .i64 h] 120 (0, 0)))
    (hin : i ≤ n) (hn : n ≤ 4294967296) (hb : Bytes w g ao n) (h2 : Int) (a b : Nat) :
    Cur (((w.setCell ⟨g, 2, none⟩ (.int .i64 h2)).drewN a).drewN b) g ∧ w.grownBy (((w.setCell ⟨g, 2, none⟩ (.int .i64 h2)).drewN a).drewN b) (some g) := by
  have k : w.grownBy (((w.setCell ⟨g, 2, none⟩ (.int .i64 h2)).drewN a).drewN b) (some g) := grown_trans (grown_trans (grown_set w g 2 _) (grown_draw _ a _)) (grown_draw _ b _)
  exact ⟨⟨ao, n, cap, i, h2, (cur_set hg _).1, hin, hn, hb.keep k⟩, k⟩

/-- A draw with one. -/
theorem cur_step2 {w : World} {g n cap i : Nat} {ao : Option Addr} {h : Int} (hg : w.heap[g]? = some (.cells #[.slice ao n cap, .int .i64 i, .int .i64 h] 120 (0, 0)))
    (hin : i < n) (hn : n ≤ 4294967296) (hb : Bytes w g ao n) (h2 : Int) (a : Nat) :
    Cur (((w.setCell ⟨g, 2, none⟩ (.int .i64 h2)).drewN a).setCell ⟨g, 1, none⟩ (.int .i64 ((i : Int) + 1))) g ∧ w.grownBy (((w.setCell ⟨g, 2, none⟩ (.int .i64 h2)).drewN a).setCell ⟨g, 1, none⟩ (.int .i64 ((i : Int) + 1))) (some g) := by
  have k : w.grownBy (((w.setCell ⟨g, 2, none⟩ (.int .i64 h2)).drewN a).setCell ⟨g, 1, none⟩ (.int .i64 ((i : Int) + 1))) (some g) := grown_trans (grown_trans (grown_set w g 2 _) (grown_draw _ a _)) (grown_set _ g 1 _)
  have e : ((i : Int) + 1) = ((i + 1 : Nat) : Int) := by omega
  have h1 := (cur_set hg (.int .i64 h2)).1
  have h3 : ((w.setCell ⟨g, 2, none⟩ (.int .i64 h2)).drewN a).heap[g]? = _ := h1
  refine ⟨⟨ao, n, cap, i + 1, h2, ?_, hin, hn, hb.keep k⟩, k⟩
  rw [e]
  exact (cur_set h3 _).2

theorem emod_le_self (a n : Int) (h0 : 0 ≤ a) (hn : 0 < n) : a % n ≤ a := by
  have h1 := Int.mul_nonneg (show 0 ≤ n by omega) (Int.ediv_nonneg h0 (show 0 ≤ n by omega))
  rw [Int.emod_def]
  omega
theorem byte_in (n : Int) : 0 ≤ bits .and .i64 n 255 ∧ bits .and .i64 n 255 ≤ 255 := by rw [i64_and255]; omega

set_option maxHeartbeats 400000 in
theorem l1Byte_any (g : Nat) (w : World) (hc : Cur w g) :
    Calls Tryz.prog 164 #[.pointer (some ⟨g, 0, none⟩)] w fun e w' => ∃ x : Int, e = .returned (.int .i64 x) ∧ 0 ≤ x ∧ x ≤ 255 ∧ Cur w' g ∧ w.grownBy w' (some g) := by
  obtain ⟨ao, n, cap, i, h, hg, hin, hn, hb⟩ := hc
  have c0 : w.cell? ⟨g, 0, none⟩ = some (.slice ao n cap) := cell_of_row w g 0 _ _ _ hg
  have c1 : w.cell? ⟨g, 1, none⟩ = some (.int .i64 i) := cell_of_row w g 1 _ _ _ hg
  have c2 : w.cell? ⟨g, 2, none⟩ = some (.int .i64 h) := cell_of_row w g 2 _ _ _ hg
  have z1 : w.frozen? ⟨g, 1, none⟩ = false := frozen_of_row w g 1 _ _ hg
  have z2 : w.frozen? ⟨g, 2, none⟩ = false := frozen_of_row w g 2 _ _ hg
  by_cases hlt : i < n
  · obtain ⟨b, off, rfl, hbg, hx⟩ := hb i hlt
    obtain ⟨x, hxc, x0, x1⟩ := hx i hlt
    go_enter Tryz.func164, Tryz.ntmps164
    go_wp2
    generalize wrap64 (wrap64 (h * 6364136223846793005) + 1442695040888963407) = h2
    go_quiet (fail)
    go_wp2
    go_quiet (fail)
    go_wp2
    go_quiet (fail)
    go_wp2
    go_ret
    have k := cur_step2 hg hlt hn hb h2
    exact ⟨_, rfl, (byte_in _).1, (byte_in _).2, (k _).1, (k _).2⟩
  · go_enter Tryz.func164, Tryz.ntmps164
    go_wp2
    generalize wrap64 (wrap64 (h * 6364136223846793005) + 1442695040888963407) = h2
    go_quiet (fail)
    go_wp2
    go_quiet (fail)
    go_wp2
    go_ret
    have k := cur_step hg hin hn hb h2
    exact ⟨_, rfl, (byte_in _).1, (byte_in _).2, (k _ _).1, (k _ _).2⟩

set_option maxHeartbeats 400000 in
/-- A number from 0 to n less 1; 0 where n is not above 0. -/
theorem l1Below_any (g : Nat) (n : Int) (w : World) (hc : Cur w g) :
    Calls Tryz.prog 127 #[.pointer (some ⟨g, 0, none⟩), .int .i64 n] w fun e w' => ∃ x : Int, e = .returned (.int .i64 x) ∧ 0 ≤ x ∧ (0 < n → x < n) ∧ x ≤ 4294967295 ∧ Cur w' g ∧ w.grownBy w' (some g) := by
  by_cases h0 : n ≤ 0
  · go_enter Tryz.func127, Tryz.ntmps127
    go_wp2
    go_ret
    exact ⟨0, rfl, by omega, by omega, by omega, hc, ⟨rfl, rfl, rfl, Nat.le_refl _, fun _ _ _ => rfl⟩⟩
  · have h0' : 0 < n := by omega
    by_cases h1 : n ≤ 256
    · go_enter Tryz.func127, Tryz.ntmps127
      go_wp2_with fail
      refine (l1Byte_any _ _ hc).mono ?_
      rintro e w1 ⟨x, rfl, x0, x1, c1, k1⟩
      go_wp2_with fail
      go_ret
      have b1 := Int.emod_nonneg x (show n ≠ 0 by omega)
      have b2 := Int.emod_lt_of_pos x h0'
      exact ⟨_, rfl, b1, fun _ => b2, by omega, c1, k1⟩
    · go_enter Tryz.func127, Tryz.ntmps127
      go_wp2_with fail
      refine (l1Byte_any _ _ hc).mono ?_
      rintro e w1 ⟨x, rfl, x0, x1, c1, k1⟩
      go_wp2_with fail
      refine (l1Byte_any _ _ c1).mono ?_
      rintro e w2 ⟨y, rfl, y0, y1, c2, k2⟩
      go_wp2_with fail
      refine (l1Byte_any _ _ c2).mono ?_
      rintro e w3 ⟨z, rfl, z0, z1, c3, k3⟩
      go_wp2_with fail
      refine (l1Byte_any _ _ c3).mono ?_
      rintro e w4 ⟨u, rfl, u0, u1, c4, k4⟩
      go_wp2_with fail
      go_ret
      have b0 : 0 ≤ x * 16777216 + y * 65536 + z * 256 + u := by omega
      have b1 := Int.emod_nonneg (x * 16777216 + y * 65536 + z * 256 + u) (show n ≠ 0 by omega)
      have b2 := Int.emod_lt_of_pos (x * 16777216 + y * 65536 + z * 256 + u) h0'
      have b3 : (x * 16777216 + y * 65536 + z * 256 + u) % n ≤ x * 16777216 + y * 65536 + z * 256 + u := emod_le_self _ _ b0 h0'
      exact ⟨_, rfl, b1, fun _ => b2, by omega, c4, grown_trans (grown_trans (grown_trans k1 k2) k3) k4⟩

theorem l1Once_any (g : Nat) (n : Int) (w : World) (hc : Cur w g) :
    Calls Tryz.prog 89 #[.pointer (some ⟨g, 0, none⟩), .int .i64 n] w fun e w' => ∃ b : Bool, e = .returned (.bool b) ∧ Cur w' g ∧ w.grownBy w' (some g) := by
  go_enter Tryz.func89, Tryz.ntmps89
  go_wp2_with fail
  refine (l1Below_any _ _ _ hc).mono ?_
  rintro e w1 ⟨x, rfl, x0, x1, x2, c1, k1⟩
  go_wp2_with fail
  go_ret
  exact ⟨_, rfl, c1, k1⟩

/-- What else is written and made leaves the cursor as it is. -/
theorem Cur.other {w w' : World} {g : Nat} {row : Option Nat} (h : Cur w g) (k : w.grownBy w' row) (hr : ∀ j, row = some j → g < j) : Cur w' g := by
  obtain ⟨ao, n, cap, i, hh, hg, hin, hn, hb⟩ := h
  have hlt : g < w.heap.size := (Array.getElem?_eq_some_iff.1 hg).1
  refine ⟨ao, n, cap, i, hh, ?_, hin, hn, fun i hi => ?_⟩
  · rw [k.block g hlt (fun e => by have := hr g e.symm; omega)]; exact hg
  · obtain ⟨b, off, e, hbg, hc⟩ := hb i hi
    refine ⟨b, off, e, hbg, fun j hj => ?_⟩
    obtain ⟨x, hx, h0, h1⟩ := hc j hj
    exact ⟨x, k.cell hx (fun e => by have := hr b e.symm; omega), h0, h1⟩
theorem Cur.lt {w : World} {g : Nat} (h : Cur w g) : g < w.heap.size := by
  obtain ⟨ao, n, cap, i, hh, hg, _⟩ := h
  exact (Array.getElem?_eq_some_iff.1 hg).1
theorem Cur.fr {w w' : World} {g : Nat} (h : Cur w g) (k : Fr w w') : Cur w' g := h.other k (by simp)
/-- What is new, and writes into it, beside the writes into the block g. -/
theorem grown_then {a b c : World} {g : Nat} {row : Option Nat} (h : a.grownBy b (some g)) (k : b.grownBy c row) (hr : ∀ j, row = some j → a.heap.size ≤ j ∨ j = g) : a.grownBy c (some g) :=
  ⟨k.os.trans h.os, k.tape.trans h.tape, k.output.trans h.output, Nat.le_trans h.size k.size,
    fun i hi hne => (k.block i (Nat.lt_of_lt_of_le hi h.size) (fun e => by rcases hr i e.symm with q | q; omega; exact hne (by rw [q]))).trans (h.block i hi hne)⟩
theorem grown_refl (w : World) (row : Option Nat) : w.grownBy w row := ⟨rfl, rfl, rfl, Nat.le_refl _, fun _ _ _ => rfl⟩

/-- One of some numbers that lie in a block of their own. -/
theorem lit_cell {w : World} {t : TypeId} (zs : List Int) (hz : ∀ z ∈ zs, I64 z) (k : Nat) (hk : k < zs.length) :
    ∃ z, I64 z ∧ (w.alloc (.cells (zs.map (Value.int .i64)).toArray t)).cell? ⟨w.heap.size, k, none⟩ = some (.int .i64 z) := by
  refine ⟨zs[k], hz _ (List.getElem_mem hk), ?_⟩
  rw [cell_of_row _ _ _ _ _ _ (heap_alloc_new w _)]
  simp [hk]

set_option maxHeartbeats 400000 in
theorem l1Odd_any (g : Nat) (w : World) (hc : Cur w g) :
    Calls Tryz.prog 147 #[.pointer (some ⟨g, 0, none⟩)] w fun e w' => ∃ x : Int, e = .returned (.int .i64 x) ∧ I64 x ∧ Cur w' g ∧ w.grownBy w' (some g) := by
  have hlt := hc.lt
  go_enter Tryz.func147, Tryz.ntmps147
  go_wp2_with fail
  refine (l1Below_any _ _ _ (hc.fr (Fr.alloc _ _))).mono ?_
  rintro e w1 ⟨x, rfl, x0, x1, x2, c1, k1⟩
  have x3 : x < 10 := x1 (by omega)
  clear x1 x2
  obtain ⟨k, rfl⟩ := Int.eq_ofNat_of_zero_le x0
  obtain ⟨z, hz, hcell⟩ := lit_cell (w := w) (t := 2) [-1, 0, 1, 2147483648, -2147483648, 1099511627776, 4611686018427387904, -4611686018427387904, 9223372036854775807, -9223372036854775808] (by intro z hz; simp at hz; rcases hz with rfl | rfl | rfl | rfl | rfl | rfl | rfl | rfl | rfl | rfl <;> exact ⟨by decide, by decide⟩) k (by simp; omega)
  have hcell2 := k1.cell hcell (by simp; omega)
  have hk10 : k < 10 := by omega
  clear hcell
  go_wp2_with fail
  go_ret
  exact ⟨z, rfl, hz, c1, grown_then (Fr.alloc w _).wide k1 (by intro j hj; right; simpa using hj.symm)⟩

set_option maxHeartbeats 400000 in
theorem l1Min_any (a b : Int) (w : World) :
    Calls Tryz.prog 145 #[.int .i64 a, .int .i64 b] w fun e w' => e = .returned (.int .i64 (min a b)) ∧ w' = w := by
  by_cases h : a < b
  · go_enter Tryz.func145, Tryz.ntmps145
    go_wp2
    go_ret
    exact ⟨ret_int (by omega), rfl⟩
  · go_enter Tryz.func145, Tryz.ntmps145
    go_wp2
    go_ret
    exact ⟨ret_int (by omega), rfl⟩

set_option maxHeartbeats 400000 in
theorem l1Num_any (g : Nat) (most : Int) (w : World) (hc : Cur w g) (m0 : 0 ≤ most) (m1 : most ≤ 4611686018427387904) :
    Calls Tryz.prog 143 #[.pointer (some ⟨g, 0, none⟩), .int .i64 most] w fun e w' => ∃ x : Int, e = .returned (.int .i64 x) ∧ I64 x ∧ Cur w' g ∧ w.grownBy w' (some g) := by
  go_enter Tryz.func143, Tryz.ntmps143
  go_wp2_with fail
  refine (l1Once_any _ _ _ hc).mono ?_
  rintro e w1 ⟨b, rfl, c1, k1⟩
  cases b
  · go_wp2_with fail
    refine (l1Once_any _ _ _ c1).mono ?_
    rintro e w2 ⟨b, rfl, c2, k2⟩
    cases b
    · go_wp2_with fail
      refine (l1Below_any _ _ _ c2).mono ?_
      rintro e w3 ⟨x, rfl, x0, x1, x2, c3, k3⟩
      go_wp2_with fail
      go_ret
      exact ⟨x, rfl, ⟨by omega, by omega⟩, c3, grown_trans (grown_trans k1 k2) k3⟩
    · go_wp2_with fail
      refine (l1Min_any _ _ _).mono ?_
      rintro e w3 ⟨rfl, rfl⟩
      obtain ⟨q, hq⟩ : ∃ q, q = min most 4 := ⟨_, rfl⟩
      have q0 : 0 ≤ q ∧ q ≤ 4 := by omega
      simp only [← hq]
      clear hq
      obtain ⟨q1, q2⟩ := q0
      go_wp2_with fail
      refine (l1Below_any _ _ _ c2).mono ?_
      rintro e w4 ⟨x, rfl, x0, x1, x2, c3, k3⟩
      go_wp2_with fail
      go_ret
      exact ⟨x, rfl, ⟨by omega, by omega⟩, c3, grown_trans (grown_trans k1 k2) k3⟩
  · go_wp2_with fail
    refine (l1Odd_any _ _ c1).mono ?_
    rintro e w2 ⟨o, rfl, ho, c2, k2⟩
    have hlt := c2.lt
    go_wp2_with fail
    refine (l1Below_any _ _ _ (c2.fr (Fr.alloc _ _))).mono ?_
    rintro e w3 ⟨x, rfl, x0, x1, x2, c3, k3⟩
    have x3 : x < 4 := x1 (by omega)
    clear x1 x2
    obtain ⟨k, rfl⟩ := Int.eq_ofNat_of_zero_le x0
    obtain ⟨z, hz, hcell⟩ := lit_cell (w := w2) (t := 2) [-1, most, most + 1, o] (by intro z hz; simp at hz; rcases hz with rfl | rfl | rfl | rfl; exact ⟨by decide, by decide⟩; exact ⟨by omega, by omega⟩; exact ⟨by omega, by omega⟩; exact ho) k (by simp; omega)
    have hcell2 := k3.cell hcell (by simp; omega)
    have hk4 : k < 4 := by omega
    clear hcell
    go_wp2_with fail
    go_ret
    exact ⟨z, rfl, hz, c3, grown_trans (grown_trans k1 k2) (grown_then (Fr.alloc w2 _).wide k3 (by intro j hj; right; simpa using hj.symm))⟩
end Go.Proofs.YtikjodbboljhjaaGreatDoor
/-
  A cursor over the bytes of a code: l1New; and the laws' test 'big'.
-/
namespace Go.Proofs.YtikjodbboljhjaaGreatDoor
open Go.RowKit

theorem row_some {g : Nat} {P : Nat → Prop} (h : P g) : ∀ j, some g = some j → P j := by
  intro j e
  simp only [Option.some.injEq] at e
  subst e
  exact h

/-- n bytes lie at the address ao. -/
def ByteRow (w : World) (ao : Option Addr) (n : Nat) : Prop :=
  ∀ i, i < n → ∃ b off, ao = some ⟨b, off, none⟩ ∧ ∀ j, j < n → ∃ x : Int, w.cell? ⟨b, off + j, none⟩ = some (.int .u8 x) ∧ 0 ≤ x ∧ x ≤ 255

theorem bytes_of_row {w : World} {a : Option Addr} {len cap : Nat} {zs : List Int}
    (h : (a = none ∧ len = 0 ∧ cap = 0 ∧ zs = []) ∨ ∃ x, a = some x ∧ len ≤ cap ∧ cap ≤ maxLen ∧ zs.length = cap ∧ (∀ i, i < zs.length → w.cell? (x.add i) = some (.int .u8 (zs.getD i 0))) ∧ ∀ n ∈ zs, (Lit.int .u8 n).wf = true) :
    ByteRow w a len := by
  rcases h with ⟨rfl, rfl, rfl, rfl⟩ | ⟨x, rfl, h1, h2, h3, h4, h5⟩
  · intro i hi; omega
  · intro i hi
    obtain ⟨b, off, spot⟩ := x
    have hc := h4 0 (by omega)
    have hspot : spot = none := by
      have := World.cell?_spot hc
      simpa [Addr.add] using this
    subst hspot
    refine ⟨b, off, rfl, fun j hj => ?_⟩
    have hj' : j < zs.length := by omega
    have := h4 j hj'
    rw [Addr.add_lit] at this
    have hb := bounds_u8 (h5 _ (List.getElem_mem hj'))
    rw [getD_at hj'] at this
    exact ⟨zs[j], this, by omega, by omega⟩

theorem ByteRow.fr {w w' : World} {ao : Option Addr} {n : Nat} (h : ByteRow w ao n) (k : Fr w w') : ByteRow w' ao n := by
  intro i hi
  obtain ⟨b, off, e, hc⟩ := h i hi
  refine ⟨b, off, e, fun j hj => ?_⟩
  obtain ⟨x, hx, r⟩ := hc j hj
  exact ⟨x, k.cell hx, r⟩

theorem cur_new {w : World} {ao : Option Addr} {n cap : Nat} (h : ByteRow w ao n) (hn : n ≤ 4294967296) (hv : Int) :
    Cur (w.alloc (.cells #[.slice ao n cap, .int .i64 0, .int .i64 hv] 120)) w.heap.size := by
  refine ⟨ao, n, cap, 0, hv, heap_alloc_new w _, Nat.zero_le _, hn, fun i hi => ?_⟩
  obtain ⟨b, off, e, hc⟩ := h i hi
  obtain ⟨x, hx, _⟩ := hc i hi
  refine ⟨b, off, e, World.block_lt_of_cell? w _ hx, fun j hj => ?_⟩
  obtain ⟨x, hx, r⟩ := hc j hj
  exact ⟨x, (Fr.alloc w _).cell hx, r⟩

theorem and30_in (n : Int) : 0 ≤ bits .and .i64 n 1073741823 ∧ bits .and .i64 n 1073741823 ≤ 1073741823 := by rw [i64_and30]; omega

set_option maxHeartbeats 400000 in
theorem l1New_any (ao : Option Addr) (n cap : Nat) (w : World) (h : ByteRow w ao n) (hn : n ≤ 4294967296) :
    Calls Tryz.prog 37 #[.slice ao n cap] w fun e w' => e = .returned (.pointer (some ⟨w.heap.size, 0, none⟩)) ∧ Cur w' w.heap.size ∧ Fr w w' := by
  go_enter Tryz.func37, Tryz.ntmps37
  go_wp2_with fail
  go_loop [3, 4] (fun hh i => ∃ k : Nat, ∃ hv : Int, k ≤ n ∧ i = .int .i64 k ∧ hh = .int .i64 hv ∧ 0 ≤ hv ∧ hv ≤ 8589934592) (fun _ i => n - (intOf i).toNat)
  case atStart => exact ⟨0, 161803 + (n : Int), Nat.zero_le _, rfl, rfl, by omega, by omega⟩
  case round =>
    obtain ⟨k, hv, hk, rfl, rfl, b0, b1⟩ := hrel
    by_cases hlt : k < n
    · obtain ⟨b, off, rfl, hc⟩ := h k hlt
      obtain ⟨x, hx, x0, x1⟩ := hc k hlt
      clear hc
      go_wp2_with fail
      go_round
      case rel => exact ⟨k + 1, _, by omega, by go_num, rfl, (and30_in _).1, by have := (and30_in (hv * 199 + x + 11)).2; omega⟩
      case measure => simp [intOf]; omega
    · go_wp2_with fail
      go_ret
      exact ⟨rfl, cur_new h hn hv, Fr.alloc _ _⟩

theorem big_any (ao : Option Addr) (n cap : Nat) (w : World) (_hn : n ≤ 9223372036854775807) :
    Calls Tryz.prog 8 #[.slice ao n cap] w fun e w' => e = .returned (.bool (decide (4096 < (n : Int)))) ∧ w' = w := by
  go_enter Tryz.func8, Tryz.ntmps8
  go_wp2
  go_ret
  exact ⟨rfl, rfl⟩
end Go.Proofs.YtikjodbboljhjaaGreatDoor
/-
  The laws' dice: roll, below.
-/
namespace Go.Proofs.YtikjodbboljhjaaGreatDoor
open Go.RowKit

/-- A block that is a dice. -/
def Dice (w : World) (d : Nat) (ao : Option Addr) (n cap i : Nat) (h : Int) : Prop := w.heap[d]? = some (.cells #[.slice ao n cap, .int .i64 i, .int .u64 h] 93 (0, 0))

theorem u64_and24 (n : Int) : 0 ≤ bits .and .u64 n 16777215 ∧ bits .and .u64 n 16777215 ≤ 16777215 := by
  have key : (BitVec.ofInt 64 n &&& BitVec.ofInt 64 16777215).toNat ≤ 16777215 := by
    rw [BitVec.toNat_and]
    exact Nat.le_trans Nat.and_le_right (by decide)
  show 0 ≤ IntKind.u64.wrap ((BitVec.ofInt 64 n &&& BitVec.ofInt 64 16777215).toNat : Nat) ∧ IntKind.u64.wrap ((BitVec.ofInt 64 n &&& BitVec.ofInt 64 16777215).toNat : Nat) ≤ 16777215
  rw [IntKind.wrap_u64]
  omega

set_option maxRecDepth 20000 in
set_option maxHeartbeats 2000000 in
theorem roll_any (ao : Option Addr) (n cap : Nat) (sd : Int) (w : World) (hbr : ByteRow w ao n) (hn : n ≤ 4096) :
    Calls Tryz.prog 17 #[.slice ao n cap, .int .u64 sd] w fun e w' => ∃ d h, e = .returned (.pointer (some ⟨d, 0, none⟩)) ∧ Dice w' d ao n cap 0 h ∧ w.heap.size ≤ d ∧ Fr w w' := by
  have f0 := fun h => Fr.alloc w (.cells #[.slice ao n cap, .int .i64 0, .int .u64 h] 93)
  have D0 : ∀ h, Dice (w.alloc (.cells #[.slice ao n cap, .int .i64 0, .int .u64 h] 93)) w.heap.size ao n cap 0 h := fun h => heap_alloc_new w _
  go_enter Tryz.func17, Tryz.ntmps17
  go_wp2_with fail
  generalize IntKind.u64.wrap (IntKind.u64.wrap (sd * 7919) + (n : Int)) = H
  have f0 := f0 H
  have D0 := D0 H
  obtain ⟨d, hd⟩ : ∃ d, d = w.heap.size := ⟨_, rfl⟩
  rw [← hd] at D0 ⊢
  have HD : Hid (w.heap.size ≤ d) := Nat.le_of_eq hd.symm
  clear hd
  go_loopw [6] (fun i wr => ∃ (k : Nat) (h : Int), k ≤ n ∧ i = .int .i64 k ∧ Dice wr d ao n cap 0 h ∧ Fr w wr) (fun i _ => n - (intOf i).toNat)
  case atStart => exact ⟨0, H, Nat.zero_le _, rfl, D0, f0⟩
  case round =>
    clear D0 f0
    obtain ⟨k, h, hk, rfl, hD, hf⟩ := hrel
    have c0 : wr.cell? ⟨d, 0, none⟩ = some (.slice ao n cap) := cell_of_row wr d 0 _ _ _ hD
    have c1 : wr.cell? ⟨d, 1, none⟩ = some (.int .i64 0) := cell_of_row wr d 1 _ _ _ hD
    have c2 : wr.cell? ⟨d, 2, none⟩ = some (.int .u64 h) := cell_of_row wr d 2 _ _ _ hD
    have hz := fun j => frozen_of_row wr d j _ _ hD
    by_cases hlt : k < n
    · obtain ⟨b, off, rfl, hb⟩ := hbr k hlt
      obtain ⟨x, hx, hx0, hx1⟩ := hb k hlt
      have hx := hf.cell hx
      have hS : ∀ v : Int, Dice ((wr.drewN 1).setCell ⟨d, 2, none⟩ (.int .u64 v)) d (some ⟨b, off, none⟩) n cap 0 v := fun v => heap_setCell_same (wr.drewN 1) d 2 _ _ (.int .u64 v) hD
      have HS : Hid _ := hS
      clear hS hb
      have hi : (k : Int) < n := by omega
      go_wp2_with fail
      go_region
      all_goals
        go_wp2_with fail
        go_roundw
        case rel => exact ⟨k + 1, _, by omega, by go_num, HS.out _, (hf.trans (Fr.drew wr)).then (grown_set _ _ _ _) (fun j hj => by simp only [Option.some.injEq] at hj; have := HD.out; omega)⟩
        case measure => simp [intOf]; omega
    · go_wp2_with fail
      go_ret
      exact ⟨d, h, rfl, hD, HD.out, hf⟩
set_option maxRecDepth 20000 in
set_option maxHeartbeats 2000000 in
theorem below_any (d : Nat) (ao : Option Addr) (n cap i : Nat) (h N : Int) (w : World) (hd : Dice w d ao n cap i h) (hn : n ≤ 4096) (hbr : ByteRow w ao n) (hdb : 0 < n → ∀ k, blk ao = some k → k ≠ d) (hN : 1 ≤ N) (hN2 : N ≤ 1000000) :
    Calls Tryz.prog 24 #[.pointer (some ⟨d, 0, none⟩), .int .i64 N] w fun e w' => ∃ r : Int, e = .returned (.int .i64 r) ∧ 0 ≤ r ∧ r < N ∧ w.grownBy w' (some d) := by
  have c0 : w.cell? ⟨d, 0, none⟩ = some (.slice ao n cap) := cell_of_row w d 0 _ _ _ hd
  have c1 : w.cell? ⟨d, 1, none⟩ = some (.int .i64 i) := cell_of_row w d 1 _ _ _ hd
  have c2 : w.cell? ⟨d, 2, none⟩ = some (.int .u64 h) := cell_of_row w d 2 _ _ _ hd
  have hf := fun j => frozen_of_row w d j _ _ hd
  have D1 : ∀ v, Dice (w.setCell ⟨d, 2, none⟩ (.int .u64 v)) d ao n cap i v := fun v => heap_setCell_same w d 2 _ _ (.int .u64 v) hd
  go_enter Tryz.func24, Tryz.ntmps24
  go_wp2_with fail
  generalize IntKind.u64.wrap (IntKind.u64.wrap (h * 6364136223846793005) + 1442695040888963407) = H
  have hX := u64_and24 (H / 8589934592)
  generalize bits BinOp.and IntKind.u64 (H / 8589934592) 16777215 = Y at hX ⊢
  have hY : wrap64 Y = Y := by
    unfold wrap64
    omega
  rw [hY]
  have D1 := D1 H
  have g1 := grown_set w d 2 (.int .u64 H)
  clear c0 c1 c2 hf
  generalize hW : w.setCell ⟨d, 2, none⟩ (.int .u64 H) = W at D1 g1 ⊢
  clear hW hd
  have c0 : W.cell? ⟨d, 0, none⟩ = some (.slice ao n cap) := cell_of_row W d 0 _ _ _ D1
  have c1 : W.cell? ⟨d, 1, none⟩ = some (.int .i64 i) := cell_of_row W d 1 _ _ _ D1
  have c2 : W.cell? ⟨d, 2, none⟩ = some (.int .u64 H) := cell_of_row W d 2 _ _ _ D1
  have hf := fun j => frozen_of_row W d j _ _ D1
  go_region_held3 (fun u => u.cell? ⟨d, 0, none⟩ = some (.slice ao n cap) ∧ u.cell? ⟨d, 1, none⟩ = some (.int .i64 i) ∧ u.cell? ⟨d, 2, none⟩ = some (.int .u64 H)) (go_keep) (fail)
  by_cases hin : i < n
  · obtain ⟨b, off, rfl, hb⟩ := hbr i hin
    obtain ⟨x, hx, hx0, hx1⟩ := hb i hin
    have hdd := hdb (by omega) b rfl
    have hx := g1.cell hx (by simpa using hdd)
    have hiI : (i : Int) < n := by omega
    clear hb hbr
    go_wp2_with fail
    go_region_held3 (fun u => u.cell? ⟨d, 0, none⟩ = some (.slice (some ⟨b, off, none⟩) n cap) ∧ u.cell? ⟨d, 1, none⟩ = some (.int .i64 i) ∧ u.cell? ⟨d, 2, none⟩ = some (.int .u64 H) ∧ u.cell? ⟨b, off + i, none⟩ = some (.int .u8 x)) (go_keep) (fail)
    go_wp2_with fail
    go_ret
    exact ⟨_, rfl, Int.emod_nonneg _ (by omega), Int.emod_lt_of_pos _ (by omega), grown_trans g1 (grown_trans (grown_set W d 1 _) (grown_trans (Fr.drew _).wide (Fr.drew _).wide))⟩
  · go_wp2_with fail
    go_ret
    exact ⟨_, rfl, Int.emod_nonneg _ (by omega), Int.emod_lt_of_pos _ (by omega), grown_trans g1 (Fr.drew _).wide⟩
end Go.Proofs.YtikjodbboljhjaaGreatDoor
