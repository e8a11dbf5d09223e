/-
  The laws' dice: roll, below.
-/
import Derived.Test.YtpmloeneffolpaaDrawNew
import Derived.Test.YtpmloeneffolpaaGrownSet
import Derived.RegionTactic
import Derived.BigRegion
import Derived.Deep.RegionHeld3
import Derived.Laws.Shifts
import Derived.Laws.Bits128
namespace Go.Proofs.Ytpmloeneffolpaa
open Go.RowKit

/-- A block that is a dice. -/
def Dice (w : World) (d : Nat) (ao : Option Addr) (n cap i : Nat) (h : Int) : Prop := w.heap[d]? = some (.cells #[.slice ao n cap, .int .i64 i, .int .u64 h] 57 (0, 0))

theorem Dice.lt {w : World} {d n cap i : Nat} {ao : Option Addr} {h : Int} (hd : Dice w d ao n cap i h) : d < w.heap.size := (Array.getElem?_eq_some_iff.1 hd).1
theorem Dice.fr {w w' : World} {d n cap i : Nat} {ao : Option Addr} {h : Int} (hd : Dice w d ao n cap i h) (k : Fr w w') : Dice w' d ao n cap i h := (k.block d hd.lt (by simp)).trans hd

theorem u64_and24 (n : Int) : 0 ≤ bits .and .u64 n 16777215 ∧ bits .and .u64 n 16777215 ≤ 16777215 := by
  have key : (BitVec.ofInt 64 n &&& BitVec.ofInt 64 16777215).toNat ≤ 16777215 := by
    rw [BitVec.toNat_and]
    exact Nat.le_trans Nat.and_le_right (by decide)
  show 0 ≤ IntKind.u64.wrap ((BitVec.ofInt 64 n &&& BitVec.ofInt 64 16777215).toNat : Nat) ∧ IntKind.u64.wrap ((BitVec.ofInt 64 n &&& BitVec.ofInt 64 16777215).toNat : Nat) ≤ 16777215
  rw [IntKind.wrap_u64]
  omega

set_option maxRecDepth 20000 in
set_option maxHeartbeats 2000000 in
theorem roll_any (ao : Option Addr) (n cap : Nat) (sd : Int) (w : World) (hbr : ByteRow w ao n) (hn : n ≤ 4096) :
    Calls Try.prog 16 #[.slice ao n cap, .int .u64 sd] w fun e w' => ∃ d h, e = .returned (.pointer (some ⟨d, 0, none⟩)) ∧ Dice w' d ao n cap 0 h ∧ w.heap.size ≤ d ∧ Fr w w' := by
  have f0 := fun h => Fr.alloc w (.cells #[.slice ao n cap, .int .i64 0, .int .u64 h] 57)
  have D0 : ∀ h, Dice (w.alloc (.cells #[.slice ao n cap, .int .i64 0, .int .u64 h] 57)) w.heap.size ao n cap 0 h := fun h => heap_alloc_new w _
  go_enter Try.func16, Try.ntmps16
  go_wp2_with fail
  generalize IntKind.u64.wrap (IntKind.u64.wrap (sd * 7919) + (n : Int)) = H
  have f0 := f0 H
  have D0 := D0 H
  obtain ⟨d, hd⟩ : ∃ d, d = w.heap.size := ⟨_, rfl⟩
  rw [← hd] at D0 ⊢
  have HD : Hid (w.heap.size ≤ d) := Nat.le_of_eq hd.symm
  clear hd
  go_loopw [6] (fun i wr => ∃ (k : Nat) (h : Int), k ≤ n ∧ i = .int .i64 k ∧ Dice wr d ao n cap 0 h ∧ Fr w wr) (fun i _ => n - (intOf i).toNat)
  case atStart => exact ⟨0, H, Nat.zero_le _, rfl, D0, f0⟩
  case round =>
    clear D0 f0
    obtain ⟨k, h, hk, rfl, hD, hf⟩ := hrel
    have c0 : wr.cell? ⟨d, 0, none⟩ = some (.slice ao n cap) := cell_of_row wr d 0 _ _ _ hD
    have c1 : wr.cell? ⟨d, 1, none⟩ = some (.int .i64 0) := cell_of_row wr d 1 _ _ _ hD
    have c2 : wr.cell? ⟨d, 2, none⟩ = some (.int .u64 h) := cell_of_row wr d 2 _ _ _ hD
    have hz := fun j => frozen_of_row wr d j _ _ hD
    by_cases hlt : k < n
    · obtain ⟨b, off, rfl, hb⟩ := hbr k hlt
      obtain ⟨x, hx, hx0, hx1⟩ := hb k hlt
      have hx := hf.cell hx
      have hS : ∀ v : Int, Dice ((wr.drewN 1).setCell ⟨d, 2, none⟩ (.int .u64 v)) d (some ⟨b, off, none⟩) n cap 0 v := fun v => heap_setCell_same (wr.drewN 1) d 2 _ _ (.int .u64 v) hD
      have HS : Hid _ := hS
      clear hS hb
      have hi : (k : Int) < n := by omega
      go_wp2_with fail
      go_region
      all_goals
        go_wp2_with fail
        go_roundw
        case rel => exact ⟨k + 1, _, by omega, by go_num, HS.out _, (hf.trans (Fr.drew wr)).then (grown_set _ _ _ _) (fun j hj => by simp only [Option.some.injEq] at hj; have := HD.out; omega)⟩
        case measure => simp [intOf]; omega
    · go_wp2_with fail
      go_ret
      exact ⟨d, h, rfl, hD, HD.out, hf⟩
set_option maxRecDepth 20000 in
set_option maxHeartbeats 2000000 in
theorem below_any (d : Nat) (ao : Option Addr) (n cap i : Nat) (h N : Int) (w : World) (hd : Dice w d ao n cap i h) (hn : n ≤ 4096) (hbr : ByteRow w ao n) (hdb : 0 < n → ∀ k, blk ao = some k → k ≠ d) (hN : 1 ≤ N) (hN2 : N ≤ 1000000) :
    Calls Try.prog 18 #[.pointer (some ⟨d, 0, none⟩), .int .i64 N] w fun e w' => ∃ r : Int, e = .returned (.int .i64 r) ∧ 0 ≤ r ∧ r < N ∧ w.grownBy w' (some d) ∧ ∃ i' h', Dice w' d ao n cap i' h' := by
  have c0 : w.cell? ⟨d, 0, none⟩ = some (.slice ao n cap) := cell_of_row w d 0 _ _ _ hd
  have c1 : w.cell? ⟨d, 1, none⟩ = some (.int .i64 i) := cell_of_row w d 1 _ _ _ hd
  have c2 : w.cell? ⟨d, 2, none⟩ = some (.int .u64 h) := cell_of_row w d 2 _ _ _ hd
  have hf := fun j => frozen_of_row w d j _ _ hd
  have D1 : ∀ v, Dice (w.setCell ⟨d, 2, none⟩ (.int .u64 v)) d ao n cap i v := fun v => heap_setCell_same w d 2 _ _ (.int .u64 v) hd
  go_enter Try.func18, Try.ntmps18
  go_wp2_with fail
  generalize IntKind.u64.wrap (IntKind.u64.wrap (h * 6364136223846793005) + 1442695040888963407) = H
  have hX := u64_and24 (H / 8589934592)
  generalize bits BinOp.and IntKind.u64 (H / 8589934592) 16777215 = Y at hX ⊢
  have hY : wrap64 Y = Y := by
    unfold wrap64
    omega
  rw [hY]
  have D1 := D1 H
  have g1 := grown_set w d 2 (.int .u64 H)
  clear c0 c1 c2 hf
  generalize hW : w.setCell ⟨d, 2, none⟩ (.int .u64 H) = W at D1 g1 ⊢
  clear hW hd
  have c0 : W.cell? ⟨d, 0, none⟩ = some (.slice ao n cap) := cell_of_row W d 0 _ _ _ D1
  have c1 : W.cell? ⟨d, 1, none⟩ = some (.int .i64 i) := cell_of_row W d 1 _ _ _ D1
  have c2 : W.cell? ⟨d, 2, none⟩ = some (.int .u64 H) := cell_of_row W d 2 _ _ _ D1
  have hf := fun j => frozen_of_row W d j _ _ D1
  go_region_held3 (fun u => u.cell? ⟨d, 0, none⟩ = some (.slice ao n cap) ∧ u.cell? ⟨d, 1, none⟩ = some (.int .i64 i) ∧ u.cell? ⟨d, 2, none⟩ = some (.int .u64 H)) (go_keep) (fail)
  by_cases hin : i < n
  · obtain ⟨b, off, rfl, hb⟩ := hbr i hin
    obtain ⟨x, hx, hx0, hx1⟩ := hb i hin
    have hdd := hdb (by omega) b rfl
    have hx := g1.cell hx (by simpa using hdd)
    have hiI : (i : Int) < n := by omega
    have D2 : Hid (Dice (W.setCell ⟨d, 1, none⟩ (.int .i64 ((i + 1 : Nat) : Int))) d (some ⟨b, off, none⟩) n cap (i + 1) H) := heap_setCell_same W d 1 _ _ (.int .i64 ((i + 1 : Nat) : Int)) D1
    clear hb hbr
    go_wp2_with fail
    go_region_held3 (fun u => u.cell? ⟨d, 0, none⟩ = some (.slice (some ⟨b, off, none⟩) n cap) ∧ u.cell? ⟨d, 1, none⟩ = some (.int .i64 i) ∧ u.cell? ⟨d, 2, none⟩ = some (.int .u64 H) ∧ u.cell? ⟨b, off + i, none⟩ = some (.int .u8 x)) (go_keep) (fail)
    go_wp2_with fail
    go_ret
    exact ⟨_, rfl, Int.emod_nonneg _ (by omega), Int.emod_lt_of_pos _ (by omega), grown_trans g1 (grown_trans (grown_set W d 1 _) (grown_trans (Fr.drew _).wide (Fr.drew _).wide)), i + 1, H, ((D2.out).fr (Fr.drew _)).fr (Fr.drew _)⟩
  · go_wp2_with fail
    go_ret
    exact ⟨_, rfl, Int.emod_nonneg _ (by omega), Int.emod_lt_of_pos _ (by omega), grown_trans g1 (Fr.drew _).wide, i, H, D1.fr (Fr.drew _)⟩
end Go.Proofs.Ytpmloeneffolpaa
