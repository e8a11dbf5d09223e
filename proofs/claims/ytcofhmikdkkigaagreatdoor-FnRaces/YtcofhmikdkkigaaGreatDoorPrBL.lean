/-
  Pack BL: EvsLike, Draw, DrawNew, ScDice, DiceX, EvDraw, ScChance, ScCopy, ScCopy2, IntsLike.
-/
import Derived.Test.YtcofhmikdkkigaaGreatDoorPrAD
import Derived.Test.YtcofhmikdkkigaaGreatDoorPrAA
import Derived.Laws.Bits128
import Derived.Laws.Shifts
import Derived.Laws.Pointers
import Derived.RegionTactic
import Derived.BigRegion
import Derived.Deep.RegionHeld3
import Derived.Test.YtcofhmikdkkigaaGreatDoorPrAC
import Derived.Test.YtcofhmikdkkigaaGreatDoorPrAV
import Derived.Test.YtcofhmikdkkigaaGreatDoorPrAQ
import Derived.Test.YtcofhmikdkkigaaGreatDoorPrAE
import Derived.Test.YtcofhmikdkkigaaGreatDoorPrAT
namespace Go.Proofs.YtcofhmikdkkigaaGreatDoor
open Go.RowKit

end Go.Proofs.YtcofhmikdkkigaaGreatDoor
namespace Go.Proofs.YtcofhmikdkkigaaGreatDoor
open Go.RowKit

def Bytes (w : World) (g : Nat) (ao : Option Addr) (n : Nat) : Prop :=
  ∀ i, i < n → ∃ b off, ao = some ⟨b, off, none⟩ ∧ b < g ∧ ∀ j, j < n → ∃ x : Int, w.cell? ⟨b, off + j, none⟩ = some (.int .u8 x) ∧ 0 ≤ x ∧ x ≤ 255

theorem Bytes.keep {w w' : World} {g n : Nat} {ao : Option Addr} (h : Bytes w g ao n) (k : w.grownBy w' (some g)) : Bytes w' g ao n := by
  intro i hi
  obtain ⟨b, off, e, hb, hc⟩ := h i hi
  refine ⟨b, off, e, hb, fun j hj => ?_⟩
  obtain ⟨x, hx, h0, h1⟩ := hc j hj
  exact ⟨x, k.cell hx (by simp; omega), h0, h1⟩

def Cur (w : World) (g : Nat) : Prop :=
  ∃ ao n cap, ∃ i : Nat, ∃ h : Int, w.heap[g]? = some (.cells #[.slice ao n cap, .int .i64 i, .int .i64 h] 124 (0, 0)) ∧ i ≤ n ∧ n ≤ 4294967296 ∧ Bytes w g ao n

theorem Cur.other {w w' : World} {g : Nat} {row : Option Nat} (h : Cur w g) (k : w.grownBy w' row) (hr : ∀ j, row = some j → g < j) : Cur w' g := by
  obtain ⟨ao, n, cap, i, hh, hg, hin, hn, hb⟩ := h
  have hlt : g < w.heap.size := (Array.getElem?_eq_some_iff.1 hg).1
  refine ⟨ao, n, cap, i, hh, ?_, hin, hn, fun i hi => ?_⟩
  · rw [k.block g hlt (fun e => by have := hr g e.symm; omega)]; exact hg
  · obtain ⟨b, off, e, hbg, hc⟩ := hb i hi
    refine ⟨b, off, e, hbg, fun j hj => ?_⟩
    obtain ⟨x, hx, h0, h1⟩ := hc j hj
    exact ⟨x, k.cell hx (fun e => by have := hr b e.symm; omega), h0, h1⟩
theorem Cur.lt {w : World} {g : Nat} (h : Cur w g) : g < w.heap.size := by
  obtain ⟨ao, n, cap, i, hh, hg, _⟩ := h
  exact (Array.getElem?_eq_some_iff.1 hg).1
theorem Cur.fr {w w' : World} {g : Nat} (h : Cur w g) (k : Fr w w') : Cur w' g := h.other k (by simp)
theorem grown_then {a b c : World} {g : Nat} {row : Option Nat} (h : a.grownBy b (some g)) (k : b.grownBy c row) (hr : ∀ j, row = some j → a.heap.size ≤ j ∨ j = g) : a.grownBy c (some g) :=
  ⟨k.os.trans h.os, k.tape.trans h.tape, k.output.trans h.output, Nat.le_trans h.size k.size,
    fun i hi hne => (k.block i (Nat.lt_of_lt_of_le hi h.size) (fun e => by rcases hr i e.symm with q | q; omega; exact hne (by rw [q]))).trans (h.block i hi hne)⟩
theorem grown_refl (w : World) (row : Option Nat) : w.grownBy w row := ⟨rfl, rfl, rfl, Nat.le_refl _, fun _ _ _ => rfl⟩

end Go.Proofs.YtcofhmikdkkigaaGreatDoor
namespace Go.Proofs.YtcofhmikdkkigaaGreatDoor
open Go.RowKit

def ByteRow (w : World) (ao : Option Addr) (n : Nat) : Prop :=
  ∀ i, i < n → ∃ b off, ao = some ⟨b, off, none⟩ ∧ ∀ j, j < n → ∃ x : Int, w.cell? ⟨b, off + j, none⟩ = some (.int .u8 x) ∧ 0 ≤ x ∧ x ≤ 255

theorem bytes_of_row {w : World} {a : Option Addr} {len cap : Nat} {zs : List Int}
    (h : (a = none ∧ len = 0 ∧ cap = 0 ∧ zs = []) ∨ ∃ x, a = some x ∧ len ≤ cap ∧ cap ≤ maxLen ∧ zs.length = cap ∧ (∀ i, i < zs.length → w.cell? (x.add i) = some (.int .u8 (zs.getD i 0))) ∧ ∀ n ∈ zs, (Lit.int .u8 n).wf = true) :
    ByteRow w a len := by
  rcases h with ⟨rfl, rfl, rfl, rfl⟩ | ⟨x, rfl, h1, h2, h3, h4, h5⟩
  · intro i hi; omega
  · intro i hi
    obtain ⟨b, off, spot⟩ := x
    have hc := h4 0 (by omega)
    have hspot : spot = none := by
      have := World.cell?_spot hc
      simpa [Addr.add] using this
    subst hspot
    refine ⟨b, off, rfl, fun j hj => ?_⟩
    have hj' : j < zs.length := by omega
    have := h4 j hj'
    rw [Addr.add_lit] at this
    have hb := bounds_u8 (h5 _ (List.getElem_mem hj'))
    rw [getD_at hj'] at this
    exact ⟨zs[j], this, by omega, by omega⟩

theorem ByteRow.fr {w w' : World} {ao : Option Addr} {n : Nat} (h : ByteRow w ao n) (k : Fr w w') : ByteRow w' ao n := by
  intro i hi
  obtain ⟨b, off, e, hc⟩ := h i hi
  refine ⟨b, off, e, fun j hj => ?_⟩
  obtain ⟨x, hx, r⟩ := hc j hj
  exact ⟨x, k.cell hx, r⟩

theorem big_any (ao : Option Addr) (n cap : Nat) (w : World) (_hn : n ≤ 9223372036854775807) :
    Calls Tryz.prog 11 #[.slice ao n cap] w fun e w' => e = .returned (.bool (decide (4096 < (n : Int)))) ∧ w' = w := by
  go_enter Tryz.func11, Tryz.ntmps11
  go_wp2
  go_ret
  exact ⟨rfl, rfl⟩
end Go.Proofs.YtcofhmikdkkigaaGreatDoor
namespace Go.Proofs.YtcofhmikdkkigaaGreatDoor
open Go.RowKit

def Dice (w : World) (d : Nat) (ao : Option Addr) (n cap i : Nat) (h : Int) : Prop := w.heap[d]? = some (.cells #[.slice ao n cap, .int .i64 i, .int .u64 h] 98 (0, 0))

theorem Dice.lt {w : World} {d n cap i : Nat} {ao : Option Addr} {h : Int} (hd : Dice w d ao n cap i h) : d < w.heap.size := (Array.getElem?_eq_some_iff.1 hd).1
theorem Dice.fr {w w' : World} {d n cap i : Nat} {ao : Option Addr} {h : Int} (hd : Dice w d ao n cap i h) (k : Fr w w') : Dice w' d ao n cap i h := (k.block d hd.lt (by simp)).trans hd

theorem u64_and24 (n : Int) : 0 ≤ bits .and .u64 n 16777215 ∧ bits .and .u64 n 16777215 ≤ 16777215 := by
  have key : (BitVec.ofInt 64 n &&& BitVec.ofInt 64 16777215).toNat ≤ 16777215 := by
    rw [BitVec.toNat_and]
    exact Nat.le_trans Nat.and_le_right (by decide)
  show 0 ≤ IntKind.u64.wrap ((BitVec.ofInt 64 n &&& BitVec.ofInt 64 16777215).toNat : Nat) ∧ IntKind.u64.wrap ((BitVec.ofInt 64 n &&& BitVec.ofInt 64 16777215).toNat : Nat) ≤ 16777215
  rw [IntKind.wrap_u64]
  omega

set_option maxRecDepth 20000 in
set_option maxHeartbeats 2000000 in
theorem roll_any (ao : Option Addr) (n cap : Nat) (sd : Int) (w : World) (hbr : ByteRow w ao n) (hn : n ≤ 4096) :
    Calls Tryz.prog 19 #[.slice ao n cap, .int .u64 sd] w fun e w' => ∃ d h, e = .returned (.pointer (some ⟨d, 0, none⟩)) ∧ Dice w' d ao n cap 0 h ∧ w.heap.size ≤ d ∧ Fr w w' := by
  have f0 := fun h => Fr.alloc w (.cells #[.slice ao n cap, .int .i64 0, .int .u64 h] 98)
  have D0 : ∀ h, Dice (w.alloc (.cells #[.slice ao n cap, .int .i64 0, .int .u64 h] 98)) w.heap.size ao n cap 0 h := fun h => heap_alloc_new w _
  go_enter Tryz.func19, Tryz.ntmps19
  go_wp2_with fail
  generalize IntKind.u64.wrap (IntKind.u64.wrap (sd * 7919) + (n : Int)) = H
  have f0 := f0 H
  have D0 := D0 H
  obtain ⟨d, hd⟩ : ∃ d, d = w.heap.size := ⟨_, rfl⟩
  rw [← hd] at D0 ⊢
  have HD : Hid (w.heap.size ≤ d) := Nat.le_of_eq hd.symm
  clear hd
  go_loopw [6] (fun i wr => ∃ (k : Nat) (h : Int), k ≤ n ∧ i = .int .i64 k ∧ Dice wr d ao n cap 0 h ∧ Fr w wr) (fun i _ => n - (intOf i).toNat)
  case atStart => exact ⟨0, H, Nat.zero_le _, rfl, D0, f0⟩
  case round =>
    clear D0 f0
    obtain ⟨k, h, hk, rfl, hD, hf⟩ := hrel
    have c0 : wr.cell? ⟨d, 0, none⟩ = some (.slice ao n cap) := cell_of_row wr d 0 _ _ _ hD
    have c1 : wr.cell? ⟨d, 1, none⟩ = some (.int .i64 0) := cell_of_row wr d 1 _ _ _ hD
    have c2 : wr.cell? ⟨d, 2, none⟩ = some (.int .u64 h) := cell_of_row wr d 2 _ _ _ hD
    have hz := fun j => frozen_of_row wr d j _ _ hD
    by_cases hlt : k < n
    · obtain ⟨b, off, rfl, hb⟩ := hbr k hlt
      obtain ⟨x, hx, hx0, hx1⟩ := hb k hlt
      have hx := hf.cell hx
      have hS : ∀ v : Int, Dice ((wr.drewN 1).setCell ⟨d, 2, none⟩ (.int .u64 v)) d (some ⟨b, off, none⟩) n cap 0 v := fun v => heap_setCell_same (wr.drewN 1) d 2 _ _ (.int .u64 v) hD
      have HS : Hid _ := hS
      clear hS hb
      have hi : (k : Int) < n := by omega
      go_wp2_with fail
      go_region
      all_goals
        go_wp2_with fail
        go_roundw
        case rel => exact ⟨k + 1, _, by omega, by go_num, HS.out _, (hf.trans (Fr.drew wr)).then (grown_set _ _ _ _) (fun j hj => by simp only [Option.some.injEq] at hj; have := HD.out; omega)⟩
        case measure => simp [intOf]; omega
    · go_wp2_with fail
      go_ret
      exact ⟨d, h, rfl, hD, HD.out, hf⟩
set_option maxRecDepth 20000 in
set_option maxHeartbeats 2000000 in
theorem below_any (d : Nat) (ao : Option Addr) (n cap i : Nat) (h N : Int) (w : World) (hd : Dice w d ao n cap i h) (hn : n ≤ 4096) (hbr : ByteRow w ao n) (hdb : 0 < n → ∀ k, blk ao = some k → k ≠ d) (hN : 1 ≤ N) (hN2 : N ≤ 1000000) :
    Calls Tryz.prog 21 #[.pointer (some ⟨d, 0, none⟩), .int .i64 N] w fun e w' => ∃ r : Int, e = .returned (.int .i64 r) ∧ 0 ≤ r ∧ r < N ∧ w.grownBy w' (some d) ∧ ∃ i' h', Dice w' d ao n cap i' h' := by
  have c0 : w.cell? ⟨d, 0, none⟩ = some (.slice ao n cap) := cell_of_row w d 0 _ _ _ hd
  have c1 : w.cell? ⟨d, 1, none⟩ = some (.int .i64 i) := cell_of_row w d 1 _ _ _ hd
  have c2 : w.cell? ⟨d, 2, none⟩ = some (.int .u64 h) := cell_of_row w d 2 _ _ _ hd
  have hf := fun j => frozen_of_row w d j _ _ hd
  have D1 : ∀ v, Dice (w.setCell ⟨d, 2, none⟩ (.int .u64 v)) d ao n cap i v := fun v => heap_setCell_same w d 2 _ _ (.int .u64 v) hd
  go_enter Tryz.func21, Tryz.ntmps21
  go_wp2_with fail
  generalize IntKind.u64.wrap (IntKind.u64.wrap (h * 6364136223846793005) + 1442695040888963407) = H
  have hX := u64_and24 (H / 8589934592)
  generalize bits BinOp.and IntKind.u64 (H / 8589934592) 16777215 = Y at hX ⊢
  have hY : wrap64 Y = Y := by
    unfold wrap64
    omega
  rw [hY]
  have D1 := D1 H
  have g1 := grown_set w d 2 (.int .u64 H)
  clear c0 c1 c2 hf
  generalize hW : w.setCell ⟨d, 2, none⟩ (.int .u64 H) = W at D1 g1 ⊢
  clear hW hd
  have c0 : W.cell? ⟨d, 0, none⟩ = some (.slice ao n cap) := cell_of_row W d 0 _ _ _ D1
  have c1 : W.cell? ⟨d, 1, none⟩ = some (.int .i64 i) := cell_of_row W d 1 _ _ _ D1
  have c2 : W.cell? ⟨d, 2, none⟩ = some (.int .u64 H) := cell_of_row W d 2 _ _ _ D1
  have hf := fun j => frozen_of_row W d j _ _ D1
  go_region_held3 (fun u => u.cell? ⟨d, 0, none⟩ = some (.slice ao n cap) ∧ u.cell? ⟨d, 1, none⟩ = some (.int .i64 i) ∧ u.cell? ⟨d, 2, none⟩ = some (.int .u64 H)) (go_keep) (fail)
  by_cases hin : i < n
  · obtain ⟨b, off, rfl, hb⟩ := hbr i hin
    obtain ⟨x, hx, hx0, hx1⟩ := hb i hin
    have hdd := hdb (by omega) b rfl
    have hx := g1.cell hx (by simpa using hdd)
    have hiI : (i : Int) < n := by omega
    have D2 : Hid (Dice (W.setCell ⟨d, 1, none⟩ (.int .i64 ((i + 1 : Nat) : Int))) d (some ⟨b, off, none⟩) n cap (i + 1) H) := heap_setCell_same W d 1 _ _ (.int .i64 ((i + 1 : Nat) : Int)) D1
    clear hb hbr
    go_wp2_with fail
    go_region_held3 (fun u => u.cell? ⟨d, 0, none⟩ = some (.slice (some ⟨b, off, none⟩) n cap) ∧ u.cell? ⟨d, 1, none⟩ = some (.int .i64 i) ∧ u.cell? ⟨d, 2, none⟩ = some (.int .u64 H) ∧ u.cell? ⟨b, off + i, none⟩ = some (.int .u8 x)) (go_keep) (fail)
    go_wp2_with fail
    go_ret
    exact ⟨_, rfl, Int.emod_nonneg _ (by omega), Int.emod_lt_of_pos _ (by omega), grown_trans g1 (grown_trans (grown_set W d 1 _) (grown_trans (Fr.drew _).wide (Fr.drew _).wide)), i + 1, H, ((D2.out).fr (Fr.drew _)).fr (Fr.drew _)⟩
  · go_wp2_with fail
    go_ret
    exact ⟨_, rfl, Int.emod_nonneg _ (by omega), Int.emod_lt_of_pos _ (by omega), grown_trans g1 (Fr.drew _).wide, i, H, D1.fr (Fr.drew _)⟩
end Go.Proofs.YtcofhmikdkkigaaGreatDoor
namespace Go.Proofs.YtcofhmikdkkigaaGreatDoor
open Go.RowKit

structure DX (w u : World) (d : Nat) (ao : Option Addr) (n cap : Nat) : Prop where
  g : w.grownBy u (some d)
  dice : ∃ i h, Dice u d ao n cap i h
  row : ByteRow u ao n
  ap : 0 < n → ∀ k, blk ao = some k → k ≠ d
theorem DX.fr {w u u' : World} {d n cap : Nat} {ao : Option Addr} (h : DX w u d ao n cap) (k : Fr u u') : DX w u' d ao n cap := by
  obtain ⟨i, x, hd⟩ := h.dice
  exact ⟨grown_trans h.g k.wide, ⟨i, x, hd.fr k⟩, fun j hj => by
    obtain ⟨b, off, e, hb⟩ := h.row j hj
    exact ⟨b, off, e, fun q hq => by
      obtain ⟨v, hv, h0, h1⟩ := hb q hq
      exact ⟨v, k.cell hv, h0, h1⟩⟩, h.ap⟩
theorem DX.beyond {w u u' : World} {d n cap A E : Nat} {ao : Option Addr} (h : DX w u d ao n cap) (k : u.grownBy u' (some A)) (hA : d < A ∧ A < E ∧ A = w.heap.size) (hb : 0 < n → ∀ q, blk ao = some q → q < w.heap.size) : DX w u' d ao n cap := by
  obtain ⟨i, x, hd⟩ := h.dice
  have e1 : w.grownBy u' (some d) := ⟨k.os.trans h.g.os, k.tape.trans h.g.tape, k.output.trans h.g.output, Nat.le_trans h.g.size k.size, fun j hj hn => (k.block j (Nat.lt_of_lt_of_le hj h.g.size) (fun e => by cases e; omega)).trans (h.g.block j hj hn)⟩
  refine ⟨e1, ⟨i, x, (k.block d hd.lt (fun e => by cases e; omega)).trans hd⟩, fun j hj => ?_, h.ap⟩
  obtain ⟨b, off, e, hr⟩ := h.row j hj
  exact ⟨b, off, e, fun q hq => by
    obtain ⟨v, hv, h0, h1⟩ := hr q hq
    exact ⟨v, k.cell hv (by have := hb (by omega) b (by rw [e]; rfl); simp; omega), h0, h1⟩⟩
theorem belowX {w u : World} {d n cap : Nat} {ao : Option Addr} (h : DX w u d ao n cap) (hn : n ≤ 4096) (N : Int) (hN : 1 ≤ N) (hN2 : N ≤ 1000000) :
    Calls Tryz.prog 21 #[.pointer (some ⟨d, 0, none⟩), .int .i64 N] u fun e u' => ∃ r : Int, e = .returned (.int .i64 r) ∧ 0 ≤ r ∧ r < N ∧ u.grownBy u' (some d) ∧ DX w u' d ao n cap := by
  obtain ⟨i, x, hd⟩ := h.dice
  refine (below_any d ao n cap i x N u hd hn h.row h.ap hN hN2).mono ?_
  rintro e u' ⟨r, e1, r0, r1, g, D⟩
  refine ⟨r, e1, r0, r1, g, grown_trans h.g g, D, fun j hj => ?_, h.ap⟩
  obtain ⟨b, off, e, hb⟩ := h.row j hj
  exact ⟨b, off, e, fun q hq => by
    obtain ⟨v, hv, h0, h1⟩ := hb q hq
    exact ⟨v, g.cell hv (by have := h.ap (by omega) b (by rw [e]; rfl); simpa using this), h0, h1⟩⟩
theorem bytes_below {w : World} {ao : Option Addr} {n : Nat} (h : ByteRow w ao n) : 0 < n → ∀ q, blk ao = some q → q < w.heap.size := fun hn q hq => by
  obtain ⟨b, off, e, hc⟩ := h 0 hn
  obtain ⟨x, q1, -⟩ := hc 0 hn
  have := World.block_lt_of_cell? w _ q1
  rw [e] at hq
  simp only [blk, Option.map_some, Option.some.injEq] at hq
  simp only at this
  omega
theorem roll_dx {w u : World} {ao : Option Addr} {n cap d : Nat} {hh : Int} (h : ByteRow w ao n) (D : Dice u d ao n cap 0 hh) (hd : w.heap.size ≤ d) (f : Fr w u) : DX u u d ao n cap := by
  refine ⟨grown_refl u _, ⟨0, hh, D⟩, fun i hi => ?_, fun q k hk => ?_⟩
  · obtain ⟨b, off, e, hc⟩ := h i hi
    exact ⟨b, off, e, fun j hj => by obtain ⟨x, q1, q2⟩ := hc j hj; exact ⟨x, f.cell q1, q2⟩⟩
  · have := bytes_below h q k hk
    omega
theorem DX.past {w u u' : World} {d n cap : Nat} {ao : Option Addr} {row : Option Nat} (h : DX w u d ao n cap) (k : u.grownBy u' row) (hr : ∀ j, row = some j → w.heap.size ≤ j) (hd : d < w.heap.size) (hb : 0 < n → ∀ q, blk ao = some q → q < w.heap.size) : DX w u' d ao n cap := by
  obtain ⟨i, x, hD⟩ := h.dice
  refine ⟨grown_then h.g k (fun j e => .inl (hr j e)), ⟨i, x, (k.block d hD.lt (fun e => by have := hr d e.symm; omega)).trans hD⟩, fun j hj => ?_, h.ap⟩
  obtain ⟨b, off, e, hx⟩ := h.row j hj
  exact ⟨b, off, e, fun q hq => by
    obtain ⟨v, hv, h0, h1⟩ := hx q hq
    exact ⟨v, k.cell hv (by intro e2; have := hr b e2.symm; have := hb (by omega) b (by rw [e]; rfl); omega), h0, h1⟩⟩
end Go.Proofs.YtcofhmikdkkigaaGreatDoor
namespace Go.Proofs.YtcofhmikdkkigaaGreatDoor
open Go.RowKit

structure DS (w0 : World) (g r b : Nat) (e : Ev) (wr : World) : Prop where
  cur : Cur wr g
  gro : w0.grownBy wr (some g)
  ev : EvB wr b e
  res : EvB wr r ⟨0, 0, 0, 0, 0, 0, 0, 0⟩
  gl : g < w0.heap.size
  rl : w0.heap.size ≤ r
  bl : r < b

theorem DS.draw {w0 wr w' : World} {g r b : Nat} {e : Ev} (h : DS w0 g r b e wr) (c : Cur w' g) (k : wr.grownBy w' (some g)) : DS w0 g r b e w' := by
  obtain ⟨h1, h2, h3, h4, h5, h6, h7⟩ := h
  exact ⟨c, grown_trans h2 k, h3.keep k (by simp; omega), h4.keep k (by simp; omega), h5, h6, h7⟩
theorem DS.fr {w0 wr w' : World} {g r b : Nat} {e : Ev} (h : DS w0 g r b e wr) (k : Fr wr w') : DS w0 g r b e w' := by
  obtain ⟨h1, h2, h3, h4, h5, h6, h7⟩ := h
  exact ⟨h1.fr k, grown_trans h2 k.wide, h3.keep k (by simp), h4.keep k (by simp), h5, h6, h7⟩
theorem DS.wrote {w0 wr w' : World} {g r b : Nat} {e e' : Ev} (h : DS w0 g r b e wr) (k : wr.grownBy w' (some b)) (hb : EvB w' b e') : DS w0 g r b e' w' := by
  obtain ⟨h1, h2, h3, h4, h5, h6, h7⟩ := h
  exact ⟨h1.other k (by intro j hj; simp only [Option.some.injEq] at hj; omega), grown_then h2 k (by intro j hj; simp only [Option.some.injEq] at hj; omega), hb, h4.keep k (by simp; omega), h5, h6, h7⟩
theorem DS.setK {w0 wr : World} {g r b : Nat} {k gr o wi l sz f t : Int} (h : DS w0 g r b ⟨k, gr, o, wi, l, sz, f, t⟩ wr) (x : Int) : DS w0 g r b ⟨x, gr, o, wi, l, sz, f, t⟩ (wr.setCell ⟨b, 0, none⟩ (.int .i64 x)) :=
  h.wrote (grown_set wr b 0 _) (h.ev.setK x)
theorem DS.setG {w0 wr : World} {g r b : Nat} {k gr o wi l sz f t : Int} (h : DS w0 g r b ⟨k, gr, o, wi, l, sz, f, t⟩ wr) (x : Int) : DS w0 g r b ⟨k, x, o, wi, l, sz, f, t⟩ (wr.setCell ⟨b, 1, none⟩ (.int .i64 x)) :=
  h.wrote (grown_set wr b 1 _) (h.ev.setG x)
theorem DS.setO {w0 wr : World} {g r b : Nat} {k gr o wi l sz f t : Int} (h : DS w0 g r b ⟨k, gr, o, wi, l, sz, f, t⟩ wr) (x : Int) : DS w0 g r b ⟨k, gr, x, wi, l, sz, f, t⟩ (wr.setCell ⟨b, 2, none⟩ (.int .i64 x)) :=
  h.wrote (grown_set wr b 2 _) (h.ev.setO x)
theorem DS.setW {w0 wr : World} {g r b : Nat} {k gr o wi l sz f t : Int} (h : DS w0 g r b ⟨k, gr, o, wi, l, sz, f, t⟩ wr) (x : Int) : DS w0 g r b ⟨k, gr, o, x, l, sz, f, t⟩ (wr.setCell ⟨b, 3, none⟩ (.int .i64 x)) :=
  h.wrote (grown_set wr b 3 _) (h.ev.setW x)
theorem DS.setL {w0 wr : World} {g r b : Nat} {k gr o wi l sz f t : Int} (h : DS w0 g r b ⟨k, gr, o, wi, l, sz, f, t⟩ wr) (x : Int) : DS w0 g r b ⟨k, gr, o, wi, x, sz, f, t⟩ (wr.setCell ⟨b, 4, none⟩ (.int .i64 x)) :=
  h.wrote (grown_set wr b 4 _) (h.ev.setL x)
theorem DS.setS {w0 wr : World} {g r b : Nat} {k gr o wi l sz f t : Int} (h : DS w0 g r b ⟨k, gr, o, wi, l, sz, f, t⟩ wr) (x : Int) : DS w0 g r b ⟨k, gr, o, wi, l, x, f, t⟩ (wr.setCell ⟨b, 5, none⟩ (.int .i64 x)) :=
  h.wrote (grown_set wr b 5 _) (h.ev.setS x)
theorem DS.setF {w0 wr : World} {g r b : Nat} {k gr o wi l sz f t : Int} (h : DS w0 g r b ⟨k, gr, o, wi, l, sz, f, t⟩ wr) (x : Int) : DS w0 g r b ⟨k, gr, o, wi, l, sz, x, t⟩ (wr.setCell ⟨b, 6, none⟩ (.int .i64 x)) :=
  h.wrote (grown_set wr b 6 _) (h.ev.setF x)
theorem DS.setT {w0 wr : World} {g r b : Nat} {k gr o wi l sz f t : Int} (h : DS w0 g r b ⟨k, gr, o, wi, l, sz, f, t⟩ wr) (x : Int) : DS w0 g r b ⟨k, gr, o, wi, l, sz, f, x⟩ (wr.setCell ⟨b, 7, none⟩ (.int .i64 x)) :=
  h.wrote (grown_set wr b 7 _) (h.ev.setT x)

theorem put8 (w : World) (r : Nat) (v0 v1 v2 v3 v4 v5 v6 v7 : Value) :
    w.grownBy ((((((((w.setCell ⟨r, 0, none⟩ v0).setCell ⟨r, 1, none⟩ v1).setCell ⟨r, 2, none⟩ v2).setCell ⟨r, 3, none⟩ v3).setCell ⟨r, 4, none⟩ v4).setCell ⟨r, 5, none⟩ v5).setCell ⟨r, 6, none⟩ v6).setCell ⟨r, 7, none⟩ v7) (some r) :=
  grown_trans (grown_trans (grown_trans (grown_trans (grown_trans (grown_trans (grown_trans (grown_set _ r 0 _) (grown_set _ r 1 _)) (grown_set _ r 2 _)) (grown_set _ r 3 _)) (grown_set _ r 4 _)) (grown_set _ r 5 _)) (grown_set _ r 6 _)) (grown_set _ r 7 _)

end Go.Proofs.YtcofhmikdkkigaaGreatDoor
namespace Go.Proofs.YtcofhmikdkkigaaGreatDoor
open Go.RowKit

end Go.Proofs.YtcofhmikdkkigaaGreatDoor
namespace Go.Proofs.YtcofhmikdkkigaaGreatDoor
open Go.RowKit

theorem ownS_empty (w : World) : OwnS (w.alloc (.cells #[] 2)) w.heap.size (.slice (some ⟨w.heap.size, 0, none⟩) 0 0) [] :=
  ⟨w.heap.size, 0, rfl, ⟨by simp, .inr ⟨w.heap.size, 0, #[], rfl, Nat.le_refl _, heap_alloc_new w _, Nat.le_refl _, by unfold maxLen; omega, rfl, by simp⟩⟩, by simp, by simp⟩

set_option maxHeartbeats 400000 in
theorem l1Copy_any (ao : Option Addr) (n c : Nat) (xs : List Int) (w : World) (hn : xs.length = n) (hc : ao = none → c = 0) (h : Reads w ao xs) :
    Calls Tryz.prog 164 #[.slice ao n c] w fun e w' => ∃ v, e = .returned v ∧ OwnS w' w.heap.size v xs ∧ Fr w w' := by
  have ho := ownS_empty w
  have f0 := Fr.alloc w (.cells #[] 2)
  have hr := h.fr f0
  have hl := h.len
  go_enter Tryz.func164, Tryz.ntmps164
  go_wp2_with (at_builtin; refine appI2 _ rfl _ _ rfl w.heap.size _ [] xs rfl ho _ _ _ rfl hn hc hr (by simpa using hl) (by simp) ?_; intro v1 w1 hv1 hg1 hat1)
  go_wp2_with fail
  go_ret
  exact ⟨v1, rfl, hv1, f0.then hg1 (fun j hj => by cases hj; exact Nat.le_refl _)⟩
end Go.Proofs.YtcofhmikdkkigaaGreatDoor
namespace Go.Proofs.YtcofhmikdkkigaaGreatDoor
open Go.RowKit

theorem op_append_new {α : Type} (L : Lay α) {o : Oper} {a : Act} {w : World} {K : Act → World → Prop} {Q : Exit → Act → World → Prop} (s x : Operand) (T : TypeId) (z : Value) (bytes : Nat)
    (ho : o.op = .call { callee := .builtin .append, args := #[s, x], argTypes := #[T, T] })
    (hT : Tryz.prog.underlying T = some (.slice L.ty)) (hI : (Tryz.prog.info? L.ty).map (fun i => (i.zero, i.size, i.bytes)) = some (some z, L.sz, bytes)) (hzs : z.cells.size = L.sz) (hby : bytes ≤ 1000)
    (base k : Nat) (hk : base ≤ k) (hrow : w.heap[k]? = some (.cells #[] L.ty (0, 0))) (hs : a.eval s = .slice (some ⟨k, 0, none⟩) 0 0)
    (ao : Option Addr) (n c : Nat) (ys : List α) (hn : n = ys.length) (hx : a.eval x = .slice ao n c) (hr : ReadsG L w ao ys) (hbase : base ≤ w.heap.size)
    (h : ∀ v' w', OwnG L w' base v' ys → Fr w w' → K (a.put o.dst v') w') : o.wp Tryz.prog a w K Q := by
  obtain ⟨i0, hi, hz0, hz1, hz2⟩ := info_parts hI
  subst hn
  have hl := hr.len
  have hb : (0 + ys.length) * bytes ≤ 140737488355328 := by
    have := Nat.mul_le_mul (show 0 + ys.length ≤ 16777216 by omega) hby
    omega
  have hown : w.ownsRow base L.ty L.sz (.slice (some ⟨k, 0, none⟩) 0 0) 0 [] := ⟨by simp, .inr ⟨k, 0, #[], rfl, hk, hrow, Nat.le_refl _, by unfold maxLen; omega, by simp, by simp⟩⟩
  by_cases hys : ys = []
  · subst hys
    cases ao with
    | none =>
      have hrun : (Builtin.append_ #[T, T] o.type #[.slice (some ⟨k, 0, none⟩) 0 0, .slice none 0 c]).run Tryz.prog w = .ok (.slice (some ⟨k, 0, none⟩) 0 0) w := by
        simp [Builtin.append_, run_underlying hT, sizeOf, typeInfo, hi, Builtin.lenOf, Builtin.firstCells, storeCells]
      unfold Oper.wp
      simp only [List.length_nil] at hx
      simp [execOp, ho, resolve, invoke, builtin, hs, hx, hrun, Result.andThen]
      exact h _ _ ⟨k, 0, rfl, hown, by simp⟩ (Fr.refl _)
    | some ad =>
      have hrun := run_append_room_cells (P := Tryz.prog) w T o.type L.ty i0 hT hi k 0 0 0 ad 0 c [] (by simp) (by simp) (by simp) (Nat.le_refl _) (by simp) (by simp)
      have e0 : ∀ j, w.setCells k j [] = w := fun j => rfl
      unfold Oper.wp
      simp only [List.length_nil] at hx
      simp [execOp, ho, resolve, invoke, builtin, hs, hx, hrun, Result.andThen]
      rw [e0]
      exact h _ _ ⟨k, 0, rfl, hown, by simp⟩ (Fr.refl _)
  · have hpos : 0 < ys.length := List.length_pos_iff.2 hys
    obtain ⟨b, off, rfl, -⟩ := hr.at_ 0 hpos
    obtain ⟨v', w', hrun, r1, r2⟩ := run_append_arg_grows (P := Tryz.prog) w T o.type L.ty i0 z L.sz bytes hT hi hz0 hz1 hz2 hzs L.pos ⟨k, 0, none⟩ 0 0 [] (by simp) (by simp) ⟨b, off, none⟩ ys.length c (ys.flatMap L.cs) (flatG_len L _) (news_of_reads hr) (by omega) (by unfold maxLen; omega) hb
    have hK := h v' w' (by
      rw [Nat.zero_add, List.nil_append] at r1
      rcases r1.2 with ⟨_, e⟩ | ⟨g', cap', cur, e', hg, r⟩
      · omega
      · subst e'
        exact ⟨g', cap', rfl, ⟨r1.1, .inr ⟨g', cap', cur, rfl, by omega, r⟩⟩, hl⟩) r2
    unfold Oper.wp
    simp [execOp, ho, resolve, invoke, builtin, hs, hx, hrun, Result.andThen]
    exact hK
theorem appGN {α : Type} (L : Lay α) (w : World) {ops : Array Oper} {rest : List Oper} {o : Oper} {a : Act} {Q : Exit → Act → World → Prop} (hgd : o.guard = none) (s x : Operand) (T : TypeId) (z : Value) (bytes : Nat)
    (ho : o.op = .call { callee := .builtin .append, args := #[s, x], argTypes := #[T, T] })
    (hT : Tryz.prog.underlying T = some (.slice L.ty)) (hI : (Tryz.prog.info? L.ty).map (fun i => (i.zero, i.size, i.bytes)) = some (some z, L.sz, bytes)) (hzs : z.cells.size = L.sz) (hby : bytes ≤ 1000)
    (base : Nat) (v : Value) (xs : List α) (e : α) (hs : a.eval s = v) (hown : w.ownsRow base L.ty L.sz v xs.length (xs.flatMap L.cs))
    (b : Nat) (c : Nat) (hx : a.eval x = .slice (some ⟨b, 0, none⟩) 1 c) (hnew : ∀ k, k < L.sz → w.cell? ⟨b, k, none⟩ = (L.cs e)[k]?)
    (hlen : xs.length ≤ 16777215) (hbase : base ≤ w.heap.size)
    (h : ∀ g' cap' w', w'.ownsRow base L.ty L.sz (.slice (some ⟨g', 0, none⟩) (xs ++ [e]).length cap') (xs ++ [e]).length ((xs ++ [e]).flatMap L.cs) → w.grownBy w' v.ownBlock → (some g' = v.ownBlock ∨ g' = w.heap.size) → wpList Tryz.prog ops Q rest (a.put o.dst (.slice (some ⟨g', 0, none⟩) (xs ++ [e]).length cap')) w') : wpList Tryz.prog ops Q (o :: rest) a w := by
  obtain ⟨i0, hi, hz0, hz1, hz2⟩ := info_parts hI
  have hb : (xs.length + 1) * bytes ≤ 140737488355328 := by
    have := Nat.mul_le_mul (show xs.length + 1 ≤ 16777216 by omega) hby
    omega
  refine wpList_append_own_at w hgd s x T ho base L.ty i0 z L.sz bytes hT hi hz0 hz1 hz2 hzs L.pos _ _ _ hs hown ⟨b, 0, none⟩ 1 c (L.cs e) hx (by rw [L.len, Nat.one_mul]) ?_ (L.one e) (by unfold maxLen; omega) hb hbase ?_
  · intro j u hu
    rw [Addr.add_lit]
    have hj : j < L.sz := by
      have := (List.getElem?_eq_some_iff.1 hu).1
      rwa [L.len] at this
    rw [Nat.zero_add, hnew j hj, hu]
  · intro v' w' hv hg hnz hat
    rcases hv.2 with ⟨e', _⟩ | ⟨g', cap', cur, e', r⟩
    · have := (hnz.1 e').2
      simp at this
    · subst e'
      have hl : (xs ++ [e]).length = xs.length + 1 := by simp
      refine cast (by rw [hl]) (h g' cap' w' (by rw [hl]; simpa [List.flatMap_append] using hv) hg (by simpa [Value.ownBlock] using hat))
theorem newL3 {w : World} {b : Nat} {l : Lv} (h : w.heap[b]? = some (.cells #[.int .i64 l.o, .int .i64 l.wr, .slice l.ro l.rn l.rc] 86 (0, 0))) : ∀ k, k < layL.sz → w.cell? ⟨b, k, none⟩ = (layL.cs l)[k]? := by
  intro k hk
  rw [cell_of_row w b k _ _ _ h]
  exact List.getElem?_toArray
theorem rows_neC {w : World} {a b : Nat} {c d : Array Value} {s t : TypeId} (h : w.heap[a]? = some (.cells c s (0, 0))) (h' : w.heap[b]? = some (.cells d t (0, 0))) (hne : s ≠ t) : a ≠ b := by
  intro e
  subst e
  rw [h] at h'
  simp only [Option.some.injEq, Obj.cells.injEq] at h'
  exact hne h'.2.1
theorem own_frG {w w' : World} {base e size n : Nat} {v : Value} {xs : List Value} (h : w.ownsRow base e size v n xs) (f : Fr w w') : w'.ownsRow base e size v n xs := by
  refine h.kept f ?_
  cases hq : v.ownBlock with
  | none => exact .inl rfl
  | some j => exact .inr (by simp)
theorem own_readsN {α : Type} {L : Lay α} {w : World} {base c : Nat} {lo : Option Addr} {xs : List α} (h : w.ownsRow base L.ty L.sz (.slice lo xs.length c) xs.length (xs.flatMap L.cs)) (hl : xs.length ≤ 16777216) : ReadsG L w lo xs := by
  rcases h.2 with ⟨e, h0⟩ | ⟨g, cap, cur, e, r⟩
  · have : xs = [] := List.eq_nil_of_length_eq_zero h0
    subst this
    exact ReadsG.nil _ _ _
  · simp only [Value.slice.injEq] at e
    obtain ⟨rfl, -, -⟩ := e
    exact own_readsG h hl
theorem own_rowC {w : World} {base e size g n cap : Nat} {xs : List Value} (h : w.ownsRow base e size (.slice (some ⟨g, 0, none⟩) n cap) n xs) : ∃ cur, w.heap[g]? = some (.cells cur e (0, 0)) := by
  rcases h.2 with ⟨q, _⟩ | ⟨g', c', cur, q, _, hg, _⟩
  · simp at q
  · simp only [Value.slice.injEq, Option.some.injEq, Addr.mk.injEq, and_true] at q
    obtain ⟨rfl, -⟩ := q
    exact ⟨cur, hg⟩
end Go.Proofs.YtcofhmikdkkigaaGreatDoor
namespace Go.Proofs.YtcofhmikdkkigaaGreatDoor
open Go.RowKit

set_option maxHeartbeats 400000 in
theorem like_any (ao bo : Option Addr) (n m c d : Nat) (xs ys : List Int) (w : World) (hn : xs.length = n) (hm : ys.length = m) (h : Reads w ao xs) (h' : Reads w bo ys) :
    Calls Tryz.prog 64 #[.slice ao n c, .slice bo m d] w fun e w' => e = .returned (.bool (decide (xs = ys))) ∧ ∃ nq, w' = w.drewN nq := by
  subst hn hm
  have hl := h.len
  by_cases hne : xs.length = ys.length
  · have hb : ((xs.length : Int) != (ys.length : Int)) = false := by simp [hne]
    have HNE : Hid (xs.length = ys.length) := hne
    clear hne
    go_enter Tryz.func64, Tryz.ntmps64
    go_wp2
    go_loopw [5] (fun i wr => ∃ k : Nat, k ≤ xs.length ∧ i = .int .i64 k ∧ Hid (xs.take k = ys.take k) ∧ ∃ nq, wr = w.drewN nq) (fun i _ => xs.length - (intOf i).toNat)
    case atStart => exact ⟨0, Nat.zero_le _, rfl, rfl, 0, rfl⟩
    case round =>
      obtain ⟨k, hk, rfl, HT, nq, rfl⟩ := hrel
      by_cases hlt : k < xs.length
      · have hlt' : k < ys.length := by have := HNE.out; omega
        obtain ⟨b, off, rfl, hc⟩ := h.at_ k hlt
        obtain ⟨b', off', rfl, hc'⟩ := h'.at_ k hlt'
        have hck := hc k hlt
        have hck' := hc' k hlt'
        rw [getD_at hlt] at hck
        rw [getD_at hlt'] at hck'
        clear hc hc' hb
        go_wp2
        go_quiet (fail)
        go_wp2
        · have hq : (xs[k] != ys[k]) = true := by assumption
          go_ret
          refine ⟨?_, _, drew2 _ _ _⟩
          rw [ne_of_at hlt hlt' (by simpa using hq)]
          rfl
        · have hq : (xs[k] != ys[k]) = false := by assumption
          go_roundw
          case rel => exact ⟨k + 1, by omega, by go_num, eq_step HNE.out hlt HT.out (by simpa using hq), _, rfl⟩
          case measure => simp [intOf]; omega
      · go_wp2
        go_ret
        refine ⟨?_, nq, rfl⟩
        have e : xs = ys := by
          have h1 := HT.out
          have h2 := HNE.out
          rwa [List.take_of_length_le (by omega), List.take_of_length_le (by omega)] at h1
        have : decide (xs = ys) = true := by simpa using e
        rw [this]
        rfl
  · have hb : ((xs.length : Int) != (ys.length : Int)) = true := by simp; omega
    go_enter Tryz.func64, Tryz.ntmps64
    go_wp2
    go_ret
    refine ⟨?_, 0, rfl⟩
    have : decide (xs = ys) = false := by simp only [decide_eq_false_iff_not]; intro e; exact hne (by rw [e])
    rw [this]
    rfl
end Go.Proofs.YtcofhmikdkkigaaGreatDoor
