/-
  Dice over bytes, turned.
-/
import Derived.Test.YtpmloeneffolpaaScDice
namespace Go.Proofs.Ytpmloeneffolpaa
open Go.RowKit

/-- A dice over bytes, in a world behind w where but the dice is turned. -/
structure DX (w u : World) (d : Nat) (ao : Option Addr) (n cap : Nat) : Prop where
  g : w.grownBy u (some d)
  dice : ∃ i h, Dice u d ao n cap i h
  row : ByteRow u ao n
  ap : 0 < n → ∀ k, blk ao = some k → k ≠ d
theorem DX.fr {w u u' : World} {d n cap : Nat} {ao : Option Addr} (h : DX w u d ao n cap) (k : Fr u u') : DX w u' d ao n cap := by
  obtain ⟨i, x, hd⟩ := h.dice
  exact ⟨grown_trans h.g k.wide, ⟨i, x, hd.fr k⟩, fun j hj => by
    obtain ⟨b, off, e, hb⟩ := h.row j hj
    exact ⟨b, off, e, fun q hq => by
      obtain ⟨v, hv, h0, h1⟩ := hb q hq
      exact ⟨v, k.cell hv, h0, h1⟩⟩, h.ap⟩
theorem DX.beyond {w u u' : World} {d n cap A E : Nat} {ao : Option Addr} (h : DX w u d ao n cap) (k : u.grownBy u' (some A)) (hA : d < A ∧ A < E ∧ A = w.heap.size) (hb : 0 < n → ∀ q, blk ao = some q → q < w.heap.size) : DX w u' d ao n cap := by
  obtain ⟨i, x, hd⟩ := h.dice
  have e1 : w.grownBy u' (some d) := ⟨k.os.trans h.g.os, k.tape.trans h.g.tape, k.output.trans h.g.output, Nat.le_trans h.g.size k.size, fun j hj hn => (k.block j (Nat.lt_of_lt_of_le hj h.g.size) (fun e => by cases e; omega)).trans (h.g.block j hj hn)⟩
  refine ⟨e1, ⟨i, x, (k.block d hd.lt (fun e => by cases e; omega)).trans hd⟩, fun j hj => ?_, h.ap⟩
  obtain ⟨b, off, e, hr⟩ := h.row j hj
  exact ⟨b, off, e, fun q hq => by
    obtain ⟨v, hv, h0, h1⟩ := hr q hq
    exact ⟨v, k.cell hv (by have := hb (by omega) b (by rw [e]; rfl); simp; omega), h0, h1⟩⟩
theorem belowX {w u : World} {d n cap : Nat} {ao : Option Addr} (h : DX w u d ao n cap) (hn : n ≤ 4096) (N : Int) (hN : 1 ≤ N) (hN2 : N ≤ 1000000) :
    Calls Try.prog 18 #[.pointer (some ⟨d, 0, none⟩), .int .i64 N] u fun e u' => ∃ r : Int, e = .returned (.int .i64 r) ∧ 0 ≤ r ∧ r < N ∧ u.grownBy u' (some d) ∧ DX w u' d ao n cap := by
  obtain ⟨i, x, hd⟩ := h.dice
  refine (below_any d ao n cap i x N u hd hn h.row h.ap hN hN2).mono ?_
  rintro e u' ⟨r, e1, r0, r1, g, D⟩
  refine ⟨r, e1, r0, r1, g, grown_trans h.g g, D, fun j hj => ?_, h.ap⟩
  obtain ⟨b, off, e, hb⟩ := h.row j hj
  exact ⟨b, off, e, fun q hq => by
    obtain ⟨v, hv, h0, h1⟩ := hb q hq
    exact ⟨v, g.cell hv (by have := h.ap (by omega) b (by rw [e]; rfl); simpa using this), h0, h1⟩⟩
theorem bytes_below {w : World} {ao : Option Addr} {n : Nat} (h : ByteRow w ao n) : 0 < n → ∀ q, blk ao = some q → q < w.heap.size := fun hn q hq => by
  obtain ⟨b, off, e, hc⟩ := h 0 hn
  obtain ⟨x, q1, -⟩ := hc 0 hn
  have := World.block_lt_of_cell? w _ q1
  rw [e] at hq
  simp only [blk, Option.map_some, Option.some.injEq] at hq
  simp only at this
  omega
theorem roll_dx {w u : World} {ao : Option Addr} {n cap d : Nat} {hh : Int} (h : ByteRow w ao n) (D : Dice u d ao n cap 0 hh) (hd : w.heap.size ≤ d) (f : Fr w u) : DX u u d ao n cap := by
  refine ⟨grown_refl u _, ⟨0, hh, D⟩, fun i hi => ?_, fun q k hk => ?_⟩
  · obtain ⟨b, off, e, hc⟩ := h i hi
    exact ⟨b, off, e, fun j hj => by obtain ⟨x, q1, q2⟩ := hc j hj; exact ⟨x, f.cell q1, q2⟩⟩
  · have := bytes_below h q k hk
    omega
/-- Writes into what is newer leave it. -/
theorem DX.past {w u u' : World} {d n cap : Nat} {ao : Option Addr} {row : Option Nat} (h : DX w u d ao n cap) (k : u.grownBy u' row) (hr : ∀ j, row = some j → w.heap.size ≤ j) (hd : d < w.heap.size) (hb : 0 < n → ∀ q, blk ao = some q → q < w.heap.size) : DX w u' d ao n cap := by
  obtain ⟨i, x, hD⟩ := h.dice
  refine ⟨grown_then h.g k (fun j e => .inl (hr j e)), ⟨i, x, (k.block d hD.lt (fun e => by have := hr d e.symm; omega)).trans hD⟩, fun j hj => ?_, h.ap⟩
  obtain ⟨b, off, e, hx⟩ := h.row j hj
  exact ⟨b, off, e, fun q hq => by
    obtain ⟨v, hv, h0, h1⟩ := hx q hq
    exact ⟨v, k.cell hv (by intro e2; have := hr b e2.symm; have := hb (by omega) b (by rw [e]; rfl); omega), h0, h1⟩⟩
end Go.Proofs.Ytpmloeneffolpaa
