/-
  A cursor over the bytes of a code: l1New; and the laws' test 'big'.
-/
import Derived.Test.YtpmloeneffolpaaDraw
namespace Go.Proofs.Ytpmloeneffolpaa
open Go.RowKit

theorem row_some {g : Nat} {P : Nat → Prop} (h : P g) : ∀ j, some g = some j → P j := by
  intro j e
  simp only [Option.some.injEq] at e
  subst e
  exact h

/-- n bytes lie at the address ao. -/
def ByteRow (w : World) (ao : Option Addr) (n : Nat) : Prop :=
  ∀ i, i < n → ∃ b off, ao = some ⟨b, off, none⟩ ∧ ∀ j, j < n → ∃ x : Int, w.cell? ⟨b, off + j, none⟩ = some (.int .u8 x) ∧ 0 ≤ x ∧ x ≤ 255

theorem bytes_of_row {w : World} {a : Option Addr} {len cap : Nat} {zs : List Int}
    (h : (a = none ∧ len = 0 ∧ cap = 0 ∧ zs = []) ∨ ∃ x, a = some x ∧ len ≤ cap ∧ cap ≤ maxLen ∧ zs.length = cap ∧ (∀ i, i < zs.length → w.cell? (x.add i) = some (.int .u8 (zs.getD i 0))) ∧ ∀ n ∈ zs, (Lit.int .u8 n).wf = true) :
    ByteRow w a len := by
  rcases h with ⟨rfl, rfl, rfl, rfl⟩ | ⟨x, rfl, h1, h2, h3, h4, h5⟩
  · intro i hi; omega
  · intro i hi
    obtain ⟨b, off, spot⟩ := x
    have hc := h4 0 (by omega)
    have hspot : spot = none := by
      have := World.cell?_spot hc
      simpa [Addr.add] using this
    subst hspot
    refine ⟨b, off, rfl, fun j hj => ?_⟩
    have hj' : j < zs.length := by omega
    have := h4 j hj'
    rw [Addr.add_lit] at this
    have hb := bounds_u8 (h5 _ (List.getElem_mem hj'))
    rw [getD_at hj'] at this
    exact ⟨zs[j], this, by omega, by omega⟩

theorem ByteRow.fr {w w' : World} {ao : Option Addr} {n : Nat} (h : ByteRow w ao n) (k : Fr w w') : ByteRow w' ao n := by
  intro i hi
  obtain ⟨b, off, e, hc⟩ := h i hi
  refine ⟨b, off, e, fun j hj => ?_⟩
  obtain ⟨x, hx, r⟩ := hc j hj
  exact ⟨x, k.cell hx, r⟩

theorem cur_new {w : World} {ao : Option Addr} {n cap : Nat} (h : ByteRow w ao n) (hn : n ≤ 4294967296) (hv : Int) :
    Cur (w.alloc (.cells #[.slice ao n cap, .int .i64 0, .int .i64 hv] 60)) w.heap.size := by
  refine ⟨ao, n, cap, 0, hv, heap_alloc_new w _, Nat.zero_le _, hn, fun i hi => ?_⟩
  obtain ⟨b, off, e, hc⟩ := h i hi
  obtain ⟨x, hx, _⟩ := hc i hi
  refine ⟨b, off, e, World.block_lt_of_cell? w _ hx, fun j hj => ?_⟩
  obtain ⟨x, hx, r⟩ := hc j hj
  exact ⟨x, (Fr.alloc w _).cell hx, r⟩

theorem and30_in (n : Int) : 0 ≤ bits .and .i64 n 1073741823 ∧ bits .and .i64 n 1073741823 ≤ 1073741823 := by rw [i64_and30]; omega

set_option maxHeartbeats 400000 in
theorem l1New_any (ao : Option Addr) (n cap : Nat) (w : World) (h : ByteRow w ao n) (hn : n ≤ 4294967296) :
    Calls Try.prog 26 #[.slice ao n cap] w fun e w' => e = .returned (.pointer (some ⟨w.heap.size, 0, none⟩)) ∧ Cur w' w.heap.size ∧ Fr w w' := by
  go_enter Try.func26, Try.ntmps26
  go_wp2_with fail
  go_loop [3, 4] (fun hh i => ∃ k : Nat, ∃ hv : Int, k ≤ n ∧ i = .int .i64 k ∧ hh = .int .i64 hv ∧ 0 ≤ hv ∧ hv ≤ 8589934592) (fun _ i => n - (intOf i).toNat)
  case atStart => exact ⟨0, 161803 + (n : Int), Nat.zero_le _, rfl, rfl, by omega, by omega⟩
  case round =>
    obtain ⟨k, hv, hk, rfl, rfl, b0, b1⟩ := hrel
    by_cases hlt : k < n
    · obtain ⟨b, off, rfl, hc⟩ := h k hlt
      obtain ⟨x, hx, x0, x1⟩ := hc k hlt
      clear hc
      go_wp2_with fail
      go_round
      case rel => exact ⟨k + 1, _, by omega, by go_num, rfl, (and30_in _).1, by have := (and30_in (hv * 199 + x + 11)).2; omega⟩
      case measure => simp [intOf]; omega
    · go_wp2_with fail
      go_ret
      exact ⟨rfl, cur_new h hn hv, Fr.alloc _ _⟩

theorem big_any (ao : Option Addr) (n cap : Nat) (w : World) (_hn : n ≤ 9223372036854775807) :
    Calls Try.prog 8 #[.slice ao n cap] w fun e w' => e = .returned (.bool (decide (4096 < (n : Int)))) ∧ w' = w := by
  go_enter Try.func8, Try.ntmps8
  go_wp2
  go_ret
  exact ⟨rfl, rfl⟩
end Go.Proofs.Ytpmloeneffolpaa
