/-
  The laws' likePairs and hasPair.
-/
import Derived.Test.YtcofhmikdkkigaaGreatDoorPsB
import Derived.BigQuiet
namespace Go.Proofs.YtcofhmikdkkigaaGreatDoor
open Go.RowKit

set_option maxRecDepth 20000 in
set_option maxHeartbeats 2000000 in
theorem likePrs_same (ao bo : Option Addr) (n c d : Nat) (ps : List (Int × Int)) (w : World) (hn : ps.length = n) (h : ReadsG layPr w ao ps) (h' : ReadsG layPr w bo ps) :
    Calls Tryz.prog 24 #[.slice ao n c, .slice bo n d] w fun e w' => e = .returned (.bool true) ∧ Fr w w' := by
  subst hn
  have hl := h.len
  go_enter Tryz.func24, Tryz.ntmps24
  go_wp2_with fail
  go_loopw [5] (fun i wr => ∃ k : Nat, k ≤ ps.length ∧ i = .int .i64 k ∧ Fr w wr) (fun i _ => ps.length - (intOf i).toNat)
  case atStart => exact ⟨0, Nat.zero_le _, rfl, Fr.refl _⟩
  case round =>
    obtain ⟨k, hk, rfl, hf⟩ := hrel
    by_cases hlt : k < ps.length
    · obtain ⟨b, off, rfl, c0, c1⟩ := prC (h.fr hf) hlt
      obtain ⟨b', off', rfl, d0, d1⟩ := prC (h'.fr hf) hlt
      obtain ⟨x, hx⟩ : ∃ e, e = ps[k].1 := ⟨_, rfl⟩
      obtain ⟨y, hy⟩ : ∃ e, e = ps[k].2 := ⟨_, rfl⟩
      rw [← hx] at c0 d0
      rw [← hy] at c1 d1
      clear hx hy
      have p0 := fun n : Nat => (Fr.drewN wr n).cell c0
      have p1 := fun n : Nat => (Fr.drewN wr n).cell c1
      have r0 := fun n : Nat => (Fr.drewN wr n).cell d0
      have r1 := fun n : Nat => (Fr.drewN wr n).cell d1
      have HF : Hid (Fr w wr) := hf
      clear c0 c1 d0 d1
      go_wp2_with fail
      go_quiet (fail)
      go_wp2_with fail
      go_roundw
      case rel => exact ⟨k + 1, by omega, by go_num, HF.out.trans (Fr.drewN _ _)⟩
      case measure => simp [intOf]; omega
    · go_wp2_with fail
      go_ret
      exact ⟨rfl, hf⟩

theorem hasP_take2 {ps : List (Int × Int)} {i j : Int} {k : Nat} (hk : k < ps.length) : hasP (ps.take (k + 1)) i j = (hasP (ps.take k) i j || (ps[k].1 == i && ps[k].2 == j)) := by
  unfold hasP
  rw [List.take_succ_eq_append_getElem hk, List.any_append]
  simp

set_option maxRecDepth 20000 in
set_option maxHeartbeats 1000000 in
theorem hasPair_any (ao : Option Addr) (n c : Nat) (ps : List (Int × Int)) (i j : Int) (w : World) (hn : ps.length = n) (h : ReadsG layPr w ao ps) :
    Calls Tryz.prog 30 #[.slice ao n c, .agg #[.int .i64 i, .int .i64 j]] w fun e w' => e = .returned (.bool (hasP ps i j)) ∧ Fr w w' := by
  subst hn
  have hl := h.len
  obtain ⟨B, HB0⟩ : ∃ B, Hid (B = hasP ps i j) := ⟨_, rfl⟩
  rw [← HB0.out]
  have f0 := Fr.alloc w (.cells #[.int .i64 i, .int .i64 j] 51)
  have k0 := heap_alloc_new w (.cells #[.int .i64 i, .int .i64 j] 51)
  go_enter Tryz.func30, Tryz.ntmps30
  go_wp2_with fail
  obtain ⟨U, hU⟩ : ∃ U, U = w.alloc (.cells #[.int .i64 i, .int .i64 j] 51) := ⟨_, rfl⟩
  rw [← hU] at f0 k0 ⊢
  clear hU
  have HB : Hid (∀ u, Fr U u → u.cell? ⟨w.heap.size, 0, none⟩ = some (.int .i64 i) ∧ u.cell? ⟨w.heap.size, 1, none⟩ = some (.int .i64 j)) := fun u f => ⟨f.cell (by rw [cell_of_row _ _ _ _ _ _ k0]; rfl), f.cell (by rw [cell_of_row _ _ _ _ _ _ k0]; rfl)⟩
  have h := h.fr f0
  clear k0
  go_loopw [5] (fun i1 wr => ∃ k : Nat, k ≤ ps.length ∧ i1 = .int .i64 k ∧ Fr U wr ∧ Hid (hasP (ps.take k) i j = false)) (fun i1 _ => ps.length - (intOf i1).toNat)
  case atStart => exact ⟨0, Nat.zero_le _, rfl, Fr.refl _, rfl⟩
  case round =>
    obtain ⟨k, hk, rfl, hf, HN⟩ := hrel
    by_cases hlt : k < ps.length
    · obtain ⟨b, off, rfl, c0, c1⟩ := prC (h.fr hf) hlt
      have hst := hasP_take2 (i := i) (j := j) hlt
      have HS : Hid (hasP (ps.take (k + 1)) i j = (ps[k].1 == i && ps[k].2 == j)) := by rw [HN.out, Bool.false_or] at hst; exact hst
      have HM : Hid (ps[k].1 = i → ps[k].2 = j → hasP ps i j = true) := fun e1 e2 => by
        rw [hasP_iff]
        have := List.getElem_mem hlt
        have e : ps[k] = (i, j) := Prod.ext e1 e2
        rw [e] at this
        exact this
      obtain ⟨x, hx⟩ : ∃ e, e = ps[k].1 := ⟨_, rfl⟩
      obtain ⟨y, hy⟩ : ∃ e, e = ps[k].2 := ⟨_, rfl⟩
      rw [← hx] at c0 HS HM
      rw [← hy] at c1 HS HM
      obtain ⟨b0, b1⟩ := HB.out _ hf
      clear hx hy hst
      have p0 := fun n : Nat => (Fr.drewN wr n).cell c0
      have p1 := fun n : Nat => (Fr.drewN wr n).cell c1
      have r0 := fun n : Nat => (Fr.drewN wr n).cell b0
      have r1 := fun n : Nat => (Fr.drewN wr n).cell b1
      have HF : Hid (Fr U wr) := hf
      clear b0 b1 c0 c1
      by_cases hxe : x = i
      · by_cases hye : y = j
        · have HY : Hid (hasP ps i j = true) := HM.out hxe hye
          have hBt : B = true := by rw [HB0.out, HY.out]
          subst hBt
          clear HS HM HN
          go_wp2_with fail
          go_quiet (fail)
          go_wp2_with fail
          go_ret
          exact ⟨rfl, f0.trans (HF.out.trans (Fr.drewN _ _))⟩
        · have HE : Hid (hasP (ps.take (k + 1)) i j = false) := by
            show hasP (ps.take (k + 1)) i j = false
            rw [HS.out]; simp [hye]
          clear HS HM HN
          go_wp2_with fail
          go_quiet (fail)
          go_wp2_with fail
          go_roundw
          case rel => exact ⟨k + 1, by omega, by go_num, hf.trans (Fr.drewN _ _), HE⟩
          case measure => simp [intOf]; omega
      · have HE : Hid (hasP (ps.take (k + 1)) i j = false) := by
          show hasP (ps.take (k + 1)) i j = false
          rw [HS.out]; simp [hxe]
        clear HS HM HN
        by_cases hye : y = j
        · skip
          go_wp2_with fail
          go_quiet (fail)
          go_wp2_with fail
          go_roundw
          case rel => exact ⟨k + 1, by omega, by go_num, hf.trans (Fr.drewN _ _), HE⟩
          case measure => simp [intOf]; omega
        · skip
          go_wp2_with fail
          go_quiet (fail)
          go_wp2_with fail
          go_roundw
          case rel => exact ⟨k + 1, by omega, by go_num, hf.trans (Fr.drewN _ _), HE⟩
          case measure => simp [intOf]; omega
    · have hBf : B = false := by
        have := HN.out
        rw [List.take_of_length_le (by omega)] at this
        rw [HB0.out, this]
      subst hBf
      go_wp2_with fail
      go_ret
      exact ⟨rfl, f0.trans hf⟩
end Go.Proofs.YtcofhmikdkkigaaGreatDoor
