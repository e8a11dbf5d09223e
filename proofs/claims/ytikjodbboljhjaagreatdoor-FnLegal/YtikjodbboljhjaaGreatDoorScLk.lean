/-
  Is a lock right: l4Lock.
-/
import Derived.Test.YtikjodbboljhjaaGreatDoorScOk
import Derived.Deep.QuietTactic
namespace Go.Proofs.YtikjodbboljhjaaGreatDoor
open Go.RowKit

/-- Is the reader at the place j a goroutine that there is, and more than the one ahead of it? -/
def rdAt (g : Int) (xs : List Int) (j : Nat) : Bool := inB 0 (g - 1) (xs.getD j 0) && (decide (j = 0) || decide (xs.getD (j - 1) 0 < xs.getD j 0))
def rdB (g : Int) (xs : List Int) : Bool := (List.range xs.length).all (rdAt g xs)
theorem rdB_yes {g : Int} {xs : List Int} (h : ∀ j, j < xs.length → rdAt g xs j = true) : rdB g xs = true := by
  rw [rdB, List.all_eq_true]
  intro j hj
  exact h j (List.mem_range.1 hj)
theorem rdB_no {g : Int} {xs : List Int} {j : Nat} (hj : j < xs.length) (h : rdAt g xs j = false) : rdB g xs = false := by
  rw [rdB, Bool.eq_false_iff]
  intro e
  rw [List.all_eq_true] at e
  have := e j (List.mem_range.2 hj)
  rw [h] at this
  cases this
def lkB (g : Int) (l : Lk) : Bool := rdB g l.rd && (inB 0 15 l.o && (inB (-1) (g - 1) l.wr && !(decide (0 ≤ l.wr) == decide (0 < l.rd.length))))

set_option maxHeartbeats 1600000 in
theorem l4Lock_any {B : Nat → Prop} (g : Int) (lv : Lv) (l : Lk) (w : World) (g0 : 1 ≤ g) (g1 : g ≤ 16) (h : LkR B w lv l) :
    Calls Tryz.prog 49 #[.int .i64 g, .agg #[.int .i64 lv.o, .int .i64 lv.wr, .slice lv.ro lv.rn lv.rc]] w fun e w' => e = .returned (.bool (lkB g l)) ∧ Fr w w' := by
  have hr := h.rd
  have hsz := h.sz
  have e1 := h.o
  have e2 := h.wr
  have e3 := h.rn
  clear h
  obtain ⟨o, wt, xs⟩ := l
  obtain ⟨o', wt', ro, rn, rc⟩ := lv
  simp only at hr hsz e1 e2 e3 ⊢
  subst e1 e2 e3
  have hrr := hr.fr (Fr.alloc w (.cells #[.int .i64 o', .int .i64 wt', .slice ro xs.length rc] 47))
  have c2 := (lvB_new w ⟨o', wt', ro, xs.length, rc⟩).2.2
  simp only at c2
  unfold lkB
  simp only
  obtain ⟨W, hW⟩ : ∃ W, W = w.alloc (.cells #[.int .i64 o', .int .i64 wt', .slice ro xs.length rc] 47) := ⟨_, rfl⟩
  have c0 : W.cell? ⟨w.heap.size, 0, none⟩ = some (.int .i64 o') := by rw [hW]; exact (lvB_new w ⟨o', wt', ro, xs.length, rc⟩).1
  have c1 : W.cell? ⟨w.heap.size, 1, none⟩ = some (.int .i64 wt') := by rw [hW]; exact (lvB_new w ⟨o', wt', ro, xs.length, rc⟩).2.1
  have fW : Fr w W := by rw [hW]; exact Fr.alloc _ _
  rw [← hW] at c2 hrr
  clear hr
  go_enter Tryz.func49, Tryz.ntmps49
  go_wp2_with fail
  rw [← hW]
  obtain ⟨b0, hb0⟩ : ∃ b0, b0 = w.heap.size := ⟨_, rfl⟩
  rw [← hb0] at c0 c1 c2 ⊢
  clear hW hb0
  go_loopw [5] (fun i wr => ∃ k : Nat, k ≤ xs.length ∧ i = .int .i64 k ∧ Hid (∀ j, j < k → rdAt g xs j = true) ∧ wr.cell? ⟨b0, 0, none⟩ = some (.int .i64 o') ∧ wr.cell? ⟨b0, 1, none⟩ = some (.int .i64 wt') ∧ wr.cell? ⟨b0, 2, none⟩ = some (.slice ro xs.length rc) ∧ Reads wr ro xs ∧ Fr w wr) (fun i _ => xs.length - (intOf i).toNat)
  case atStart => exact ⟨0, Nat.zero_le _, rfl, fun j hj => by omega, c0, c1, c2, hrr, fW⟩
  case round =>
    clear c0 c1 c2 hrr fW
    obtain ⟨k, hk, rfl, HA, c0, c1, c2, hrr, fW⟩ := hrel
    by_cases hlt : k < xs.length
    · obtain ⟨b, off, rfl, hc⟩ := hrr.at_ k hlt
      have hck := hc k hlt
      obtain ⟨z, hz⟩ : ∃ z, z = xs.getD k 0 := ⟨_, rfl⟩
      rw [← hz] at hck
      have cI := fun w => l1In_any z 0 (IntKind.i64.wrap (g - 1)) w
      have cJ := fun w => l1In_any z 0 (g - 1) w
      have hwr : IntKind.i64.wrap (g - 1) = g - 1 := by rw [IntKind.wrap_i64]; omega
      cases h1 : inB 0 (g - 1) z
      · have h1' : inB 0 (IntKind.i64.wrap (g - 1)) z = false := by rw [hwr]; exact h1
        simp only [h1'] at cI
        simp only [h1] at cJ
        clear h1' hwr
        have HF : Hid (rdB g xs = false) := rdB_no hlt (by rw [rdAt, ← hz, h1, Bool.false_and])
        clear h1 hz hc
        go_wp2_with fail
        go_quiet ((go_at_call 48; first | with_reducible exact Calls.quiet_of_same (cI _) | with_reducible exact Calls.quiet_of_same (cJ _)))
        go_wp2_with fail
        go_ret
        exact ⟨ret_bool (by rw [HF.out]; rfl), fW.trans (Fr.drewN _ _)⟩
      · have h1' : inB 0 (IntKind.i64.wrap (g - 1)) z = true := by rw [hwr]; exact h1
        simp only [h1'] at cI
        simp only [h1] at cJ
        clear h1' hwr
        cases k with
        | zero =>
          have HT : Hid (rdAt g xs 0 = true) := by
            show rdAt g xs 0 = true
            rw [rdAt, ← hz, h1]; rfl
          clear h1 hz hc
          simp only [Nat.add_zero] at hck
          go_wp2_with fail
          have hd : decide ((0 : Int) < 0) = false := by decide
          go_quiet ((go_at_call 48; first | with_reducible exact Calls.quiet_of_same (cI _) | with_reducible exact Calls.quiet_of_same (cJ _)))
          go_wp2_with fail
          go_roundw
          case rel => exact ⟨1, by omega, by go_num, fun j hj => by rw [show j = 0 by omega]; exact HT.out, c0, c1, c2, hrr.fr (Fr.drewN _ _), fW.trans (Fr.drewN _ _)⟩
          case measure => simp [intOf]; omega
        | succ k =>
          have hcp := hc k (by omega)
          obtain ⟨y, hy⟩ : ∃ y, y = xs.getD k 0 := ⟨_, rfl⟩
          rw [← hy] at hcp
          have hwk : IntKind.i64.wrap (((k + 1 : Nat) : Int) - 1) = (k : Int) := by rw [IntKind.wrap_i64]; omega
          by_cases hle : z ≤ y
          · have HF : Hid (rdB g xs = false) := rdB_no hlt (by
              have : decide (y < z) = false := decide_eq_false (by omega)
              rw [rdAt, ← hz, h1, Nat.add_sub_cancel, ← hy, this]; simp)
            clear h1 hz hc hy
            go_wp2_with fail
            go_quiet ((go_at_call 48; first | with_reducible exact Calls.quiet_of_same (cI _) | with_reducible exact Calls.quiet_of_same (cJ _)))
            go_wp2_with fail
            go_ret
            exact ⟨ret_bool (by rw [HF.out]; rfl), fW.trans (Fr.drewN _ _)⟩
          · have HT : Hid (rdAt g xs (k + 1) = true) := by
              show rdAt g xs (k + 1) = true
              have : decide (y < z) = true := decide_eq_true (by omega)
              rw [rdAt, ← hz, h1, Nat.add_sub_cancel, ← hy, this]; simp
            clear h1 hz hc hy
            have hle' : y < z := by omega
            go_wp2_with fail
            go_quiet ((go_at_call 48; first | with_reducible exact Calls.quiet_of_same (cI _) | with_reducible exact Calls.quiet_of_same (cJ _)))
            go_wp2_with fail
            go_roundw
            case rel =>
              refine ⟨k + 2, by omega, by go_num, fun j hj => ?_, c0, c1, c2, hrr.fr (Fr.drewN _ _), fW.trans (Fr.drewN _ _)⟩
              by_cases e : j = k + 1
              · rw [e]; exact HT.out
              · exact HA.out j (by omega)
            case measure => simp [intOf]; omega
    · have HT : Hid (rdB g xs = true) := rdB_yes (fun j hj => HA.out j (by omega))
      clear HA
      have hwr : IntKind.i64.wrap (g - 1) = g - 1 := by rw [IntKind.wrap_i64]; omega
      cases h1 : inB 0 15 o'
      · go_wp2_with (first | (go_at_call 51; refine (l4Obj_any _ _).mono ?_; rintro e w' ⟨rfl, rfl⟩) | (go_at_call 48; refine (l1In_any _ _ _ _).mono ?_; rintro e w' ⟨rfl, rfl⟩))
        go_ret
        exact ⟨ret_bool (by rw [HT.out, h1]; rfl), fW⟩
      cases h2 : inB (-1) (g - 1) wt'
      · go_wp2_with (first | (go_at_call 51; refine (l4Obj_any _ _).mono ?_; rintro e w' ⟨rfl, rfl⟩) | (go_at_call 48; refine (l1In_any _ _ _ _).mono ?_; rintro e w' ⟨rfl, rfl⟩))
        go_ret
        exact ⟨ret_bool (by rw [HT.out, h1, h2]; rfl), fW⟩
      by_cases h3 : 0 ≤ wt'
      · by_cases h4 : 0 < xs.length
        · go_wp2_with (first | (go_at_call 51; refine (l4Obj_any _ _).mono ?_; rintro e w' ⟨rfl, rfl⟩) | (go_at_call 48; refine (l1In_any _ _ _ _).mono ?_; rintro e w' ⟨rfl, rfl⟩))
          go_ret
          exact ⟨ret_bool (by have d3 : decide (0 ≤ wt') = true := decide_eq_true (by omega); have d4 : decide (0 < xs.length) = true := decide_eq_true (by omega); simp only [HT.out, h1, h2, d3, d4]; rfl), fW⟩
        · go_wp2_with (first | (go_at_call 51; refine (l4Obj_any _ _).mono ?_; rintro e w' ⟨rfl, rfl⟩) | (go_at_call 48; refine (l1In_any _ _ _ _).mono ?_; rintro e w' ⟨rfl, rfl⟩))
          go_ret
          exact ⟨ret_bool (by have d3 : decide (0 ≤ wt') = true := decide_eq_true (by omega); have d4 : decide (0 < xs.length) = false := decide_eq_false (by omega); simp only [HT.out, h1, h2, d3, d4]; rfl), fW⟩
      · by_cases h4 : 0 < xs.length
        · go_wp2_with (first | (go_at_call 51; refine (l4Obj_any _ _).mono ?_; rintro e w' ⟨rfl, rfl⟩) | (go_at_call 48; refine (l1In_any _ _ _ _).mono ?_; rintro e w' ⟨rfl, rfl⟩))
          go_ret
          exact ⟨ret_bool (by have d3 : decide (0 ≤ wt') = false := decide_eq_false (by omega); have d4 : decide (0 < xs.length) = true := decide_eq_true (by omega); simp only [HT.out, h1, h2, d3, d4]; rfl), fW⟩
        · go_wp2_with (first | (go_at_call 51; refine (l4Obj_any _ _).mono ?_; rintro e w' ⟨rfl, rfl⟩) | (go_at_call 48; refine (l1In_any _ _ _ _).mono ?_; rintro e w' ⟨rfl, rfl⟩))
          go_ret
          exact ⟨ret_bool (by have d3 : decide (0 ≤ wt') = false := decide_eq_false (by omega); have d4 : decide (0 < xs.length) = false := decide_eq_false (by omega); simp only [HT.out, h1, h2, d3, d4]; rfl), fW⟩
end Go.Proofs.YtikjodbboljhjaaGreatDoor
