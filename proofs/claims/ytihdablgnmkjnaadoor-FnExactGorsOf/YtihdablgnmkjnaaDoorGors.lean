/-
  GorsOf, the specification's and the program's.
-/
import Derived.Test.YtihdablgnmkjnaaDoorEvSpec
import Derived.Test.YtihdablgnmkjnaaDoorEvTo
import Derived.Test.YtihdablgnmkjnaaDoorEvOk
import Derived.Test.YtihdablgnmkjnaaDoorIntsApp
import Derived.Deep.RegionHeld3
namespace Go.Proofs.YtihdablgnmkjnaaDoor
open Go.RowKit

/-- The goroutines that an event is of. -/
def gorsL (e : Ev) : List Int := if evOk e = true then (if e.k ≠ 9 ∨ e.w = e.g then [e.g] else [min e.g e.w, max e.g e.w]) else []
theorem gors_len (e : Ev) : (gorsL e).length ≤ 2 := by
  unfold gorsL
  split
  · split <;> simp
  · simp
theorem evOk_gw {e : Ev} (h : evOk e = true) : (0 ≤ e.g ∧ e.g ≤ 15) ∧ (e.k = 9 → 0 ≤ e.w ∧ e.w ≤ 15) := by
  simp only [evOk, Bool.and_eq_true] at h
  obtain ⟨⟨⟨⟨⟨⟨⟨h1, h2⟩, h3⟩, h4⟩, h5⟩, h6⟩, h7⟩, h8⟩ := h
  refine ⟨by simpa [inB] using h2, fun hk => ?_⟩
  have e1 : hasB e.k 2 = true := by rw [hk]; decide
  simp only [ev2, e1, fitB, if_true] at h4
  simpa [inB] using h4

theorem EvAt.keepG {w w' : World} {b : Nat} {e : Ev} {row : Option Nat} (h : EvAt w b e) (k : w.grownBy w' row) (hr : some b ≠ row) : EvAt w' b e := by
  obtain ⟨c0, c1, c2, c3, c4, c5, c6, c7⟩ := h
  exact ⟨k.cell c0 hr, k.cell c1 hr, k.cell c2 hr, k.cell c3 hr, k.cell c4 hr, k.cell c5 hr, k.cell c6 hr, k.cell c7 hr⟩
/-- A new list of numbers. -/
theorem ownI_lit (w : World) (xs : List Int) (hl : xs.length ≤ 1000) (hx : ∀ x ∈ xs, I64 x) (o : Obj) (ho : o = .cells (xs.map (Value.int .i64)).toArray 2 (0, 0)) : OwnI (w.alloc o) w.heap.size (.slice (some ⟨w.heap.size, 0, none⟩) xs.length xs.length) xs := by
  subst ho
  refine ⟨⟨by simp, .inr ⟨w.heap.size, xs.length, (xs.map (Value.int .i64)).toArray, rfl, Nat.le_refl _, heap_alloc_new w _, Nat.le_refl _, by unfold maxLen; omega, by simp, by simp [List.take_of_length_le]⟩⟩, by omega, hx⟩

theorem retG_int {x y : Int} (h : x = y) : Ending.returned (.int .i64 x) = .returned (.int .i64 y) := by rw [h]
set_option maxHeartbeats 400000 in
theorem l1MinG (a b : Int) (w : World) :
    Calls Tryd.prog 11 #[.int .i64 a, .int .i64 b] w fun e w' => e = .returned (.int .i64 (min a b)) ∧ w' = w := by
  by_cases h : a < b
  · go_enter Tryd.func11, Tryd.ntmps11
    go_wp2
    go_ret
    exact ⟨retG_int (by omega), rfl⟩
  · go_enter Tryd.func11, Tryd.ntmps11
    go_wp2
    go_ret
    exact ⟨retG_int (by omega), rfl⟩
set_option maxHeartbeats 400000 in
theorem l1MaxG (a b : Int) (w : World) :
    Calls Tryd.prog 12 #[.int .i64 a, .int .i64 b] w fun e w' => e = .returned (.int .i64 (max a b)) ∧ w' = w := by
  by_cases h : b < a
  · go_enter Tryd.func12, Tryd.ntmps12
    go_wp2
    go_ret
    exact ⟨retG_int (by omega), rfl⟩
  · go_enter Tryd.func12, Tryd.ntmps12
    go_wp2
    go_ret
    exact ⟨retG_int (by omega), rfl⟩

set_option maxHeartbeats 6000000 in
theorem implGors_any (e : Ev) (w : World) (hs : Shapes w) :
    Calls Tryd.prog 6 #[.agg #[.int .i64 e.k, .int .i64 e.g, .int .i64 e.o, .int .i64 e.w, .int .i64 e.l, .int .i64 e.s, .int .i64 e.f, .int .i64 e.t]] w fun x w' => ∃ g, x = .returned (.slice (some ⟨g, 0, none⟩) (gorsL e).length (gorsL e).length) ∧ OwnI w' w.heap.size (.slice (some ⟨g, 0, none⟩) (gorsL e).length (gorsL e).length) (gorsL e) ∧ Fr w w' := by
  have fW := Fr.alloc w (.cells #[.int .i64 e.k, .int .i64 e.g, .int .i64 e.o, .int .i64 e.w, .int .i64 e.l, .int .i64 e.s, .int .i64 e.f, .int .i64 e.t] 26)
  have kE := EvAt.new w e 26
  have cO := fun u (f : Fr w u) => implOk_any e u (hs.fr f)
  have hg := fun q => evOk_gw (e := e) q
  unfold gorsL
  cases hE : evOk e
  · simp only [hE] at cO
    simp only [Bool.false_eq_true, if_false, List.length_nil]
    clear hg
    obtain ⟨k, gr, o, wi, l, sz, f, t⟩ := e
    simp only at fW kE cO ⊢
    go_enter Tryd.func6, Tryd.ntmps6
    go_wp2_with fail
    refine (cO _ fW).mono ?_
    rintro x u1 ⟨rfl, f1⟩
    have fA := Fr.alloc u1 (.cells #[] 2)
    go_wp2_with fail
    go_ret
    exact ⟨_, rfl, OwnI.lower (ownI_lit u1 [] (by simp) (by simp) _ rfl) (by have := fW.size; have := f1.size; omega), (fW.trans f1).trans fA⟩
  · simp only [hE] at cO
    have hg := hg hE
    simp only [if_true]
    by_cases h9 : e.k ≠ 9
    · rw [if_pos (.inl h9)]
      simp only [List.length_cons, List.length_nil]
      obtain ⟨k, gr, o, wi, l, sz, f, t⟩ := e
      simp only at fW kE cO hg h9 ⊢
      have hb : (k != 9) = true := by simpa using h9
      go_enter Tryd.func6, Tryd.ntmps6
      go_wp2_with fail
      refine (cO _ fW).mono ?_
      rintro x u1 ⟨rfl, f1⟩
      obtain ⟨c0, c1, c2, c3, c4, c5, c6, c7⟩ := kE.fr f1
      have fA := Fr.alloc u1 (.cells #[.int .i64 gr] 2)
      go_wp2_with fail
      go_ret
      exact ⟨_, rfl, OwnI.lower (ownI_lit u1 [gr] (by simp) (by simp [I64]; omega) _ rfl) (by have := fW.size; have := f1.size; omega), (fW.trans f1).trans fA⟩
    · have h9 : e.k = 9 := by omega
      have hb : (e.k != 9) = false := by simp [h9]
      have hg2 := hg.2 h9
      have hg := hg.1
      by_cases hw : e.w = e.g
      · rw [if_pos (.inr hw)]
        simp only [List.length_cons, List.length_nil]
        obtain ⟨k, gr, o, wi, l, sz, f, t⟩ := e
        simp only at fW kE cO hg hb hg2 hw h9 ⊢
        have hwb : (wi == gr) = true := by simp [hw]
        clear hw h9
        go_enter Tryd.func6, Tryd.ntmps6
        go_wp2_with fail
        refine (cO _ fW).mono ?_
        rintro x u1 ⟨rfl, f1⟩
        obtain ⟨c0, c1, c2, c3, c4, c5, c6, c7⟩ := kE.fr f1
        have fA := Fr.alloc u1 (.cells #[.int .i64 gr] 2)
        go_wp2_with fail
        go_ret
        exact ⟨_, rfl, OwnI.lower (ownI_lit u1 [gr] (by simp) (by simp [I64]; omega) _ rfl) (by have := fW.size; have := f1.size; omega), (fW.trans f1).trans fA⟩
      · rw [if_neg (by omega)]
        simp only [List.length_cons, List.length_nil]
        obtain ⟨k, gr, o, wi, l, sz, f, t⟩ := e
        simp only at fW kE cO hg hb hg2 hw h9 ⊢
        have hwb : (wi == gr) = false := by simpa using hw
        clear h9
        rcases Int.lt_or_gt_of_ne hw with hlt | hlt
        · have m1 : min gr wi = wi := by omega
          have m2 : max gr wi = gr := by omega
          have hn : ¬ gr ≤ wi := by omega
          rw [m1, m2]
          go_enter Tryd.func6, Tryd.ntmps6
          go_wp2_with fail
          refine (cO _ fW).mono ?_
          rintro x u1 ⟨rfl, f1⟩
          obtain ⟨c0, c1, c2, c3, c4, c5, c6, c7⟩ := kE.fr f1
          have fA := Fr.alloc u1 (.cells #[.int .i64 wi, .int .i64 gr] 2)
          go_wp2_with fail
          go_ret
          exact ⟨_, rfl, OwnI.lower (ownI_lit u1 [wi, gr] (by simp) (by simp [I64]; omega) _ rfl) (by have := fW.size; have := f1.size; omega), (fW.trans f1).trans fA⟩
        · have m1 : min gr wi = gr := by omega
          have m2 : max gr wi = wi := by omega
          rw [m1, m2]
          go_enter Tryd.func6, Tryd.ntmps6
          go_wp2_with fail
          refine (cO _ fW).mono ?_
          rintro x u1 ⟨rfl, f1⟩
          obtain ⟨c0, c1, c2, c3, c4, c5, c6, c7⟩ := kE.fr f1
          have fA := Fr.alloc u1 (.cells #[.int .i64 gr, .int .i64 wi] 2)
          go_wp2_with fail
          go_ret
          exact ⟨_, rfl, OwnI.lower (ownI_lit u1 [gr, wi] (by simp) (by simp [I64]; omega) _ rfl) (by have := fW.size; have := f1.size; omega), (fW.trans f1).trans fA⟩

set_option maxHeartbeats 6000000 in
theorem specGors_any (e : Ev) (w : World) :
    Calls Tryd.prog 4 #[.agg #[.int .i64 e.k, .int .i64 e.g, .int .i64 e.o, .int .i64 e.w, .int .i64 e.l, .int .i64 e.s, .int .i64 e.f, .int .i64 e.t]] w fun x w' => ∃ g, x = .returned (.slice (some ⟨g, 0, none⟩) (gorsL e).length (gorsL e).length) ∧ OwnI w' w.heap.size (.slice (some ⟨g, 0, none⟩) (gorsL e).length (gorsL e).length) (gorsL e) ∧ Fr w w' := by
  have fW := Fr.alloc w (.cells #[.int .i64 e.k, .int .i64 e.g, .int .i64 e.o, .int .i64 e.w, .int .i64 e.l, .int .i64 e.s, .int .i64 e.f, .int .i64 e.t] 26)
  have kE := EvAt.new w e 26
  have cO := fun u => specOk_any e u
  have hg := fun q => evOk_gw (e := e) q
  unfold gorsL
  cases hE : evOk e
  · simp only [hE] at cO
    simp only [Bool.false_eq_true, if_false, List.length_nil]
    clear hg
    obtain ⟨k, gr, o, wi, l, sz, f, t⟩ := e
    simp only at fW kE cO ⊢
    go_enter Tryd.func4, Tryd.ntmps4
    go_wp2_with fail
    refine (cO _).mono ?_
    rintro x u1 ⟨rfl, f1⟩
    have fA := Fr.alloc u1 (.cells #[] 2)
    go_wp2_with fail
    go_ret
    exact ⟨_, rfl, OwnI.lower (ownI_lit u1 [] (by simp) (by simp) _ rfl) (by have := fW.size; have := f1.size; omega), (fW.trans f1).trans fA⟩
  · simp only [hE] at cO
    have hg := hg hE
    simp only [if_true]
    by_cases h9 : e.k ≠ 9
    · rw [if_pos (.inl h9)]
      simp only [List.length_cons, List.length_nil]
      obtain ⟨k, gr, o, wi, l, sz, f, t⟩ := e
      simp only at fW kE cO hg h9 ⊢
      have hb : (k != 9) = true := by simpa using h9
      go_enter Tryd.func4, Tryd.ntmps4
      go_wp2_with fail
      refine (cO _).mono ?_
      rintro x u1 ⟨rfl, f1⟩
      obtain ⟨c0, c1, c2, c3, c4, c5, c6, c7⟩ := kE.fr f1
      have fA := Fr.alloc u1 (.cells #[.int .i64 gr] 2)
      go_wp2_with fail
      go_ret
      exact ⟨_, rfl, OwnI.lower (ownI_lit u1 [gr] (by simp) (by simp [I64]; omega) _ rfl) (by have := fW.size; have := f1.size; omega), (fW.trans f1).trans fA⟩
    · have h9 : e.k = 9 := by omega
      have hb : (e.k != 9) = false := by simp [h9]
      have hg2 := hg.2 h9
      have hg := hg.1
      by_cases hw : e.w = e.g
      · rw [if_pos (.inr hw)]
        simp only [List.length_cons, List.length_nil]
        obtain ⟨k, gr, o, wi, l, sz, f, t⟩ := e
        simp only at fW kE cO hg hb hg2 hw h9 ⊢
        have hwb : (wi == gr) = true := by simp [hw]
        clear hw h9
        go_enter Tryd.func4, Tryd.ntmps4
        go_wp2_with fail
        refine (cO _).mono ?_
        rintro x u1 ⟨rfl, f1⟩
        obtain ⟨c0, c1, c2, c3, c4, c5, c6, c7⟩ := kE.fr f1
        have fA := Fr.alloc u1 (.cells #[.int .i64 gr] 2)
        go_wp2_with fail
        go_ret
        exact ⟨_, rfl, OwnI.lower (ownI_lit u1 [gr] (by simp) (by simp [I64]; omega) _ rfl) (by have := fW.size; have := f1.size; omega), (fW.trans f1).trans fA⟩
      · rw [if_neg (by omega)]
        simp only [List.length_cons, List.length_nil]
        obtain ⟨k, gr, o, wi, l, sz, f, t⟩ := e
        simp only at fW kE cO hg hb hg2 hw h9 ⊢
        have hwb : (wi == gr) = false := by simpa using hw
        have cm := fun u => l1MinG gr wi u
        have cM := fun u => l1MaxG gr wi u
        obtain ⟨a, ha⟩ : ∃ a, a = min gr wi := ⟨_, rfl⟩
        obtain ⟨b, hb2⟩ : ∃ b, b = max gr wi := ⟨_, rfl⟩
        have ba : I64 a ∧ I64 b := by simp only [I64]; omega
        simp only [← ha, ← hb2] at cm cM ⊢
        clear ha hb2 hw hg hg2 h9
        go_enter Tryd.func4, Tryd.ntmps4
        go_wp2_with fail
        refine (cO _).mono ?_
        rintro x u1 ⟨rfl, f1⟩
        obtain ⟨c0, c1, c2, c3, c4, c5, c6, c7⟩ := kE.fr f1
        go_wp2_with fail
        go_region_held3 (fun u => u.cell? ⟨w.heap.size, 1, none⟩ = some (.int .i64 gr) ∧ u.cell? ⟨w.heap.size, 3, none⟩ = some (.int .i64 wi)) (go_keep)
          (first | (go_at_call 11; refine (cm _).mono ?_; rintro x u2 ⟨rfl, rfl⟩) | (go_at_call 12; refine (cM _).mono ?_; rintro x u2 ⟨rfl, rfl⟩))
        all_goals
          have fA := Fr.alloc u1.drew (.cells #[.int .i64 a, .int .i64 b] 2)
          go_wp2_with fail
          go_ret
          exact ⟨_, rfl, OwnI.lower (ownI_lit u1.drew [a, b] (by simp) (by simp; exact ba) _ rfl) (by have := fW.size; have := f1.size; have : u1.drew.heap.size = u1.heap.size := rfl; omega), ((fW.trans f1).trans (Fr.drew u1)).trans fA⟩
end Go.Proofs.YtihdablgnmkjnaaDoor
