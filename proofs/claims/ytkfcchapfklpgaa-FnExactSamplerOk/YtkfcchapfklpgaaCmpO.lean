/-
  Owners: how two compare, whether one is right.
-/
import Derived.Test.YtkfcchapfklpgaaSmp
import Derived.Test.YtkfcchapfklpgaaRegPiv
import Derived.Sort.Grow
namespace Go.Proofs.Ytkfcchapfklpgaa
open Go.RowKit Go.Sort

def cmpI (x y : Int) : Int := if x < y then -1 else if y < x then 1 else 0
def cmpO (g f h k : Int) : Int := if cmpI g h ≠ 0 then cmpI g h else cmpI f k
theorem cmpI_lt {x y : Int} (h : x < y) : cmpI x y = -1 := by rw [cmpI, if_pos h]
theorem cmpI_gt {x y : Int} (h : y < x) : cmpI x y = 1 := by rw [cmpI, if_neg (by omega), if_pos h]
theorem cmpI_eq {x y : Int} (h : x = y) : cmpI x y = 0 := by rw [cmpI, if_neg (by omega), if_neg (by omega)]
theorem cmpO_ah (g f h k : Int) : decide (cmpO g f h k < 0) = ahB g f h k := by
  unfold cmpO ahB
  rcases Int.lt_trichotomy g h with a | a | a
  · rw [cmpI_lt a]; simp [a]
  · rw [cmpI_eq a]
    subst a
    rcases Int.lt_trichotomy f k with b | b | b
    · rw [cmpI_lt b]; simp [b]
    · rw [cmpI_eq b]; simp [b]
    · rw [cmpI_gt b]
      have : ¬ f < k := by omega
      simp [this]
  · rw [cmpI_gt a]
    have h1 : ¬ g < h := by omega
    have h2 : ¬ g = h := by omega
    simp [h1, h2]
theorem cmpO_ge (g f h k : Int) : decide (cmpO g f h k ≥ 0) = !ahB g f h k := by
  rw [← cmpO_ah]
  by_cases q : cmpO g f h k < 0
  · rw [decide_eq_true q, decide_eq_false (by omega)]; rfl
  · rw [decide_eq_false q, decide_eq_true (by omega)]; rfl

theorem isNaN_any (x : Int) (w : World) :
    Calls Try.prog 74 #[.int .i64 x] w fun e w' => e = .returned (.bool false) ∧ w' = w := by
  have hb : (x != x) = false := by simp
  go_enter Try.func74, Try.ntmps74
  go_wp2_with fail
  go_ret
  exact ⟨rfl, rfl⟩
theorem compare_any (x y : Int) (w : World) :
    Calls Try.prog 67 #[.int .i64 x, .int .i64 y] w fun e w' => e = .returned (.int .i64 (cmpI x y)) ∧ w' = w := by
  rcases Int.lt_trichotomy x y with a | a | a
  · rw [cmpI_lt a]
    go_enter Try.func67, Try.ntmps67
    go_wp2_with (go_at_call 74; refine (isNaN_any _ _).mono ?_; rintro e w' ⟨rfl, rfl⟩)
    go_ret
    exact ⟨rfl, rfl⟩
  · rw [cmpI_eq a]
    have h1 : ¬ x < y := by omega
    have h2 : ¬ y < x := by omega
    clear a
    go_enter Try.func67, Try.ntmps67
    go_wp2_with (go_at_call 74; refine (isNaN_any _ _).mono ?_; rintro e w' ⟨rfl, rfl⟩)
    go_ret
    exact ⟨rfl, rfl⟩
  · rw [cmpI_gt a]
    have h1 : ¬ x < y := by omega
    go_enter Try.func67, Try.ntmps67
    go_wp2_with (go_at_call 74; refine (isNaN_any _ _).mono ?_; rintro e w' ⟨rfl, rfl⟩)
    go_ret
    exact ⟨rfl, rfl⟩
theorem or_any (x y : Int) (b : Nat) (w : World) (h0 : w.cell? ⟨b, 0, none⟩ = some (.int .i64 x)) (h1 : w.cell? ⟨b, 1, none⟩ = some (.int .i64 y)) :
    Calls Try.prog 66 #[.slice (some ⟨b, 0, none⟩) 2 2] w fun e w' => e = .returned (.int .i64 (if x ≠ 0 then x else y)) ∧ w' = w := by
  by_cases hx : x = 0
  · have ex : (x != 0) = false := by simp [hx]
    rw [if_neg (fun q => q hx)]
    have HX : Hid (x = 0) := hx
    clear hx
    go_enter Try.func66, Try.ntmps66
    go_wp2
    go_loop [8] (fun i => i = .int .i64 0 ∨ i = .int .i64 1 ∨ i = .int .i64 2 ∧ Hid (y = 0)) (fun i => 2 - (intOf i).toNat)
    case atStart => exact .inl rfl
    case round =>
      rcases hrel with rfl | rfl | ⟨rfl, HY⟩
      · go_wp2
        go_round
        case rel => exact .inr (.inl rfl)
        case measure => simp [intOf]
      · by_cases hy : y = 0
        · have ey : (y != 0) = false := by simp [hy]
          have HY : Hid (y = 0) := hy
          clear hy
          go_wp2
          go_round
          case rel => exact .inr (.inr ⟨rfl, HY⟩)
          case measure => simp [intOf]
        · have ey : (y != 0) = true := by simp [hy]
          clear hy
          go_wp2
          go_ret
          exact ⟨rfl, rfl⟩
      · go_wp2
        go_ret
        exact ⟨ret_int HY.out.symm, rfl⟩
  · have ex : (x != 0) = true := by simp [hx]
    rw [if_pos hx]
    clear hx
    go_enter Try.func66, Try.ntmps66
    go_wp2
    go_loop [8] (fun i => i = .int .i64 0) (fun i => 2 - (intOf i).toNat)
    case atStart => rfl
    case round =>
      subst hrel
      go_wp2
      go_ret
      exact ⟨rfl, rfl⟩
structure Two where
  n : Nat
  m : Nat
set_option maxHeartbeats 2000000 in
theorem cmpOwn_any (g f h k : Int) (w : World) :
    Calls Try.prog 51 #[.agg #[.int .i64 g, .int .i64 f], .agg #[.int .i64 h, .int .i64 k]] w fun e w' => e = .returned (.int .i64 (cmpO g f h k)) ∧ ∃ q os, w' = grow (w.drewN q) os := by
  have cC := fun x y u => compare_any x y u
  have cO := fun x y b u h0 h1 => or_any x y b u h0 h1
  have HE : Hid (cmpO g f h k = if cmpI g h ≠ 0 then cmpI g h else cmpI f k) := rfl
  obtain ⟨C, hC⟩ : ∃ C, C = cmpO g f h k := ⟨_, rfl⟩
  obtain ⟨X, hX⟩ : ∃ X, X = cmpI g h := ⟨_, rfl⟩
  obtain ⟨Y, hY⟩ : ∃ Y, Y = cmpI f k := ⟨_, rfl⟩
  rw [← hC, ← hX, ← hY] at HE
  rw [← hC]
  have c1 := fun u => cC g h u
  have c2 := fun u => cC f k u
  rw [← hX] at c1
  rw [← hY] at c2
  clear cC hC hX hY
  have e0 : ((w.alloc (.cells #[.int .i64 g, .int .i64 f] 74)).alloc (.cells #[.int .i64 h, .int .i64 k] 74)).cell? ⟨w.heap.size, 0, none⟩ = some (.int .i64 g) := by go_simp
  have e1 : ((w.alloc (.cells #[.int .i64 g, .int .i64 f] 74)).alloc (.cells #[.int .i64 h, .int .i64 k] 74)).cell? ⟨w.heap.size, 1, none⟩ = some (.int .i64 f) := by go_simp
  have e2 : ((w.alloc (.cells #[.int .i64 g, .int .i64 f] 74)).alloc (.cells #[.int .i64 h, .int .i64 k] 74)).cell? ⟨w.heap.size + 1, 0, none⟩ = some (.int .i64 h) := by go_simp
  have e3 : ((w.alloc (.cells #[.int .i64 g, .int .i64 f] 74)).alloc (.cells #[.int .i64 h, .int .i64 k] 74)).cell? ⟨w.heap.size + 1, 1, none⟩ = some (.int .i64 k) := by go_simp
  have hs : ((w.alloc (.cells #[.int .i64 g, .int .i64 f] 74)).alloc (.cells #[.int .i64 h, .int .i64 k] 74)).heap.size = w.heap.size + 2 := by simp
  go_enter Try.func51, Try.ntmps51
  go_wp2_with fail
  obtain ⟨V, hV⟩ : ∃ V, V = (w.alloc (.cells #[.int .i64 g, .int .i64 f] 74)).alloc (.cells #[.int .i64 h, .int .i64 k] 74) := ⟨_, rfl⟩
  rw [← hV] at e0 e1 e2 e3 hs ⊢
  have HD : Hid (V = grow w #[.cells #[.int .i64 g, .int .i64 f] 74, .cells #[.int .i64 h, .int .i64 k] 74]) := by
    rw [hV, alloc_eq_grow, alloc_eq_grow, grow_grow]; rfl
  have HS : Hid (V.heap.size = w.heap.size + 2) := hs
  clear hV hs
  refine wp_region_pivot (C := fun w' => ∃ n, w' = V.drewN n) (C2 := fun w' => ∃ s : Two, w' = ((V.drewN s.n).alloc (.cells #[.int .i64 X, .int .i64 Y] 3)).drewN s.m) 10 (by kernel_rfl) (by kernel_rfl) ⟨1, rfl⟩ ?_
  simp only [List.take_succ_cons, List.take_zero, List.drop_succ_cons, List.drop_zero]
  repeat (go_big_quiet_step (first | with_reducible exact Calls.quiet_of_same (c1 _) | with_reducible exact Calls.quiet_of_same (c2 _)))
  refine wpQuiet_nil ?_
  rintro _ ⟨n, rfl⟩ o ho
  simp only [List.getElem?_cons_succ, List.getElem?_cons_zero, Option.some.injEq] at ho
  subst ho
  refine ⟨rfl, ?_⟩
  go_simp
  refine ⟨⟨⟨n, 0⟩, rfl⟩, ?_⟩
  have hb := fun n m => show (((V.drewN n).alloc (.cells #[.int .i64 X, .int .i64 Y] 3)).drewN m).heap[V.heap.size]? = some (.cells #[.int .i64 X, .int .i64 Y] 3 (0, 0)) from heap_alloc_new (V.drewN n) _
  have cO := fun n m => cO X Y V.heap.size (((V.drewN n).alloc (.cells #[.int .i64 X, .int .i64 Y] 3)).drewN m) (by rw [cell_of_row _ _ _ _ _ _ (hb n m)]; rfl) (by rw [cell_of_row _ _ _ _ _ _ (hb n m)]; rfl)
  clear hb
  simp only [← HE.out] at cO
  repeat (go_big_quiet_step (exact (cO _ _).mono fun _ _ h => ⟨h.1, Two.mk _ _, h.2⟩))
  refine wpQuiet_nil ?_
  rintro ⟨n, m⟩
  go_wp2_with fail
  go_ret
  refine ⟨rfl, n + m, #[.cells #[.int .i64 g, .int .i64 f] 74, .cells #[.int .i64 h, .int .i64 k] 74, .cells #[.int .i64 X, .int .i64 Y] 3], ?_⟩
  rw [HD.out, alloc_eq_grow]
  show World.drewN (grow (grow (w.drewN n) _) _) m = _
  rw [grow_grow]
  show grow ((w.drewN n).drewN m) _ = _
  rw [drew2]
  rfl
end Go.Proofs.Ytkfcchapfklpgaa
