/-
  Pack BE: Gors, EvsTo, EvsApp.
-/
import Derived.Test.YtplnijpolkflcaaGreatDoorPqAI
import Derived.Test.YtplnijpolkflcaaGreatDoorPqAH
import Derived.Test.YtplnijpolkflcaaGreatDoorPqAA
import Derived.Deep.RegionHeld3
import Derived.Test.YtplnijpolkflcaaGreatDoorPqAE
import Derived.Maps.AppendAt
namespace Go.Proofs.YtplnijpolkflcaaGreatDoor
open Go.RowKit

def gorsL (e : Ev) : List Int := if evOk e = true then (if e.k ≠ 9 ∨ e.w = e.g then [e.g] else [min e.g e.w, max e.g e.w]) else []
theorem gors_len (e : Ev) : (gorsL e).length ≤ 2 := by
  unfold gorsL
  split
  · split <;> simp
  · simp
theorem evOk_gw {e : Ev} (h : evOk e = true) : (0 ≤ e.g ∧ e.g ≤ 15) ∧ (e.k = 9 → 0 ≤ e.w ∧ e.w ≤ 15) := by
  simp only [evOk, Bool.and_eq_true] at h
  obtain ⟨⟨⟨⟨⟨⟨⟨h1, h2⟩, h3⟩, h4⟩, h5⟩, h6⟩, h7⟩, h8⟩ := h
  refine ⟨by simpa [inB] using h2, fun hk => ?_⟩
  have e1 : hasB e.k 2 = true := by rw [hk]; decide
  simp only [ev2, e1, fitB, if_true] at h4
  simpa [inB] using h4

theorem ownI_lit (w : World) (xs : List Int) (hl : xs.length ≤ 1000) (hx : ∀ x ∈ xs, I64 x) (o : Obj) (ho : o = .cells (xs.map (Value.int .i64)).toArray 2 (0, 0)) : OwnI (w.alloc o) w.heap.size (.slice (some ⟨w.heap.size, 0, none⟩) xs.length xs.length) xs := by
  subst ho
  refine ⟨⟨by simp, .inr ⟨w.heap.size, xs.length, (xs.map (Value.int .i64)).toArray, rfl, Nat.le_refl _, heap_alloc_new w _, Nat.le_refl _, by unfold maxLen; omega, by simp, by simp [List.take_of_length_le]⟩⟩, by omega, hx⟩

theorem retG_int {x y : Int} (h : x = y) : Ending.returned (.int .i64 x) = .returned (.int .i64 y) := by rw [h]
set_option maxHeartbeats 400000 in
theorem l1MinG (a b : Int) (w : World) :
    Calls Tryz.prog 168 #[.int .i64 a, .int .i64 b] w fun e w' => e = .returned (.int .i64 (min a b)) ∧ w' = w := by
  by_cases h : a < b
  · go_enter Tryz.func168, Tryz.ntmps168
    go_wp2
    go_ret
    exact ⟨retG_int (by omega), rfl⟩
  · go_enter Tryz.func168, Tryz.ntmps168
    go_wp2
    go_ret
    exact ⟨retG_int (by omega), rfl⟩
set_option maxHeartbeats 400000 in
theorem l1MaxG (a b : Int) (w : World) :
    Calls Tryz.prog 169 #[.int .i64 a, .int .i64 b] w fun e w' => e = .returned (.int .i64 (max a b)) ∧ w' = w := by
  by_cases h : b < a
  · go_enter Tryz.func169, Tryz.ntmps169
    go_wp2
    go_ret
    exact ⟨retG_int (by omega), rfl⟩
  · go_enter Tryz.func169, Tryz.ntmps169
    go_wp2
    go_ret
    exact ⟨retG_int (by omega), rfl⟩

set_option maxHeartbeats 6000000 in
theorem implGors_any (e : Ev) (w : World) (hs : Shapes w) :
    Calls Tryz.prog 201 #[.agg #[.int .i64 e.k, .int .i64 e.g, .int .i64 e.o, .int .i64 e.w, .int .i64 e.l, .int .i64 e.s, .int .i64 e.f, .int .i64 e.t]] w fun x w' => ∃ g, x = .returned (.slice (some ⟨g, 0, none⟩) (gorsL e).length (gorsL e).length) ∧ OwnI w' w.heap.size (.slice (some ⟨g, 0, none⟩) (gorsL e).length (gorsL e).length) (gorsL e) ∧ Fr w w' := by
  have fW := Fr.alloc w (.cells #[.int .i64 e.k, .int .i64 e.g, .int .i64 e.o, .int .i64 e.w, .int .i64 e.l, .int .i64 e.s, .int .i64 e.f, .int .i64 e.t] 31)
  have kE := EvAt.new w e 31
  have cO := fun u (f : Fr w u) => implOk_any e u (hs.fr f)
  have hg := fun q => evOk_gw (e := e) q
  unfold gorsL
  cases hE : evOk e
  · simp only [hE] at cO
    simp only [Bool.false_eq_true, if_false, List.length_nil]
    clear hg
    obtain ⟨k, gr, o, wi, l, sz, f, t⟩ := e
    simp only at fW kE cO ⊢
    go_enter Tryz.func201, Tryz.ntmps201
    go_wp2_with fail
    refine (cO _ fW).mono ?_
    rintro x u1 ⟨rfl, f1⟩
    have fA := Fr.alloc u1 (.cells #[] 2)
    go_wp2_with fail
    go_ret
    exact ⟨_, rfl, OwnI.lower (ownI_lit u1 [] (by simp) (by simp) _ rfl) (by have := fW.size; have := f1.size; omega), (fW.trans f1).trans fA⟩
  · simp only [hE] at cO
    have hg := hg hE
    simp only [if_true]
    by_cases h9 : e.k ≠ 9
    · rw [if_pos (.inl h9)]
      simp only [List.length_cons, List.length_nil]
      obtain ⟨k, gr, o, wi, l, sz, f, t⟩ := e
      simp only at fW kE cO hg h9 ⊢
      have hb : (k != 9) = true := by simpa using h9
      go_enter Tryz.func201, Tryz.ntmps201
      go_wp2_with fail
      refine (cO _ fW).mono ?_
      rintro x u1 ⟨rfl, f1⟩
      obtain ⟨c0, c1, c2, c3, c4, c5, c6, c7⟩ := kE.fr f1
      have fA := Fr.alloc u1 (.cells #[.int .i64 gr] 2)
      go_wp2_with fail
      go_ret
      exact ⟨_, rfl, OwnI.lower (ownI_lit u1 [gr] (by simp) (by simp [I64]; omega) _ rfl) (by have := fW.size; have := f1.size; omega), (fW.trans f1).trans fA⟩
    · have h9 : e.k = 9 := by omega
      have hb : (e.k != 9) = false := by simp [h9]
      have hg2 := hg.2 h9
      have hg := hg.1
      by_cases hw : e.w = e.g
      · rw [if_pos (.inr hw)]
        simp only [List.length_cons, List.length_nil]
        obtain ⟨k, gr, o, wi, l, sz, f, t⟩ := e
        simp only at fW kE cO hg hb hg2 hw h9 ⊢
        have hwb : (wi == gr) = true := by simp [hw]
        clear hw h9
        go_enter Tryz.func201, Tryz.ntmps201
        go_wp2_with fail
        refine (cO _ fW).mono ?_
        rintro x u1 ⟨rfl, f1⟩
        obtain ⟨c0, c1, c2, c3, c4, c5, c6, c7⟩ := kE.fr f1
        have fA := Fr.alloc u1 (.cells #[.int .i64 gr] 2)
        go_wp2_with fail
        go_ret
        exact ⟨_, rfl, OwnI.lower (ownI_lit u1 [gr] (by simp) (by simp [I64]; omega) _ rfl) (by have := fW.size; have := f1.size; omega), (fW.trans f1).trans fA⟩
      · rw [if_neg (by omega)]
        simp only [List.length_cons, List.length_nil]
        obtain ⟨k, gr, o, wi, l, sz, f, t⟩ := e
        simp only at fW kE cO hg hb hg2 hw h9 ⊢
        have hwb : (wi == gr) = false := by simpa using hw
        clear h9
        rcases Int.lt_or_gt_of_ne hw with hlt | hlt
        · have m1 : min gr wi = wi := by omega
          have m2 : max gr wi = gr := by omega
          have hn : ¬ gr ≤ wi := by omega
          rw [m1, m2]
          go_enter Tryz.func201, Tryz.ntmps201
          go_wp2_with fail
          refine (cO _ fW).mono ?_
          rintro x u1 ⟨rfl, f1⟩
          obtain ⟨c0, c1, c2, c3, c4, c5, c6, c7⟩ := kE.fr f1
          have fA := Fr.alloc u1 (.cells #[.int .i64 wi, .int .i64 gr] 2)
          go_wp2_with fail
          go_ret
          exact ⟨_, rfl, OwnI.lower (ownI_lit u1 [wi, gr] (by simp) (by simp [I64]; omega) _ rfl) (by have := fW.size; have := f1.size; omega), (fW.trans f1).trans fA⟩
        · have m1 : min gr wi = gr := by omega
          have m2 : max gr wi = wi := by omega
          rw [m1, m2]
          go_enter Tryz.func201, Tryz.ntmps201
          go_wp2_with fail
          refine (cO _ fW).mono ?_
          rintro x u1 ⟨rfl, f1⟩
          obtain ⟨c0, c1, c2, c3, c4, c5, c6, c7⟩ := kE.fr f1
          have fA := Fr.alloc u1 (.cells #[.int .i64 gr, .int .i64 wi] 2)
          go_wp2_with fail
          go_ret
          exact ⟨_, rfl, OwnI.lower (ownI_lit u1 [gr, wi] (by simp) (by simp [I64]; omega) _ rfl) (by have := fW.size; have := f1.size; omega), (fW.trans f1).trans fA⟩

set_option maxHeartbeats 6000000 in
theorem specGors_any (e : Ev) (w : World) :
    Calls Tryz.prog 161 #[.agg #[.int .i64 e.k, .int .i64 e.g, .int .i64 e.o, .int .i64 e.w, .int .i64 e.l, .int .i64 e.s, .int .i64 e.f, .int .i64 e.t]] w fun x w' => ∃ g, x = .returned (.slice (some ⟨g, 0, none⟩) (gorsL e).length (gorsL e).length) ∧ OwnI w' w.heap.size (.slice (some ⟨g, 0, none⟩) (gorsL e).length (gorsL e).length) (gorsL e) ∧ Fr w w' := by
  have fW := Fr.alloc w (.cells #[.int .i64 e.k, .int .i64 e.g, .int .i64 e.o, .int .i64 e.w, .int .i64 e.l, .int .i64 e.s, .int .i64 e.f, .int .i64 e.t] 31)
  have kE := EvAt.new w e 31
  have cO := fun u => specOk_any e u
  have hg := fun q => evOk_gw (e := e) q
  unfold gorsL
  cases hE : evOk e
  · simp only [hE] at cO
    simp only [Bool.false_eq_true, if_false, List.length_nil]
    clear hg
    obtain ⟨k, gr, o, wi, l, sz, f, t⟩ := e
    simp only at fW kE cO ⊢
    go_enter Tryz.func161, Tryz.ntmps161
    go_wp2_with fail
    refine (cO _).mono ?_
    rintro x u1 ⟨rfl, f1⟩
    have fA := Fr.alloc u1 (.cells #[] 2)
    go_wp2_with fail
    go_ret
    exact ⟨_, rfl, OwnI.lower (ownI_lit u1 [] (by simp) (by simp) _ rfl) (by have := fW.size; have := f1.size; omega), (fW.trans f1).trans fA⟩
  · simp only [hE] at cO
    have hg := hg hE
    simp only [if_true]
    by_cases h9 : e.k ≠ 9
    · rw [if_pos (.inl h9)]
      simp only [List.length_cons, List.length_nil]
      obtain ⟨k, gr, o, wi, l, sz, f, t⟩ := e
      simp only at fW kE cO hg h9 ⊢
      have hb : (k != 9) = true := by simpa using h9
      go_enter Tryz.func161, Tryz.ntmps161
      go_wp2_with fail
      refine (cO _).mono ?_
      rintro x u1 ⟨rfl, f1⟩
      obtain ⟨c0, c1, c2, c3, c4, c5, c6, c7⟩ := kE.fr f1
      have fA := Fr.alloc u1 (.cells #[.int .i64 gr] 2)
      go_wp2_with fail
      go_ret
      exact ⟨_, rfl, OwnI.lower (ownI_lit u1 [gr] (by simp) (by simp [I64]; omega) _ rfl) (by have := fW.size; have := f1.size; omega), (fW.trans f1).trans fA⟩
    · have h9 : e.k = 9 := by omega
      have hb : (e.k != 9) = false := by simp [h9]
      have hg2 := hg.2 h9
      have hg := hg.1
      by_cases hw : e.w = e.g
      · rw [if_pos (.inr hw)]
        simp only [List.length_cons, List.length_nil]
        obtain ⟨k, gr, o, wi, l, sz, f, t⟩ := e
        simp only at fW kE cO hg hb hg2 hw h9 ⊢
        have hwb : (wi == gr) = true := by simp [hw]
        clear hw h9
        go_enter Tryz.func161, Tryz.ntmps161
        go_wp2_with fail
        refine (cO _).mono ?_
        rintro x u1 ⟨rfl, f1⟩
        obtain ⟨c0, c1, c2, c3, c4, c5, c6, c7⟩ := kE.fr f1
        have fA := Fr.alloc u1 (.cells #[.int .i64 gr] 2)
        go_wp2_with fail
        go_ret
        exact ⟨_, rfl, OwnI.lower (ownI_lit u1 [gr] (by simp) (by simp [I64]; omega) _ rfl) (by have := fW.size; have := f1.size; omega), (fW.trans f1).trans fA⟩
      · rw [if_neg (by omega)]
        simp only [List.length_cons, List.length_nil]
        obtain ⟨k, gr, o, wi, l, sz, f, t⟩ := e
        simp only at fW kE cO hg hb hg2 hw h9 ⊢
        have hwb : (wi == gr) = false := by simpa using hw
        have cm := fun u => l1MinG gr wi u
        have cM := fun u => l1MaxG gr wi u
        obtain ⟨a, ha⟩ : ∃ a, a = min gr wi := ⟨_, rfl⟩
        obtain ⟨b, hb2⟩ : ∃ b, b = max gr wi := ⟨_, rfl⟩
        have ba : I64 a ∧ I64 b := by simp only [I64]; omega
        simp only [← ha, ← hb2] at cm cM ⊢
        clear ha hb2 hw hg hg2 h9
        go_enter Tryz.func161, Tryz.ntmps161
        go_wp2_with fail
        refine (cO _).mono ?_
        rintro x u1 ⟨rfl, f1⟩
        obtain ⟨c0, c1, c2, c3, c4, c5, c6, c7⟩ := kE.fr f1
        go_wp2_with fail
        go_region_held3 (fun u => u.cell? ⟨w.heap.size, 1, none⟩ = some (.int .i64 gr) ∧ u.cell? ⟨w.heap.size, 3, none⟩ = some (.int .i64 wi)) (go_keep)
          (first | (go_at_call 168; refine (cm _).mono ?_; rintro x u2 ⟨rfl, rfl⟩) | (go_at_call 169; refine (cM _).mono ?_; rintro x u2 ⟨rfl, rfl⟩))
        all_goals
          have fA := Fr.alloc u1.drew (.cells #[.int .i64 a, .int .i64 b] 2)
          go_wp2_with fail
          go_ret
          exact ⟨_, rfl, OwnI.lower (ownI_lit u1.drew [a, b] (by simp) (by simp; exact ba) _ rfl) (by have := fW.size; have := f1.size; have : u1.drew.heap.size = u1.heap.size := rfl; omega), ((fW.trans f1).trans (Fr.drew u1)).trans fA⟩
end Go.Proofs.YtplnijpolkflcaaGreatDoor
namespace Go.Proofs.YtplnijpolkflcaaGreatDoor
open Go.RowKit

theorem Tryz.info31 : (Tryz.prog.info? 31).map (fun i => (i.zero, i.size, i.bytes)) = some (some (.agg #[.int .i64 0, .int .i64 0, .int .i64 0, .int .i64 0, .int .i64 0, .int .i64 0, .int .i64 0, .int .i64 0]), 8, 64) := by kernel_rfl

theorem sz_any (ao : Option Addr) (n cap : Nat) (w : World) (hn : n ≤ 9223372036854775807) :
    Calls Tryz.prog 38 #[.slice ao n cap, .int .i64 1048576] w fun e w' => e = .returned (.int .i64 (if n ≤ 1048576 then 1048576 - (n : Int) else -1)) ∧ w' = w := by
  by_cases h : n ≤ 1048576
  · rw [if_pos h]
    go_enter Tryz.func38, Tryz.ntmps38
    go_wp2
    go_ret
    exact ⟨rfl, rfl⟩
  · rw [if_neg h]
    go_enter Tryz.func38, Tryz.ntmps38
    go_wp2
    go_ret
    exact ⟨rfl, rfl⟩

theorem set8 (A B : List Value) (m0 m1 m2 m3 m4 m5 m6 m7 a0 a1 a2 a3 a4 a5 a6 a7 : Value) (n : Nat) (hn : A.length = n) :
    ((((((((A ++ m0 :: m1 :: m2 :: m3 :: m4 :: m5 :: m6 :: m7 :: B).set n a0).set (n + 1) a1).set (n + 2) a2).set (n + 3) a3).set (n + 4) a4).set (n + 5) a5).set (n + 6) a6).set (n + 7) a7
      = A ++ a0 :: a1 :: a2 :: a3 :: a4 :: a5 :: a6 :: a7 :: B := by
  subst hn
  simp
theorem drop8 (L : List Value) (n : Nat) (h : n + 8 ≤ L.length) : ∃ m0 m1 m2 m3 m4 m5 m6 m7, L.drop n = m0 :: m1 :: m2 :: m3 :: m4 :: m5 :: m6 :: m7 :: L.drop (n + 8) := by
  refine ⟨L[n], L[n + 1], L[n + 2], L[n + 3], L[n + 4], L[n + 5], L[n + 6], L[n + 7], ?_⟩
  rw [List.drop_eq_getElem_cons (by omega : n < L.length), List.drop_eq_getElem_cons (by omega : n + 1 < L.length), List.drop_eq_getElem_cons (by omega : n + 1 + 1 < L.length), List.drop_eq_getElem_cons (by omega : n + 1 + 1 + 1 < L.length),
    List.drop_eq_getElem_cons (by omega : n + 1 + 1 + 1 + 1 < L.length), List.drop_eq_getElem_cons (by omega : n + 1 + 1 + 1 + 1 + 1 < L.length), List.drop_eq_getElem_cons (by omega : n + 1 + 1 + 1 + 1 + 1 + 1 < L.length), List.drop_eq_getElem_cons (by omega : n + 1 + 1 + 1 + 1 + 1 + 1 + 1 < L.length)]
theorem grown_tr {a b c : World} {row : Option Nat} (h : a.grownBy b row) (k : b.grownBy c row) : a.grownBy c row :=
  ⟨k.os.trans h.os, k.tape.trans h.tape, k.output.trans h.output, Nat.le_trans h.size k.size, fun i hi hne => (k.block i (Nat.lt_of_lt_of_le hi h.size) hne).trans (h.block i hi hne)⟩
theorem own8 {w : World} {base g n cap : Nat} {e : TypeId} {xs : List Value} (h : w.ownsRow base e 8 (.slice (some ⟨g, 0, none⟩) n cap) n xs) (j : Nat) (a0 a1 a2 a3 a4 a5 a6 a7 : Value) :
    ((((((((w.setCell ⟨g, j, none⟩ a0).setCell ⟨g, j + 1, none⟩ a1).setCell ⟨g, j + 2, none⟩ a2).setCell ⟨g, j + 3, none⟩ a3).setCell ⟨g, j + 4, none⟩ a4).setCell ⟨g, j + 5, none⟩ a5).setCell ⟨g, j + 6, none⟩ a6).setCell ⟨g, j + 7, none⟩ a7).ownsRow base e 8 (.slice (some ⟨g, 0, none⟩) n cap) n
      ((((((((xs.set j a0).set (j + 1) a1).set (j + 2) a2).set (j + 3) a3).set (j + 4) a4).set (j + 5) a5).set (j + 6) a6).set (j + 7) a7) ∧
    w.grownBy ((((((((w.setCell ⟨g, j, none⟩ a0).setCell ⟨g, j + 1, none⟩ a1).setCell ⟨g, j + 2, none⟩ a2).setCell ⟨g, j + 3, none⟩ a3).setCell ⟨g, j + 4, none⟩ a4).setCell ⟨g, j + 5, none⟩ a5).setCell ⟨g, j + 6, none⟩ a6).setCell ⟨g, j + 7, none⟩ a7) (some g) := by
  have h0 := h.stored j a0
  have h1 := h0.1.stored (j + 1) a1
  have h2 := h1.1.stored (j + 2) a2
  have h3 := h2.1.stored (j + 3) a3
  have h4 := h3.1.stored (j + 4) a4
  have h5 := h4.1.stored (j + 5) a5
  have h6 := h5.1.stored (j + 6) a6
  have h7 := h6.1.stored (j + 7) a7
  exact ⟨h7.1, grown_tr (grown_tr (grown_tr (grown_tr (grown_tr (grown_tr (grown_tr h0.2 h1.2) h2.2) h3.2) h4.2) h5.2) h6.2) h7.2⟩
theorem laid_step (es : List Ev) (M : List Value) (k : Nat) (hk : k < es.length) (hM : M.length = es.length * 8) (e : Ev) :
    (((((((((es.take k).flatMap evCells ++ M.drop (k * 8)).set (k * 8) (.int .i64 e.k)).set (k * 8 + 1) (.int .i64 e.g)).set (k * 8 + 2) (.int .i64 e.o)).set (k * 8 + 3) (.int .i64 e.w)).set (k * 8 + 4) (.int .i64 e.l)).set (k * 8 + 5) (.int .i64 e.s)).set (k * 8 + 6) (.int .i64 e.f)).set (k * 8 + 7) (.int .i64 e.t)
      = (es.take k ++ [e]).flatMap evCells ++ M.drop ((k + 1) * 8) := by
  obtain ⟨m0, m1, m2, m3, m4, m5, m6, m7, hd⟩ := drop8 M (k * 8) (by omega)
  have hl : ((es.take k).flatMap evCells).length = k * 8 := by rw [cells_len, List.length_take]; congr 1; omega
  rw [hd, set8 _ _ _ _ _ _ _ _ _ _ _ _ _ _ _ _ _ _ _ hl, show (k + 1) * 8 = k * 8 + 8 by omega, List.flatMap_append]
  simp [evCells]

set_option maxHeartbeats 1000000 in
theorem toEs_any (ao : Option Addr) (n cap : Nat) (es : List Ev) (w : World) (hn : es.length = n) (h : ReadsE w ao es) :
    Calls Tryz.prog 40 #[.slice ao n cap] w fun e w' => ∃ v, e = .returned v ∧ OwnE w' w.heap.size v es ∧ Fr w w' := by
  subst hn
  have hl := h.len
  obtain ⟨i0, hi, hz0, hz1, hz2⟩ := info_parts Tryz.info31
  go_enter Tryz.func40, Tryz.ntmps40
  go_wp2_with (at_make; refine wpList_make_full _ rfl _ _ 42 rfl w.heap.size 31 i0 (.agg #[.int .i64 0, .int .i64 0, .int .i64 0, .int .i64 0, .int .i64 0, .int .i64 0, .int .i64 0, .int .i64 0]) 8 Tryz.underlying42 hi hz0 hz1 .i64 .i64 _ _ es.length rfl rfl rfl rfl (by rw [hz2]; omega) (by unfold maxLen; omega) (Nat.le_refl _) ?_; intro w1 hown hgrow)
  obtain ⟨M, hM⟩ : ∃ M, M = (madeCells (Value.agg #[.int .i64 0, .int .i64 0, .int .i64 0, .int .i64 0, .int .i64 0, .int .i64 0, .int .i64 0, .int .i64 0]).cells (es.length * 8)).toList := ⟨_, rfl⟩
  rw [← hM] at hown
  clear hM
  have hMl := hown.1
  clear hi hz0 hz1 hz2
  go_loopw [4] (fun i wr => ∃ k : Nat, k ≤ es.length ∧ i = .int .i64 k ∧ wr.ownsRow w.heap.size 31 8 (.slice (some ⟨w.heap.size, 0, none⟩) es.length es.length) es.length ((es.take k).flatMap evCells ++ M.drop (k * 8)) ∧ Fr w wr) (fun i _ => es.length - (intOf i).toNat)
  case atStart => exact ⟨0, Nat.zero_le _, rfl, by simpa using hown, hgrow⟩
  case round =>
    obtain ⟨k, hk, rfl, ho, hf⟩ := hrel
    clear hown hgrow
    by_cases hlt : k < es.length
    · obtain ⟨b, off, rfl, hc⟩ := (h.fr hf).at_ k hlt
      obtain ⟨c0, c1, c2, c3, c4, c5, c6, c7⟩ := hc k hlt
      have HE : Hid (es.take k ++ [es[k]] = es.take (k + 1)) := (List.take_succ_eq_append_getElem hlt).symm
      obtain ⟨e, he⟩ : ∃ e, e = es[k] := ⟨_, rfl⟩
      rw [← he] at c0 c1 c2 c3 c4 c5 c6 c7 HE
      clear hc he
      have cT := fun w => toEvent_any e w
      go_wp2_with fail
      refine (cT _).mono ?_
      rintro e w5 ⟨rfl, f5⟩
      have ho := ho.kept f5 (by simp [Value.ownBlock])
      have hll : ((es.take k).flatMap evCells ++ M.drop (k * 8)).length = es.length * 8 := ho.1
      have hat : ∀ i, i < 8 → ∃ u, w5.cell? ⟨w.heap.size, k * 8 + i, none⟩ = some u := fun i hi => by
        rw [ho.cellAt (k * 8 + i) (by omega)]
        exact ⟨_, List.getElem?_eq_getElem (by omega)⟩
      obtain ⟨q0, d0⟩ := hat 0 (by omega)
      obtain ⟨q1, d1⟩ := hat 1 (by omega)
      obtain ⟨q2, d2⟩ := hat 2 (by omega)
      obtain ⟨q3, d3⟩ := hat 3 (by omega)
      obtain ⟨q4, d4⟩ := hat 4 (by omega)
      obtain ⟨q5, d5⟩ := hat 5 (by omega)
      obtain ⟨q6, d6⟩ := hat 6 (by omega)
      obtain ⟨q7, d7⟩ := hat 7 (by omega)
      rw [Nat.add_zero] at d0
      have z0 := ho.frozenAt (k * 8)
      have z1 := ho.frozenAt (k * 8 + 1)
      have z2 := ho.frozenAt (k * 8 + 2)
      have z3 := ho.frozenAt (k * 8 + 3)
      have z4 := ho.frozenAt (k * 8 + 4)
      have z5 := ho.frozenAt (k * 8 + 5)
      have z6 := ho.frozenAt (k * 8 + 6)
      have z7 := ho.frozenAt (k * 8 + 7)
      have hst := own8 ho (k * 8) (.int .i64 e.k) (.int .i64 e.g) (.int .i64 e.o) (.int .i64 e.w) (.int .i64 e.l) (.int .i64 e.s) (.int .i64 e.f) (.int .i64 e.t)
      rw [laid_step es M k hlt hMl e, HE.out] at hst
      have hsz := hf.size
      clear hat hll ho
      go_wp2_with fail
      go_roundw
      case rel => exact ⟨k + 1, by omega, by go_num, hst.1, (hf.trans f5).then hst.2 (fun j hj => by simp only [Option.some.injEq] at hj; omega)⟩
      case measure => simp [intOf]; omega
    · have ek : k = es.length := by omega
      have hd : M.drop (k * 8) = [] := List.drop_eq_nil_of_le (by rw [hMl, ek]; omega)
      rw [hd, List.append_nil, List.take_of_length_le (by omega)] at ho
      clear ek hd
      go_wp2_with fail
      go_ret
      exact ⟨_, rfl, ⟨w.heap.size, es.length, rfl, ho, hl⟩, hf⟩
end Go.Proofs.YtplnijpolkflcaaGreatDoor
namespace Go.Proofs.YtplnijpolkflcaaGreatDoor
open Go.RowKit

theorem ownE_new (w : World) : OwnE (w.alloc (.cells #[] 31)) w.heap.size (.slice (some ⟨w.heap.size, 0, none⟩) 0 0) [] :=
  ⟨w.heap.size, 0, rfl, World.ownsRow_made w #[] 0 (Nat.le_refl _) (by unfold maxLen; omega) rfl, by simp⟩

theorem appE (w : World) {ops : Array Oper} {rest : List Oper} {o : Oper} {a : Act} {Q : Exit → Act → World → Prop} (hgd : o.guard = none) (s x : Operand)
    (ho : o.op = .call { callee := .builtin .append, args := #[s, x], argTypes := #[42, 42] })
    (base : Nat) (v : Value) (es : List Ev) (e : Ev) (hs : a.eval s = v) (hown : OwnE w base v es)
    (b : Nat) (c : Nat) (hx : a.eval x = .slice (some ⟨b, 0, none⟩) 1 c) (hnew : EvC w b 0 e)
    (hlen : es.length ≤ 16777215) (hbase : base ≤ w.heap.size)
    (h : ∀ v' w', OwnE w' base v' (es ++ [e]) → w.grownBy w' v.ownBlock → (v'.ownBlock = v.ownBlock ∨ v'.ownBlock = some w.heap.size) → wpList Tryz.prog ops Q rest (a.put o.dst v') w') : wpList Tryz.prog ops Q (o :: rest) a w := by
  obtain ⟨i0, hi, hz0, hz1, hz2⟩ := info_parts Tryz.info31
  obtain ⟨g, cap, rfl, ho', hl⟩ := hown
  refine wpList_append_own_at w hgd s x 42 ho base 31 i0 _ 8 64 Tryz.underlying42 hi hz0 hz1 hz2 rfl (by decide) _ _ _ hs ho' ⟨b, 0, none⟩ 1 c (evCells e) hx (by simp [evCells]) ?_ ?_ (by unfold maxLen; omega) (by omega) hbase ?_
  · intro j u hu
    rw [Addr.add_lit]
    obtain ⟨c0, c1, c2, c3, c4, c5, c6, c7⟩ := hnew
    match j, hu with
    | 0, hu => simp [evCells] at hu; subst hu; exact c0
    | 1, hu => simp [evCells] at hu; subst hu; exact c1
    | 2, hu => simp [evCells] at hu; subst hu; exact c2
    | 3, hu => simp [evCells] at hu; subst hu; exact c3
    | 4, hu => simp [evCells] at hu; subst hu; exact c4
    | 5, hu => simp [evCells] at hu; subst hu; exact c5
    | 6, hu => simp [evCells] at hu; subst hu; exact c6
    | 7, hu => simp [evCells] at hu; subst hu; exact c7
    | n + 8, hu => simp [evCells] at hu
  · intro u hu
    simp only [evCells, List.mem_cons, List.not_mem_nil, or_false] at hu
    rcases hu with rfl | rfl | rfl | rfl | rfl | rfl | rfl | rfl <;> rfl
  · intro v' w' hv hg hnz hat
    refine h v' w' ?_ hg hat
    rcases hv.2 with ⟨e', _⟩ | ⟨g', cap', cur, e', r⟩
    · have := (hnz.1 e').1
      simp at this
    · subst e'
      exact ⟨g', cap', by simp, by simpa [List.flatMap_append] using hv, by simp; omega⟩
end Go.Proofs.YtplnijpolkflcaaGreatDoor
