/-
  Pack BB: Ranks, Order, Order2, Order3.
-/
import Derived.Test.YtcofhmikdkkigaaGreatDoorPrBA
import Derived.Deep.DeepCutAuto
namespace Go.Proofs.YtcofhmikdkkigaaGreatDoor
open Go.RowKit

def setOf (f : Nat → Bool) : Nat → Nat
  | 0 => 0
  | n + 1 => if f n = true then setOf f n ||| 2 ^ n else setOf f n
theorem setOf_bit (f : Nat → Bool) : ∀ n i, (setOf f n).testBit i = (decide (i < n) && f i)
  | 0, i => by simp [setOf]
  | n + 1, i => by
    have ih := setOf_bit f n i
    unfold setOf
    by_cases h : f n = true
    · rw [if_pos h, Nat.testBit_or, ih, Nat.testBit_two_pow]
      by_cases e : n = i
      · subst e
        simp [h]
      · have : decide (n = i) = false := by simpa using e
        rw [this, Bool.or_false]
        congr 1
        simp only [decide_eq_decide]
        omega
    · rw [if_neg h, ih]
      by_cases e : n = i
      · subst e
        simp [h]
      · congr 1
        simp only [decide_eq_decide]
        omega
theorem set_eq {N M : Nat} (h : ∀ i, N.testBit i = M.testBit i) : N = M := Nat.eq_of_testBit_eq h
open Classical in
noncomputable def befN (E : Nat → Nat → Bool) (j : Nat) : Nat := setOf (fun i => decide (Bef E i j)) j
theorem befN_bit (E : Nat → Nat → Bool) (j i : Nat) : (befN E j).testBit i = true ↔ Bef E i j := by
  unfold befN
  rw [setOf_bit]
  simp only [Bool.and_eq_true, decide_eq_true_eq]
  exact ⟨fun h => h.2, fun h => ⟨h.lt, h⟩⟩
structure Inn (E : Nat → Nat → Bool) (j ii X : Nat) : Prop where
  bef : ∀ q, X.testBit q = true → Bef E q j
  all : ∀ q, ii ≤ q → q < j → E q j = true → X.testBit q = true
  down : ∀ q r, X.testBit q = true → Bef E r q → X.testBit r = true
theorem Inn.start (E : Nat → Nat → Bool) (j : Nat) : Inn E j j 0 := ⟨fun q h => by simp at h, fun q h1 h2 => by omega, fun q r h => by simp at h⟩
theorem Inn.skip {E : Nat → Nat → Bool} {j i X : Nat} (h : Inn E j (i + 1) X) (hs : E i j = false ∨ X.testBit i = true) : Inn E j i X := by
  refine ⟨h.bef, fun q h1 h2 h3 => ?_, h.down⟩
  by_cases e : q = i
  · subst e
    rcases hs with q1 | q1
    · rw [q1] at h3
      cases h3
    · exact q1
  · exact h.all q (by omega) h2 h3
theorem Inn.take {E : Nat → Nat → Bool} {j i X : Nat} (h : Inn E j (i + 1) X) (hij : i < j) (hE : E i j = true) : Inn E j i (X ||| 2 ^ i ||| befN E i) := by
  have b : ∀ q, (X ||| 2 ^ i ||| befN E i).testBit q = true ↔ X.testBit q = true ∨ q = i ∨ Bef E q i := by
    intro q
    rw [Nat.testBit_or, Nat.testBit_or, Nat.testBit_two_pow, Bool.or_eq_true, Bool.or_eq_true, befN_bit, decide_eq_true_eq, or_assoc]
    constructor
    · rintro (h | h | h)
      · exact .inl h
      · exact .inr (.inl h.symm)
      · exact .inr (.inr h)
    · rintro (h | h | h)
      · exact .inl h
      · exact .inr (.inl h.symm)
      · exact .inr (.inr h)
  refine ⟨fun q hq => ?_, fun q h1 h2 h3 => (b q).2 ?_, fun q r hq hr => (b r).2 ?_⟩
  · rcases (b q).1 hq with h1 | rfl | h1
    · exact h.bef q h1
    · exact .edge hij hE
    · exact .more h1 hij hE
  · by_cases e : q = i
    · exact .inr (.inl e)
    · exact .inl (h.all q (by omega) h2 h3)
  · rcases (b q).1 hq with h1 | rfl | h1
    · exact .inl (h.down q r h1 hr)
    · exact .inr (.inr hr)
    · exact .inr (.inr (hr.trans h1))
theorem Inn.done {E : Nat → Nat → Bool} {j X : Nat} (h : Inn E j 0 X) : X = befN E j := by
  apply set_eq
  intro q
  have : X.testBit q = true ↔ (befN E j).testBit q = true := by
    rw [befN_bit]
    refine ⟨h.bef q, fun hb => ?_⟩
    obtain ⟨l, h1, h2, h3⟩ := hb.last
    have hl := h.all l (by omega) h1 h2
    rcases h3 with rfl | h3
    · exact hl
    · exact h.down l q hl h3
  cases h1 : X.testBit q <;> cases h2 : (befN E j).testBit q <;> simp_all
theorem bits_full {X j : Nat} (hj : j ≤ 320) (h : ∀ q, X.testBit q = true → q < j) (hs : popS X = j) : ∀ q, q < j → X.testBit q = true := by
  have e : bitsL 320 X = bitsL j X := bitsL_low hj (fun i hi => by
    cases hx : X.testBit i
    · rfl
    · have := h i hx
      omega)
  have hl : (bitsL j X).length = j := by rw [← e]; exact hs
  unfold bitsL at hl
  have h2 : (List.range j).filter (fun i => X.testBit i) = List.range j := List.Sublist.eq_of_length (List.filter_sublist) (by rw [hl]; simp)
  intro q hq
  have := List.filter_eq_self.1 h2 q (List.mem_range.2 hq)
  exact this
theorem Inn.full {E : Nat → Nat → Bool} {j i X : Nat} (h : Inn E j i X) (hj : j ≤ 320) (hs : popS X = j) : X = befN E j := by
  have hf := bits_full hj (fun q hq => (h.bef q hq).lt) hs
  apply set_eq
  intro q
  have : X.testBit q = true ↔ (befN E j).testBit q = true := by
    rw [befN_bit]
    exact ⟨h.bef q, fun hb => hf q hb.lt⟩
  cases h1 : X.testBit q <;> cases h2 : (befN E j).testBit q <;> simp_all
theorem Inn.small {E : Nat → Nat → Bool} {j i X : Nat} (h : Inn E j i X) (q : Nat) (hq : j ≤ q) : X.testBit q = false := by
  cases hx : X.testBit q
  · rfl
  · have := (h.bef q hx).lt
    omega

structure RkW (w : World) (g n : Nat) (ed bf : Nat → Nat) : Prop where
  row : RowAt w g 112
  ed : ∀ q, q < n → PsC w g (q * 10) (ed q)
  bf : ∀ q, q < n → PsC w g (q * 10 + 5) (bf q)
theorem RkW.fr {w w' : World} {g n : Nat} {ed bf : Nat → Nat} (h : RkW w g n ed bf) (k : Fr w w') : RkW w' g n ed bf := ⟨h.row.fr k, fun q hq => (h.ed q hq).fr k, fun q hq => (h.bf q hq).fr k⟩
theorem RkW.setB {w w' : World} {g n j X : Nat} {ed bf : Nat → Nat} (h : RkW w g n ed bf) (k : Wrote 112 g (j * 10 + 5) 5 w w') (hX : PsC w' g (j * 10 + 5) X) : RkW w' g n ed (setN bf j X) := by
  refine ⟨k.row, fun q hq => (h.ed q hq).rest k (by omega), fun q hq => ?_⟩
  unfold setN
  by_cases e : q = j
  · subst e
    rw [if_pos rfl]
    exact hX
  · rw [if_neg e]
    exact (h.bf q hq).rest k (by omega)
theorem reads_rk {w : World} {g : Nat} {rs : List (Nat × Nat)} (h : ReadsG layR w (some ⟨g, 0, none⟩) rs) (hr : RowAt w g 112) : RkW w g rs.length (fun q => (rs.getD q (0, 0)).1) (fun q => (rs.getD q (0, 0)).2) := by
  refine ⟨hr, fun q hq k hk => ?_, fun q hq k hk => ?_⟩
  · obtain ⟨b, off, e, hc⟩ := h.at_ q hq
    simp only [Option.some.injEq, Addr.mk.injEq, and_true] at e
    obtain ⟨rfl, rfl⟩ := e
    have := hc q hq k (by show k < 10; omega)
    rw [Nat.zero_add] at this
    rw [show q * 10 + k = q * layR.sz + k from rfl, this, List.getD_eq_getElem?_getD, List.getElem?_eq_getElem hq]
    rcases k with _ | _ | _ | _ | _ | k <;> first | rfl | omega
  · obtain ⟨b, off, e, hc⟩ := h.at_ q hq
    simp only [Option.some.injEq, Addr.mk.injEq, and_true] at e
    obtain ⟨rfl, rfl⟩ := e
    have := hc q hq (5 + k) (by show 5 + k < 10; omega)
    rw [Nat.zero_add] at this
    rw [show q * 10 + 5 + k = q * layR.sz + (5 + k) by show q * 10 + 5 + k = q * 10 + (5 + k); omega, this, List.getD_eq_getElem?_getD, List.getElem?_eq_getElem hq]
    rcases k with _ | _ | _ | _ | _ | k <;> first | rfl | omega
def eE (es : List Ev) (i j : Nat) : Bool := (edN es j).testBit i
noncomputable def bfJ (es : List Ev) (j q : Nat) : Nat := if q < j then befN (eE es) q else 0

set_option maxRecDepth 20000 in
set_option maxHeartbeats 8000000 in
theorem ranksOf_core (v0 : Value) (es : List Ev) (L : Nat) (w : World) (hL : L ≤ 300) (cE : Calls Tryz.prog 170 #[v0] w fun x w' => ∃ v, x = .returned v ∧ OwnR w' w.heap.size v (rk0 es L) ∧ Fr w w') :
    Calls Tryz.prog 130 #[v0] w fun x w' => ∃ g cap, x = .returned (.slice (some ⟨g, 0, none⟩) L cap) ∧ RkW w' g L (edN es) (befN (eE es)) ∧ w.heap.size ≤ g ∧ Fr w w' := by
  go_enter Tryz.func130, Tryz.ntmps130
  go_wp2_with fail
  go_step3
  go_wp2_with fail
  refine cE.mono ?_
  rintro x u1 ⟨v, rfl, O1, F1⟩
  clear cE
  obtain ⟨g, cap, cur, rfl, o1, o2⟩ := id O1
  have hR := O1.reads
  have R1 := reads_rk hR.1 hR.2.2
  rw [rk0_len] at R1
  have R0 : RkW u1 g L (edN es) (bfJ es 0) := ⟨R1.row, fun q hq => by
    have := R1.ed q hq
    simpa [rk0, List.getD_eq_getElem?_getD, hq] using this, fun q hq => by
    have := R1.bf q hq
    simpa [rk0, List.getD_eq_getElem?_getD, hq, bfJ] using this⟩
  simp only [rk0_len]
  have HG : Hid (w.heap.size ≤ g) := o1
  clear O1 hR R1 o1 o2
  go_wp2_with fail
  go_step3
  go_wp2_with fail
  go_loopw [11] (fun i wr => ∃ j : Nat, j ≤ L ∧ i = .int .i64 j ∧ RkW wr g L (edN es) (bfJ es j) ∧ Fr w wr) (fun i _ => L - (intOf i).toNat)
  case atStart => exact ⟨0, Nat.zero_le _, rfl, R0, F1⟩
  case round =>
    obtain ⟨j, hj, rfl, hR, hF⟩ := hrel
    by_cases hlt : j < L
    · have hji : (j : Int) < L := by omega
      have hjb : decide ((j : Int) < L) = true := by simp; omega
      have R2 : RkW wr g L (edN es) (setN (bfJ es j) j 0) := ⟨hR.row, hR.ed, fun q hq => by
        have := hR.bf q hq
        unfold setN
        by_cases e : q = j
        · subst e
          simpa [bfJ] using this
        · rw [if_neg e]
          exact this⟩
      clear hR R0 F1
      go_wp2_with fail
      go_loopw [6] (fun i wr => ∃ ii X : Nat, ii ≤ j ∧ i = .int .i64 ((ii : Int) - 1) ∧ Inn (eE es) j ii X ∧ RkW wr g L (edN es) (setN (bfJ es j) j X) ∧ Fr w wr) (fun i _ => (intOf i + 1).toNat)
      case atStart => exact ⟨j, 0, Nat.le_refl _, rfl, Inn.start _ _, R2, hF⟩
      case round =>
        obtain ⟨ii, X, hii, rfl, hI, hR, hF2⟩ := hrel
        rcases ii with _ | i
        · have hX := hI.done
          subst hX
          have R4 : RkW wr g L (edN es) (bfJ es (j + 1)) := ⟨hR.row, hR.ed, fun q hq => by
            have := hR.bf q hq
            unfold setN at this
            unfold bfJ
            by_cases e : q = j
            · subst e
              simpa using this
            · rw [if_neg e] at this
              by_cases e2 : q < j
              · rw [if_pos (by omega)]
                simpa [bfJ, e2] using this
              · rw [if_neg (by omega)]
                simpa [bfJ, e2] using this⟩
          clear hR hI R2 hF
          go_wp2_with fail
          go_roundw
          case rel => exact ⟨j + 1, by omega, by go_num, R4, hF2⟩
          case measure => simp [intOf] <;> omega
        · have hi : ((i + 1 : Nat) : Int) - 1 = i := by omega
          rw [hi]
          have hij : i < j := by omega
          have hb : ((i : Int) ≥ 0) = True := by simp
          have cA := fun u => hasP_any (edN es j) i u
          have cB := fun u => hasP_any X i u
          have hin : inB 0 299 (i : Int) = true := by simp [inB]; omega
          simp only [hin, Bool.true_and, Int.toNat_natCast] at cA cB
          have eA := hR.ed j hlt
          have eB := hR.bf j hlt
          have eX : setN (bfJ es j) j X j = X := by simp [setN]
          rw [eX] at eB
          have a0 := eA 0 (by omega); have a1 := eA 1 (by omega); have a2 := eA 2 (by omega); have a3 := eA 3 (by omega); have a4 := eA 4 (by omega)
          have x0 := eB 0 (by omega); have x1 := eB 1 (by omega); have x2 := eB 2 (by omega); have x3 := eB 3 (by omega); have x4 := eB 4 (by omega)
          simp only [Nat.add_zero] at a0 x0
          have HE : Hid (eE es i j = (edN es j).testBit i) := rfl
          cases hE : (edN es j).testBit i
          · simp only [hE] at cA
            have hI2 := hI.skip (.inl (HE.out.trans hE))
            clear hE cB eA eB eX hI hin R2 hF hi
            go_wp2_with fail
            refine (cA _).mono ?_
            rintro e z1 ⟨rfl, f1⟩
            clear a0 a1 a2 a3 a4 x0 x1 x2 x3 x4 cA
            go_wp2_with fail
            go_roundw
            case rel => exact ⟨i, X, by omega, by go_num, hI2, hR.fr f1, hF2.trans f1⟩
            case measure => simp [intOf] <;> omega
          · simp only [hE] at cA
            have hEE : eE es i j = true := HE.out.trans hE
            have HEE : Hid (eE es i j = true) := hEE
            clear hE hEE HE hi
            cases hX : X.testBit i
            · simp only [hX] at cB
              have hI2 := hI.take hij HEE.out
              clear hX hI hin R2 hF eX eA
              have y0 := fun u (fu : Fr wr u) => fu.cell x0
              have y1 := fun u (fu : Fr wr u) => fu.cell x1
              have y2 := fun u (fu : Fr wr u) => fu.cell x2
              have y3 := fun u (fu : Fr wr u) => fu.cell x3
              have y4 := fun u (fu : Fr wr u) => fu.cell x4
              have HY : Hid _ := And.intro y0 (And.intro y1 (And.intro y2 (And.intro y3 y4)))
              clear y0 y1 y2 y3 y4 x0 x1 x2 x3 x4
              go_wp2_with fail
              refine (cA _).mono ?_
              rintro e z1 ⟨rfl, f1⟩
              clear a0 a1 a2 a3 a4 cA
              have x0 := HY.out.1 _ f1; have x1 := HY.out.2.1 _ f1; have x2 := HY.out.2.2.1 _ f1; have x3 := HY.out.2.2.2.1 _ f1; have x4 := HY.out.2.2.2.2 _ f1
              go_wp2_with fail
              refine (cB _).mono ?_
              rintro e z2 ⟨rfl, f2⟩
              clear x0 x1 x2 x3 x4 cB HY
              have R5 := hR.fr (f1.trans f2)
              have F5 := hF2.trans (f1.trans f2)
              have cC := add_any g (j * 10 + 5) X i 112 z2 (by omega) (eB.fr (f1.trans f2)) R5.row
              go_wp2_with fail
              refine cC.mono ?_
              rintro x z3 ⟨rfl, hX3, W3⟩
              have R6 := R5.setB W3 hX3
              have F6 := F5.then W3.by_ (fun j hj => by cases hj; exact HG.out)
              clear cC hR f1 f2 eB W3 R5 F5
              have bi := R6.bf i (by omega)
              have eI : setN (setN (bfJ es j) j X) j (X ||| 2 ^ i) i = befN (eE es) i := by
                unfold setN bfJ
                rw [if_neg (by omega), if_neg (by omega), if_pos hij]
              rw [eI] at bi
              clear eI
              have b0 := bi 0 (by omega); have b1 := bi 1 (by omega); have b2 := bi 2 (by omega); have b3 := bi 3 (by omega); have b4 := bi 4 (by omega)
              simp only [Nat.add_zero] at b0
              have cD := addAll_any g (j * 10 + 5) (X ||| 2 ^ i) (befN (eE es) i) 112 z3.drew (hX3.fr (Fr.drew z3)) (R6.row.fr (Fr.drew z3))
              have hil : (i : Int) < L := by omega
              go_wp2_with fail
              go_region_held3 (fun u => u.cell? ⟨g, i * 10 + 5, none⟩ = some (.int .u64 (wd (befN (eE es) i) 0)) ∧ u.cell? ⟨g, i * 10 + 5 + 1, none⟩ = some (.int .u64 (wd (befN (eE es) i) 1)) ∧ u.cell? ⟨g, i * 10 + 5 + 2, none⟩ = some (.int .u64 (wd (befN (eE es) i) 2)) ∧ u.cell? ⟨g, i * 10 + 5 + 3, none⟩ = some (.int .u64 (wd (befN (eE es) i) 3)) ∧ u.cell? ⟨g, i * 10 + 5 + 4, none⟩ = some (.int .u64 (wd (befN (eE es) i) 4))) (go_keep)
                (first | (go_at_call 172; refine cD.mono ?_; rintro x z4 ⟨rfl, hX4, W4⟩; have bi4 := (bi.fr (Fr.drew z3)).rest W4 (by omega); have d0 := bi4 0 (by omega); have d1 := bi4 1 (by omega); have d2 := bi4 2 (by omega); have d3 := bi4 3 (by omega); have d4 := bi4 4 (by omega); simp only [Nat.add_zero] at d0))
              all_goals
                have R7 := (R6.fr (Fr.drew z3)).setB W4 hX4
                have F7 := (F6.trans (Fr.drew z3)).then W4.by_ (fun j hj => by cases hj; exact HG.out)
                clear b0 b1 b2 b3 b4 d0 d1 d2 d3 d4 cD bi bi4 R6 F6 hX3 W4
                obtain ⟨Y, hY⟩ : ∃ Y, Y = X ||| 2 ^ i ||| befN (eE es) i := ⟨_, rfl⟩
                rw [← hY] at hX4 R7 hI2
                clear hY
                have R8 : RkW z4 g L (edN es) (setN (bfJ es j) j Y) := ⟨R7.row, R7.ed, fun q hq => by
                  have := R7.bf q hq
                  unfold setN at this ⊢
                  by_cases e : q = j
                  · simpa [e] using this
                  · simpa [e] using this⟩
                clear R7
                have e0 := hX4 0 (by omega); have e1 := hX4 1 (by omega); have e2 := hX4 2 (by omega); have e3 := hX4 3 (by omega); have e4 := hX4 4 (by omega)
                simp only [Nat.add_zero] at e0
                have cS := fun u => sizeP_any Y u
                have HF : Hid (popS Y = j → RkW z4 g L (edN es) (bfJ es (j + 1))) := fun hp => by
                  have hX := hI2.full (by omega) hp
                  refine ⟨R8.row, R8.ed, fun q hq => ?_⟩
                  have := R8.bf q hq
                  rw [hX] at this
                  unfold setN at this
                  unfold bfJ
                  by_cases e : q = j
                  · subst e
                    simpa using this
                  · rw [if_neg e] at this
                    by_cases e2 : q < j
                    · rw [if_pos (by omega)]
                      simpa [bfJ, e2] using this
                    · rw [if_neg (by omega)]
                      simpa [bfJ, e2] using this
                clear hX4
                go_wp2_with fail
                refine (cS _).mono ?_
                rintro e z5 ⟨rfl, f5⟩
                clear cS e0 e1 e2 e3 e4
                by_cases hp : popS Y = j
                · have hpb : ((popS Y : Int) == (j : Int)) = true := by simp [hp]
                  have R9 := (HF.out hp).fr f5
                  have F9 := F7.trans f5
                  clear hp HF hI2 R8
                  go_wp2_with fail
                  go_roundw
                  case rel => exact ⟨j + 1, by omega, by go_num, R9, F9⟩
                  case measure => simp [intOf] <;> omega
                · have hpb : ((popS Y : Int) == (j : Int)) = false := by simp; omega
                  clear HF hp
                  go_wp2_with fail
                  go_roundw
                  case rel => exact ⟨i, Y, by omega, by go_num, hI2, R8.fr f5, F7.trans f5⟩
                  case measure => simp [intOf] <;> omega
            · simp only [hX] at cB
              have hI2 := hI.skip (.inr hX)
              clear hX hI hin R2 hF eX eA eB
              have y0 := fun u (fu : Fr wr u) => fu.cell x0
              have y1 := fun u (fu : Fr wr u) => fu.cell x1
              have y2 := fun u (fu : Fr wr u) => fu.cell x2
              have y3 := fun u (fu : Fr wr u) => fu.cell x3
              have y4 := fun u (fu : Fr wr u) => fu.cell x4
              have HY : Hid _ := And.intro y0 (And.intro y1 (And.intro y2 (And.intro y3 y4)))
              clear y0 y1 y2 y3 y4 x0 x1 x2 x3 x4
              go_wp2_with fail
              refine (cA _).mono ?_
              rintro e z1 ⟨rfl, f1⟩
              clear a0 a1 a2 a3 a4 cA
              have x0 := HY.out.1 _ f1; have x1 := HY.out.2.1 _ f1; have x2 := HY.out.2.2.1 _ f1; have x3 := HY.out.2.2.2.1 _ f1; have x4 := HY.out.2.2.2.2 _ f1
              go_wp2_with fail
              refine (cB _).mono ?_
              rintro e z2 ⟨rfl, f2⟩
              clear x0 x1 x2 x3 x4 cB HY
              go_wp2_with fail
              go_roundw
              case rel => exact ⟨i, X, by omega, by go_num, hI2, hR.fr (f1.trans f2), hF2.trans (f1.trans f2)⟩
              case measure => simp [intOf] <;> omega
    · have e : j = L := by omega
      subst e
      clear R0 F1
      have R3 : RkW wr g j (edN es) (befN (eE es)) := ⟨hR.row, hR.ed, fun q hq => by
        have := hR.bf q hq
        simpa [bfJ, hq] using this⟩
      clear hR
      go_wp2_with fail
      try rw [Exit.noGoto_ret]
      go_ret
      exact ⟨_, _, rfl, R3, HG.out, hF⟩
theorem ranksOf_any (ao : Option Addr) (n c : Nat) (es : List Ev) (w : World) (hn : es.length = n) (h : ReadsE w ao es) (hs : Shapes w) (hab : ∀ k, blk ao = some k → k < w.heap.size) (hl : es.length ≤ 300) :
    Calls Tryz.prog 130 #[.slice ao n c] w fun x w' => ∃ g cap, x = .returned (.slice (some ⟨g, 0, none⟩) (legS scn0 es).2.1 cap) ∧ RkW w' g (legS scn0 es).2.1 (edN es) (befN (eE es)) ∧ w.heap.size ≤ g ∧ Fr w w' :=
  ranksOf_core _ es _ w (Nat.le_trans (leg_len es scn0) hl) (edgesOf_any ao n c es w hn h hs hab hl)
end Go.Proofs.YtcofhmikdkkigaaGreatDoor
namespace Go.Proofs.YtcofhmikdkkigaaGreatDoor
open Go.RowKit

theorem evA_take {es : List Ev} {n k : Nat} (h : k < n) : evA (es.take n) k = evA es k := by
  unfold evA
  rw [List.getD_eq_getElem?_getD, List.getD_eq_getElem?_getD, List.getElem?_take, if_pos h]
theorem scA_take {es : List Ev} {n k : Nat} (h : k ≤ n) : scA (es.take n) k = scA es k := by
  unfold scA
  rw [List.take_take, Nat.min_eq_left h]
theorem tJ_take {es : List Ev} {n k : Nat} (h : k < n) : tJ (es.take n) k = tJ es k := by
  unfold tJ
  rw [evA_take h, scA_take (by omega)]
theorem pst_take {es : List Ev} {n : Nat} : ∀ k, k ≤ n → pst (es.take n) k = pst es k
  | 0, _ => rfl
  | k + 1, h => by
    unfold pst
    rw [evA_take (by omega), pst_take k (by omega)]
theorem pla_take {es : List Ev} {n : Nat} : ∀ k, k ≤ n → pla (es.take n) k = pla es k
  | 0, _ => rfl
  | k + 1, h => by
    unfold pla
    rw [evA_take (by omega), pla_take k (by omega)]
theorem pgi_take {es : List Ev} {n : Nat} : ∀ k, k ≤ n → pgi (es.take n) k = pgi es k
  | 0, _ => rfl
  | k + 1, h => by
    unfold pgi
    rw [tJ_take (by omega), pgi_take k (by omega)]
theorem edN_take {es : List Ev} {n k : Nat} (h : k < n) : edN (es.take n) k = edN es k := by
  unfold edN
  rw [evA_take h, tJ_take h, pst_take k (by omega), pla_take k (by omega), pgi_take k (by omega)]
theorem Bef.cong {E E' : Nat → Nat → Bool} {j q : Nat} (h : Bef E q j) (he : ∀ i k, k ≤ j → E i k = E' i k) : Bef E' q j := by
  induction h with
  | edge h e => exact .edge h (by rw [← he _ _ (Nat.le_refl _)]; exact e)
  | more b h e ih => exact .more (ih (fun i k hk => he i k (by omega))) h (by rw [← he _ _ (Nat.le_refl _)]; exact e)
theorem befN_cong {E E' : Nat → Nat → Bool} {j : Nat} (he : ∀ i k, k ≤ j → E i k = E' i k) : befN E j = befN E' j := by
  apply set_eq
  intro q
  have : (befN E j).testBit q = true ↔ (befN E' j).testBit q = true := by
    rw [befN_bit, befN_bit]
    exact ⟨fun h => h.cong he, fun h => h.cong (fun i k hk => (he i k hk).symm)⟩
  cases h1 : (befN E j).testBit q <;> cases h2 : (befN E' j).testBit q <;> simp_all
theorem befN_take {es : List Ev} {j : Nat} : befN (eE (es.take (j + 1))) j = befN (eE es) j :=
  befN_cong fun i k hk => by
    unfold eE
    rw [edN_take (by omega)]
theorem leg_take_len {es : List Ev} {j : Nat} (hl : es.length ≤ 300) (hj : j < es.length) : ((legS scn0 (es.take (j + 1))).2.1 = j + 1 ∧ (j : Int) < legLen es) ∨ ((legS scn0 (es.take (j + 1))).2.1 ≤ j ∧ ¬ (j : Int) < legLen es) := by
  have e : legLen es = (legS scn0 es).2.1 := by
    unfold legLen
    rw [if_neg (by omega)]
  rw [e]
  by_cases h : j + 1 ≤ (legS scn0 es).2.1
  · exact .inl ⟨(leg_part es scn0 (j + 1) h).1, by omega⟩
  · refine .inr ⟨?_, by omega⟩
    have hle := leg_len (es.take (j + 1)) scn0
    have hlen : (es.take (j + 1)).length = j + 1 := by simp; omega
    rw [hlen] at hle
    by_cases h2 : (legS scn0 (es.take (j + 1))).2.1 = j + 1
    · exfalso
      have h3 := leg_part (es.take (j + 1)) scn0 j (by omega)
      rw [List.take_take, Nat.min_eq_left (by omega)] at h3
      have h4 := h3.2.2 (by omega) (by omega)
      rw [List.getElem_take] at h4
      have h5 := leg_more es scn0 j hj h3.2.1 h4
      omega
    · omega
noncomputable def rJ (es : List Ev) (j : Int) : Nat × Nat := if 0 ≤ j ∧ j < legLen es then (edN es j.toNat, befN (eE es) j.toNat) else (0, 0)

theorem row10 {u : World} {b : Nat} {T : TypeId} {c0 c1 c2 c3 c4 c5 c6 c7 c8 c9 : Value} (h : u.heap[b]? = some (.cells #[c0, c1, c2, c3, c4, c5, c6, c7, c8, c9] T (0, 0))) (v0 v1 v2 v3 v4 v5 v6 v7 v8 v9 : Value) :
    ((((((((((u.setCell ⟨b, 0, none⟩ v0).setCell ⟨b, 1, none⟩ v1).setCell ⟨b, 2, none⟩ v2).setCell ⟨b, 3, none⟩ v3).setCell ⟨b, 4, none⟩ v4).setCell ⟨b, 5, none⟩ v5).setCell ⟨b, 6, none⟩ v6).setCell ⟨b, 7, none⟩ v7).setCell ⟨b, 8, none⟩ v8).setCell ⟨b, 9, none⟩ v9).heap[b]? = some (.cells #[v0, v1, v2, v3, v4, v5, v6, v7, v8, v9] T (0, 0)) := by
  have e0 : (u.setCell ⟨b, 0, none⟩ v0).heap[b]? = some (.cells #[v0, c1, c2, c3, c4, c5, c6, c7, c8, c9] T (0, 0)) := heap_setCell_same _ b 0 _ _ v0 h
  have e1 : ((u.setCell ⟨b, 0, none⟩ v0).setCell ⟨b, 1, none⟩ v1).heap[b]? = some (.cells #[v0, v1, c2, c3, c4, c5, c6, c7, c8, c9] T (0, 0)) := heap_setCell_same _ b 1 _ _ v1 e0
  have e2 : (((u.setCell ⟨b, 0, none⟩ v0).setCell ⟨b, 1, none⟩ v1).setCell ⟨b, 2, none⟩ v2).heap[b]? = some (.cells #[v0, v1, v2, c3, c4, c5, c6, c7, c8, c9] T (0, 0)) := heap_setCell_same _ b 2 _ _ v2 e1
  have e3 : ((((u.setCell ⟨b, 0, none⟩ v0).setCell ⟨b, 1, none⟩ v1).setCell ⟨b, 2, none⟩ v2).setCell ⟨b, 3, none⟩ v3).heap[b]? = some (.cells #[v0, v1, v2, v3, c4, c5, c6, c7, c8, c9] T (0, 0)) := heap_setCell_same _ b 3 _ _ v3 e2
  have e4 : (((((u.setCell ⟨b, 0, none⟩ v0).setCell ⟨b, 1, none⟩ v1).setCell ⟨b, 2, none⟩ v2).setCell ⟨b, 3, none⟩ v3).setCell ⟨b, 4, none⟩ v4).heap[b]? = some (.cells #[v0, v1, v2, v3, v4, c5, c6, c7, c8, c9] T (0, 0)) := heap_setCell_same _ b 4 _ _ v4 e3
  have e5 : ((((((u.setCell ⟨b, 0, none⟩ v0).setCell ⟨b, 1, none⟩ v1).setCell ⟨b, 2, none⟩ v2).setCell ⟨b, 3, none⟩ v3).setCell ⟨b, 4, none⟩ v4).setCell ⟨b, 5, none⟩ v5).heap[b]? = some (.cells #[v0, v1, v2, v3, v4, v5, c6, c7, c8, c9] T (0, 0)) := heap_setCell_same _ b 5 _ _ v5 e4
  have e6 : (((((((u.setCell ⟨b, 0, none⟩ v0).setCell ⟨b, 1, none⟩ v1).setCell ⟨b, 2, none⟩ v2).setCell ⟨b, 3, none⟩ v3).setCell ⟨b, 4, none⟩ v4).setCell ⟨b, 5, none⟩ v5).setCell ⟨b, 6, none⟩ v6).heap[b]? = some (.cells #[v0, v1, v2, v3, v4, v5, v6, c7, c8, c9] T (0, 0)) := heap_setCell_same _ b 6 _ _ v6 e5
  have e7 : ((((((((u.setCell ⟨b, 0, none⟩ v0).setCell ⟨b, 1, none⟩ v1).setCell ⟨b, 2, none⟩ v2).setCell ⟨b, 3, none⟩ v3).setCell ⟨b, 4, none⟩ v4).setCell ⟨b, 5, none⟩ v5).setCell ⟨b, 6, none⟩ v6).setCell ⟨b, 7, none⟩ v7).heap[b]? = some (.cells #[v0, v1, v2, v3, v4, v5, v6, v7, c8, c9] T (0, 0)) := heap_setCell_same _ b 7 _ _ v7 e6
  have e8 : (((((((((u.setCell ⟨b, 0, none⟩ v0).setCell ⟨b, 1, none⟩ v1).setCell ⟨b, 2, none⟩ v2).setCell ⟨b, 3, none⟩ v3).setCell ⟨b, 4, none⟩ v4).setCell ⟨b, 5, none⟩ v5).setCell ⟨b, 6, none⟩ v6).setCell ⟨b, 7, none⟩ v7).setCell ⟨b, 8, none⟩ v8).heap[b]? = some (.cells #[v0, v1, v2, v3, v4, v5, v6, v7, v8, c9] T (0, 0)) := heap_setCell_same _ b 8 _ _ v8 e7
  have e9 : ((((((((((u.setCell ⟨b, 0, none⟩ v0).setCell ⟨b, 1, none⟩ v1).setCell ⟨b, 2, none⟩ v2).setCell ⟨b, 3, none⟩ v3).setCell ⟨b, 4, none⟩ v4).setCell ⟨b, 5, none⟩ v5).setCell ⟨b, 6, none⟩ v6).setCell ⟨b, 7, none⟩ v7).setCell ⟨b, 8, none⟩ v8).setCell ⟨b, 9, none⟩ v9).heap[b]? = some (.cells #[v0, v1, v2, v3, v4, v5, v6, v7, v8, v9] T (0, 0)) := heap_setCell_same _ b 9 _ _ v9 e8
  exact e9
theorem put10 (u : World) (b : Nat) (v0 v1 v2 v3 v4 v5 v6 v7 v8 v9 : Value) : u.grownBy ((((((((((u.setCell ⟨b, 0, none⟩ v0).setCell ⟨b, 1, none⟩ v1).setCell ⟨b, 2, none⟩ v2).setCell ⟨b, 3, none⟩ v3).setCell ⟨b, 4, none⟩ v4).setCell ⟨b, 5, none⟩ v5).setCell ⟨b, 6, none⟩ v6).setCell ⟨b, 7, none⟩ v7).setCell ⟨b, 8, none⟩ v8).setCell ⟨b, 9, none⟩ v9) (some b) := by
  have e0 : u.grownBy (u.setCell ⟨b, 0, none⟩ v0) (some b) := grown_set _ b 0 _
  have e1 : u.grownBy ((u.setCell ⟨b, 0, none⟩ v0).setCell ⟨b, 1, none⟩ v1) (some b) := grown_trans e0 (grown_set _ b 1 _)
  have e2 : u.grownBy (((u.setCell ⟨b, 0, none⟩ v0).setCell ⟨b, 1, none⟩ v1).setCell ⟨b, 2, none⟩ v2) (some b) := grown_trans e1 (grown_set _ b 2 _)
  have e3 : u.grownBy ((((u.setCell ⟨b, 0, none⟩ v0).setCell ⟨b, 1, none⟩ v1).setCell ⟨b, 2, none⟩ v2).setCell ⟨b, 3, none⟩ v3) (some b) := grown_trans e2 (grown_set _ b 3 _)
  have e4 : u.grownBy (((((u.setCell ⟨b, 0, none⟩ v0).setCell ⟨b, 1, none⟩ v1).setCell ⟨b, 2, none⟩ v2).setCell ⟨b, 3, none⟩ v3).setCell ⟨b, 4, none⟩ v4) (some b) := grown_trans e3 (grown_set _ b 4 _)
  have e5 : u.grownBy ((((((u.setCell ⟨b, 0, none⟩ v0).setCell ⟨b, 1, none⟩ v1).setCell ⟨b, 2, none⟩ v2).setCell ⟨b, 3, none⟩ v3).setCell ⟨b, 4, none⟩ v4).setCell ⟨b, 5, none⟩ v5) (some b) := grown_trans e4 (grown_set _ b 5 _)
  have e6 : u.grownBy (((((((u.setCell ⟨b, 0, none⟩ v0).setCell ⟨b, 1, none⟩ v1).setCell ⟨b, 2, none⟩ v2).setCell ⟨b, 3, none⟩ v3).setCell ⟨b, 4, none⟩ v4).setCell ⟨b, 5, none⟩ v5).setCell ⟨b, 6, none⟩ v6) (some b) := grown_trans e5 (grown_set _ b 6 _)
  have e7 : u.grownBy ((((((((u.setCell ⟨b, 0, none⟩ v0).setCell ⟨b, 1, none⟩ v1).setCell ⟨b, 2, none⟩ v2).setCell ⟨b, 3, none⟩ v3).setCell ⟨b, 4, none⟩ v4).setCell ⟨b, 5, none⟩ v5).setCell ⟨b, 6, none⟩ v6).setCell ⟨b, 7, none⟩ v7) (some b) := grown_trans e6 (grown_set _ b 7 _)
  have e8 : u.grownBy (((((((((u.setCell ⟨b, 0, none⟩ v0).setCell ⟨b, 1, none⟩ v1).setCell ⟨b, 2, none⟩ v2).setCell ⟨b, 3, none⟩ v3).setCell ⟨b, 4, none⟩ v4).setCell ⟨b, 5, none⟩ v5).setCell ⟨b, 6, none⟩ v6).setCell ⟨b, 7, none⟩ v7).setCell ⟨b, 8, none⟩ v8) (some b) := grown_trans e7 (grown_set _ b 8 _)
  have e9 : u.grownBy ((((((((((u.setCell ⟨b, 0, none⟩ v0).setCell ⟨b, 1, none⟩ v1).setCell ⟨b, 2, none⟩ v2).setCell ⟨b, 3, none⟩ v3).setCell ⟨b, 4, none⟩ v4).setCell ⟨b, 5, none⟩ v5).setCell ⟨b, 6, none⟩ v6).setCell ⟨b, 7, none⟩ v7).setCell ⟨b, 8, none⟩ v8).setCell ⟨b, 9, none⟩ v9) (some b) := grown_trans e8 (grown_set _ b 9 _)
  exact e9
end Go.Proofs.YtcofhmikdkkigaaGreatDoor
namespace Go.Proofs.YtcofhmikdkkigaaGreatDoor
open Go.RowKit

set_option maxRecDepth 20000 in
set_option maxHeartbeats 1000000 in
theorem rankOf_big (ao : Option Addr) (n c : Nat) (j : Int) (w : World) (cT : ∀ u, Calls Tryz.prog 136 #[.slice ao n c] u fun e w' => e = .returned (.bool false) ∧ w' = u) :
    Calls Tryz.prog 80 #[.slice ao n c, .int .i64 j] w fun x w' => x = .returned (.agg #[.int .u64 0, .int .u64 0, .int .u64 0, .int .u64 0, .int .u64 0, .int .u64 0, .int .u64 0, .int .u64 0, .int .u64 0, .int .u64 0]) ∧ Fr w w' := by
  obtain ⟨W, hW⟩ : ∃ W, W = w.alloc (.cells #[.int .u64 0, .int .u64 0, .int .u64 0, .int .u64 0, .int .u64 0, .int .u64 0, .int .u64 0, .int .u64 0, .int .u64 0, .int .u64 0] 112) := ⟨_, rfl⟩
  have fW : Fr w W := by rw [hW]; exact Fr.alloc w _
  have rW : W.heap[w.heap.size]? = some (.cells #[.int .u64 0, .int .u64 0, .int .u64 0, .int .u64 0, .int .u64 0, .int .u64 0, .int .u64 0, .int .u64 0, .int .u64 0, .int .u64 0] 112 (0, 0)) := by rw [hW]; exact heap_alloc_new w _
  go_enter Tryz.func80, Tryz.ntmps80
  go_wp2_with fail
  refine (cT _).mono ?_
  rintro e u0 ⟨rfl, rfl⟩
  go_wp2_with fail
  rw [← hW]
  clear hW
  have d0 := cell_of_row _ _ 0 _ _ _ rW
  have d1 := cell_of_row _ _ 1 _ _ _ rW
  have d2 := cell_of_row _ _ 2 _ _ _ rW
  have d3 := cell_of_row _ _ 3 _ _ _ rW
  have d4 := cell_of_row _ _ 4 _ _ _ rW
  have d5 := cell_of_row _ _ 5 _ _ _ rW
  have d6 := cell_of_row _ _ 6 _ _ _ rW
  have d7 := cell_of_row _ _ 7 _ _ _ rW
  have d8 := cell_of_row _ _ 8 _ _ _ rW
  have d9 := cell_of_row _ _ 9 _ _ _ rW
  refine bodyPost_ret (v := .agg #[.int .u64 0, .int .u64 0, .int .u64 0, .int .u64 0, .int .u64 0, .int .u64 0, .int .u64 0, .int .u64 0, .int .u64 0, .int .u64 0]) (by simp [results, Tryz.results80, go_sem, d0, d1, d2, d3, d4, d5, d6, d7, d8, d9]) rfl ⟨rfl, fW⟩

set_option maxRecDepth 20000 in
set_option maxHeartbeats 1000000 in
theorem rankOf_no (ao : Option Addr) (n c : Nat) (j : Int) (w : World) (hn : n ≤ 300) (cT : ∀ u, Calls Tryz.prog 136 #[.slice ao n c] u fun e w' => e = .returned (.bool true) ∧ w' = u)
    (cI : ∀ u, Calls Tryz.prog 65 #[.int .i64 j, .int .i64 0, .int .i64 ((n : Int) - 1)] u fun e w' => e = .returned (.bool false) ∧ w' = u) :
    Calls Tryz.prog 80 #[.slice ao n c, .int .i64 j] w fun x w' => x = .returned (.agg #[.int .u64 0, .int .u64 0, .int .u64 0, .int .u64 0, .int .u64 0, .int .u64 0, .int .u64 0, .int .u64 0, .int .u64 0, .int .u64 0]) ∧ Fr w w' := by
  have hwz : IntKind.i64.wrap ((n : Int) - 1) = (n : Int) - 1 := by rw [IntKind.wrap_i64]; omega
  obtain ⟨W, hW⟩ : ∃ W, W = w.alloc (.cells #[.int .u64 0, .int .u64 0, .int .u64 0, .int .u64 0, .int .u64 0, .int .u64 0, .int .u64 0, .int .u64 0, .int .u64 0, .int .u64 0] 112) := ⟨_, rfl⟩
  have fW : Fr w W := by rw [hW]; exact Fr.alloc w _
  have rW : W.heap[w.heap.size]? = some (.cells #[.int .u64 0, .int .u64 0, .int .u64 0, .int .u64 0, .int .u64 0, .int .u64 0, .int .u64 0, .int .u64 0, .int .u64 0, .int .u64 0] 112 (0, 0)) := by rw [hW]; exact heap_alloc_new w _
  go_enter Tryz.func80, Tryz.ntmps80
  go_wp2_with fail
  refine (cT _).mono ?_
  rintro e u0 ⟨rfl, rfl⟩
  go_wp2_with fail
  refine (cI _).mono ?_
  rintro e u2 ⟨rfl, rfl⟩
  go_wp2_with fail
  rw [← hW]
  clear hW
  have d0 := cell_of_row _ _ 0 _ _ _ rW
  have d1 := cell_of_row _ _ 1 _ _ _ rW
  have d2 := cell_of_row _ _ 2 _ _ _ rW
  have d3 := cell_of_row _ _ 3 _ _ _ rW
  have d4 := cell_of_row _ _ 4 _ _ _ rW
  have d5 := cell_of_row _ _ 5 _ _ _ rW
  have d6 := cell_of_row _ _ 6 _ _ _ rW
  have d7 := cell_of_row _ _ 7 _ _ _ rW
  have d8 := cell_of_row _ _ 8 _ _ _ rW
  have d9 := cell_of_row _ _ 9 _ _ _ rW
  refine bodyPost_ret (v := .agg #[.int .u64 0, .int .u64 0, .int .u64 0, .int .u64 0, .int .u64 0, .int .u64 0, .int .u64 0, .int .u64 0, .int .u64 0, .int .u64 0]) (by simp [results, Tryz.results80, go_sem, d0, d1, d2, d3, d4, d5, d6, d7, d8, d9]) rfl ⟨rfl, fW⟩

end Go.Proofs.YtcofhmikdkkigaaGreatDoor
namespace Go.Proofs.YtcofhmikdkkigaaGreatDoor
open Go.RowKit

set_option maxRecDepth 20000 in
set_option maxHeartbeats 400000 in
theorem rankOf_in (ao : Option Addr) (n c J L : Nat) (w : World) (hn : n ≤ 300) (hJn : J < n) (hnc : n ≤ c) (EN BN : Nat → Nat) (cT : ∀ u, Calls Tryz.prog 136 #[.slice ao n c] u fun e w' => e = .returned (.bool true) ∧ w' = u)
    (cI : ∀ u, Calls Tryz.prog 65 #[.int .i64 J, .int .i64 0, .int .i64 ((n : Int) - 1)] u fun e w' => e = .returned (.bool true) ∧ w' = u)
    (cR : ∀ W, Fr w W → Calls Tryz.prog 130 #[.slice ao (J + 1) c] W fun x w' => ∃ g cap, x = .returned (.slice (some ⟨g, 0, none⟩) L cap) ∧ RkW w' g L EN BN ∧ W.heap.size ≤ g ∧ Fr W w') (N M : Nat) (hL : J < L) (hN : EN J = N) (hM : BN J = M) :
    Calls Tryz.prog 80 #[.slice ao n c, .int .i64 J] w fun x w' => x = .returned (.agg #[.int .u64 (wd N 0), .int .u64 (wd N 1), .int .u64 (wd N 2), .int .u64 (wd N 3), .int .u64 (wd N 4), .int .u64 (wd M 0), .int .u64 (wd M 1), .int .u64 (wd M 2), .int .u64 (wd M 3), .int .u64 (wd M 4)]) ∧ Fr w w' := by
  have hwz : IntKind.i64.wrap ((n : Int) - 1) = (n : Int) - 1 := by rw [IntKind.wrap_i64]; omega
  have hJi : (J : Int) < (L : Int) := by omega
  have hJn2 : ¬ ((L : Int) ≤ (J : Int)) := by omega
  have hJn3 : ((L : Int) ≤ (J : Int)) = False := by simp; omega
  have HJ : Hid (J < L) := hL
  have hJc : (J : Int) + 1 ≤ c := by omega
  obtain ⟨W, hW⟩ : ∃ W, W = w.alloc (.cells #[.int .u64 0, .int .u64 0, .int .u64 0, .int .u64 0, .int .u64 0, .int .u64 0, .int .u64 0, .int .u64 0, .int .u64 0, .int .u64 0] 112) := ⟨_, rfl⟩
  have fW : Fr w W := by rw [hW]; exact Fr.alloc w _
  have rW : W.heap[w.heap.size]? = some (.cells #[.int .u64 0, .int .u64 0, .int .u64 0, .int .u64 0, .int .u64 0, .int .u64 0, .int .u64 0, .int .u64 0, .int .u64 0, .int .u64 0] 112 (0, 0)) := by rw [hW]; exact heap_alloc_new w _
  have cR := cR W fW
  go_enter Tryz.func80, Tryz.ntmps80
  go_wp2_with fail
  refine (cT _).mono ?_
  rintro e u0 ⟨rfl, rfl⟩
  go_wp2_with fail
  refine (cI _).mono ?_
  rintro e u2 ⟨rfl, rfl⟩
  go_wp2_with fail
  rw [← hW]
  clear hW cT cI
  obtain ⟨RB, hRB⟩ : ∃ RB, RB = w.heap.size := ⟨_, rfl⟩
  rw [← hRB] at rW ⊢
  have HRB : Hid (RB = w.heap.size) := hRB
  clear hRB
  obtain ⟨K, hK⟩ : ∃ K, K = J + 1 := ⟨_, rfl⟩
  rw [← hK] at cR ⊢
  clear hK
  refine cR.mono ?_
  rintro x u3 ⟨g, cap, rfl, R3, g3, f3⟩
  have eA := R3.ed J HJ.out
  have eB := R3.bf J HJ.out
  rw [hN] at eA
  rw [hM] at eB
  have r3 := (f3.block _ (Array.getElem?_eq_some_iff.1 rW).1 (by simp)).trans rW
  have F3 := fW.trans f3
  have rr : RowAt u3 RB 112 := ⟨_, r3⟩
  have v0 := rr.free 0
  have c0 := cell_of_row _ _ 0 _ _ _ r3
  have v1 := rr.free 1
  have c1 := cell_of_row _ _ 1 _ _ _ r3
  have v2 := rr.free 2
  have c2 := cell_of_row _ _ 2 _ _ _ r3
  have v3 := rr.free 3
  have c3 := cell_of_row _ _ 3 _ _ _ r3
  have v4 := rr.free 4
  have c4 := cell_of_row _ _ 4 _ _ _ r3
  have v5 := rr.free 5
  have c5 := cell_of_row _ _ 5 _ _ _ r3
  have v6 := rr.free 6
  have c6 := cell_of_row _ _ 6 _ _ _ r3
  have v7 := rr.free 7
  have c7 := cell_of_row _ _ 7 _ _ _ r3
  have v8 := rr.free 8
  have c8 := cell_of_row _ _ 8 _ _ _ r3
  have v9 := rr.free 9
  have c9 := cell_of_row _ _ 9 _ _ _ r3
  clear rW cR f3 fW rr R3 hN hM hL
  have a0 := eA 0 (by omega)
  have b0 := eB 0 (by omega)
  have a1 := eA 1 (by omega)
  have b1 := eB 1 (by omega)
  have a2 := eA 2 (by omega)
  have b2 := eB 2 (by omega)
  have a3 := eA 3 (by omega)
  have b3 := eB 3 (by omega)
  have a4 := eA 4 (by omega)
  have b4 := eB 4 (by omega)
  simp only [Nat.add_zero, Nat.add_assoc, Nat.reduceAdd] at a0 a1 a2 a3 a4 b0 b1 b2 b3 b4
  have HRow := row10 r3 (.int .u64 (wd N 0)) (.int .u64 (wd N 1)) (.int .u64 (wd N 2)) (.int .u64 (wd N 3)) (.int .u64 (wd N 4)) (.int .u64 (wd M 0)) (.int .u64 (wd M 1)) (.int .u64 (wd M 2)) (.int .u64 (wd M 3)) (.int .u64 (wd M 4))
  have HFr := F3.then (put10 u3 RB (.int .u64 (wd N 0)) (.int .u64 (wd N 1)) (.int .u64 (wd N 2)) (.int .u64 (wd N 3)) (.int .u64 (wd N 4)) (.int .u64 (wd M 0)) (.int .u64 (wd M 1)) (.int .u64 (wd M 2)) (.int .u64 (wd M 3)) (.int .u64 (wd M 4))) (fun k hk => by cases hk; have := HRB.out; omega)
  have HRow : Hid _ := HRow
  have HFr : Hid _ := HFr
  clear eA eB F3 r3
  go_wp2_with fail
  have d0 := cell_of_row _ _ 0 _ _ _ HRow.out
  have d1 := cell_of_row _ _ 1 _ _ _ HRow.out
  have d2 := cell_of_row _ _ 2 _ _ _ HRow.out
  have d3 := cell_of_row _ _ 3 _ _ _ HRow.out
  have d4 := cell_of_row _ _ 4 _ _ _ HRow.out
  have d5 := cell_of_row _ _ 5 _ _ _ HRow.out
  have d6 := cell_of_row _ _ 6 _ _ _ HRow.out
  have d7 := cell_of_row _ _ 7 _ _ _ HRow.out
  have d8 := cell_of_row _ _ 8 _ _ _ HRow.out
  have d9 := cell_of_row _ _ 9 _ _ _ HRow.out
  refine bodyPost_ret (v := .agg #[.int .u64 (wd N 0), .int .u64 (wd N 1), .int .u64 (wd N 2), .int .u64 (wd N 3), .int .u64 (wd N 4), .int .u64 (wd M 0), .int .u64 (wd M 1), .int .u64 (wd M 2), .int .u64 (wd M 3), .int .u64 (wd M 4)]) (by simp [results, Tryz.results80, go_sem, d0, d1, d2, d3, d4, d5, d6, d7, d8, d9]) rfl ⟨rfl, HFr.out⟩
set_option maxRecDepth 20000 in
set_option maxHeartbeats 400000 in
theorem rankOf_out (ao : Option Addr) (n c J L : Nat) (w : World) (hn : n ≤ 300) (hJn : J < n) (hnc : n ≤ c) (EN BN : Nat → Nat) (cT : ∀ u, Calls Tryz.prog 136 #[.slice ao n c] u fun e w' => e = .returned (.bool true) ∧ w' = u)
    (cI : ∀ u, Calls Tryz.prog 65 #[.int .i64 J, .int .i64 0, .int .i64 ((n : Int) - 1)] u fun e w' => e = .returned (.bool true) ∧ w' = u)
    (cR : ∀ W, Fr w W → Calls Tryz.prog 130 #[.slice ao (J + 1) c] W fun x w' => ∃ g cap, x = .returned (.slice (some ⟨g, 0, none⟩) L cap) ∧ RkW w' g L EN BN ∧ W.heap.size ≤ g ∧ Fr W w') (hL : L ≤ J) :
    Calls Tryz.prog 80 #[.slice ao n c, .int .i64 J] w fun x w' => x = .returned (.agg #[.int .u64 0, .int .u64 0, .int .u64 0, .int .u64 0, .int .u64 0, .int .u64 0, .int .u64 0, .int .u64 0, .int .u64 0, .int .u64 0]) ∧ Fr w w' := by
  have hwz : IntKind.i64.wrap ((n : Int) - 1) = (n : Int) - 1 := by rw [IntKind.wrap_i64]; omega
  have hJn3 : ((L : Int) ≤ (J : Int)) = True := by simp; omega
  have hJc : (J : Int) + 1 ≤ c := by omega
  obtain ⟨W, hW⟩ : ∃ W, W = w.alloc (.cells #[.int .u64 0, .int .u64 0, .int .u64 0, .int .u64 0, .int .u64 0, .int .u64 0, .int .u64 0, .int .u64 0, .int .u64 0, .int .u64 0] 112) := ⟨_, rfl⟩
  have fW : Fr w W := by rw [hW]; exact Fr.alloc w _
  have rW : W.heap[w.heap.size]? = some (.cells #[.int .u64 0, .int .u64 0, .int .u64 0, .int .u64 0, .int .u64 0, .int .u64 0, .int .u64 0, .int .u64 0, .int .u64 0, .int .u64 0] 112 (0, 0)) := by rw [hW]; exact heap_alloc_new w _
  have cR := cR W fW
  go_enter Tryz.func80, Tryz.ntmps80
  go_wp2_with fail
  refine (cT _).mono ?_
  rintro e u0 ⟨rfl, rfl⟩
  go_wp2_with fail
  refine (cI _).mono ?_
  rintro e u2 ⟨rfl, rfl⟩
  go_wp2_with fail
  rw [← hW]
  clear hW cT cI
  obtain ⟨RB, hRB⟩ : ∃ RB, RB = w.heap.size := ⟨_, rfl⟩
  rw [← hRB] at rW ⊢
  have HRB : Hid (RB = w.heap.size) := hRB
  clear hRB
  obtain ⟨K, hK⟩ : ∃ K, K = J + 1 := ⟨_, rfl⟩
  rw [← hK] at cR ⊢
  clear hK
  refine cR.mono ?_
  rintro x u3 ⟨g, cap, rfl, R3, g3, f3⟩
  have r3 := (f3.block _ (Array.getElem?_eq_some_iff.1 rW).1 (by simp)).trans rW
  have F3 := fW.trans f3
  have rr : RowAt u3 RB 112 := ⟨_, r3⟩
  have v0 := rr.free 0
  have c0 := cell_of_row _ _ 0 _ _ _ r3
  have v1 := rr.free 1
  have c1 := cell_of_row _ _ 1 _ _ _ r3
  have v2 := rr.free 2
  have c2 := cell_of_row _ _ 2 _ _ _ r3
  have v3 := rr.free 3
  have c3 := cell_of_row _ _ 3 _ _ _ r3
  have v4 := rr.free 4
  have c4 := cell_of_row _ _ 4 _ _ _ r3
  have v5 := rr.free 5
  have c5 := cell_of_row _ _ 5 _ _ _ r3
  have v6 := rr.free 6
  have c6 := cell_of_row _ _ 6 _ _ _ r3
  have v7 := rr.free 7
  have c7 := cell_of_row _ _ 7 _ _ _ r3
  have v8 := rr.free 8
  have c8 := cell_of_row _ _ 8 _ _ _ r3
  have v9 := rr.free 9
  have c9 := cell_of_row _ _ 9 _ _ _ r3
  clear rW cR f3 fW rr R3 hL
  have HRow := row10 r3 (.int .u64 0) (.int .u64 0) (.int .u64 0) (.int .u64 0) (.int .u64 0) (.int .u64 0) (.int .u64 0) (.int .u64 0) (.int .u64 0) (.int .u64 0)
  have HFr := F3.then (put10 u3 RB (.int .u64 0) (.int .u64 0) (.int .u64 0) (.int .u64 0) (.int .u64 0) (.int .u64 0) (.int .u64 0) (.int .u64 0) (.int .u64 0) (.int .u64 0)) (fun k hk => by cases hk; have := HRB.out; omega)
  have HRow : Hid _ := HRow
  have HFr : Hid _ := HFr
  clear F3 r3
  go_wp2_with fail
  have d0 := cell_of_row _ _ 0 _ _ _ HRow.out
  have d1 := cell_of_row _ _ 1 _ _ _ HRow.out
  have d2 := cell_of_row _ _ 2 _ _ _ HRow.out
  have d3 := cell_of_row _ _ 3 _ _ _ HRow.out
  have d4 := cell_of_row _ _ 4 _ _ _ HRow.out
  have d5 := cell_of_row _ _ 5 _ _ _ HRow.out
  have d6 := cell_of_row _ _ 6 _ _ _ HRow.out
  have d7 := cell_of_row _ _ 7 _ _ _ HRow.out
  have d8 := cell_of_row _ _ 8 _ _ _ HRow.out
  have d9 := cell_of_row _ _ 9 _ _ _ HRow.out
  refine bodyPost_ret (v := .agg #[.int .u64 0, .int .u64 0, .int .u64 0, .int .u64 0, .int .u64 0, .int .u64 0, .int .u64 0, .int .u64 0, .int .u64 0, .int .u64 0]) (by simp [results, Tryz.results80, go_sem, d0, d1, d2, d3, d4, d5, d6, d7, d8, d9]) rfl ⟨rfl, HFr.out⟩
end Go.Proofs.YtcofhmikdkkigaaGreatDoor
