/-
  Who is before whom, by the specification's rows: the model.
-/
import Derived.Test.YtplnijpolkflcaaGreatDoorPqBM
namespace Go.Proofs.YtplnijpolkflcaaGreatDoor
open Go.RowKit

/-- A row of truths: the places of a set. -/
def RowF (w : World) (b n X : Nat) : Prop := ∀ i, i < n → w.cell? ⟨b, i, none⟩ = some (.bool (X.testBit i))
theorem RowF.set {w : World} {b n X L : Nat} (h : RowF w b n X) (hL : L < n) : RowF (w.setCell ⟨b, L, none⟩ (.bool true)) b n (X ||| 2 ^ L) := by
  intro i hi
  by_cases e : i = L
  · subst e
    rw [World.cell?_setCell_same' _ _ _ (by rw [h i hi]; rfl)]
    simp [Nat.testBit_or, Nat.testBit_two_pow_self]
  · have hne : (⟨b, L, none⟩ : Addr) ≠ ⟨b, i, none⟩ := fun q => e (by injection q; omega)
    rw [World.cell?_setCell_other _ _ _ _ hne, h i hi, Nat.testBit_or, Nat.testBit_two_pow, decide_eq_false (fun q => e q.symm), Bool.or_false]
theorem RowF.keep {w w' : World} {b n X : Nat} {row : Option Nat} (h : RowF w b n X) (k : w.grownBy w' row) (hne : some b ≠ row) : RowF w' b n X := fun i hi => k.cell (h i hi) hne
theorem RowF.fr {w w' : World} {b n X : Nat} (h : RowF w b n X) (k : Fr w w') : RowF w' b n X := h.keep k (by simp)
theorem RowF.cong {w : World} {b n X Y : Nat} (h : RowF w b n X) (e : ∀ i, i < n → X.testBit i = Y.testBit i) : RowF w b n Y := fun i hi => by rw [h i hi, e i hi]

/-- What is gathered over a list of edges. -/
def accS (bf : Nat → Nat) (xs : List Nat) : Nat := xs.foldl (fun X l => X ||| 2 ^ l ||| bf l) 0
theorem accS_snoc (bf : Nat → Nat) (xs : List Nat) (l : Nat) : accS bf (xs ++ [l]) = accS bf xs ||| 2 ^ l ||| bf l := by simp [accS]
theorem accS_go (bf : Nat → Nat) (i : Nat) : ∀ (xs : List Nat) (X : Nat), (xs.foldl (fun X l => X ||| 2 ^ l ||| bf l) X).testBit i = true ↔ X.testBit i = true ∨ ∃ l ∈ xs, l = i ∨ (bf l).testBit i = true
  | [], X => by simp
  | l :: xs, X => by
    rw [List.foldl_cons, accS_go bf i xs, Nat.testBit_or, Nat.testBit_or, Nat.testBit_two_pow, Bool.or_eq_true, Bool.or_eq_true, decide_eq_true_eq]
    simp only [List.mem_cons, exists_eq_or_imp, or_assoc]
theorem accS_bit (bf : Nat → Nat) (xs : List Nat) (i : Nat) : (accS bf xs).testBit i = true ↔ ∃ l ∈ xs, l = i ∨ (bf l).testBit i = true := by
  unfold accS
  rw [accS_go]
  simp
theorem accS_bef (E : Nat → Nat → Bool) (j : Nat) : accS (befN E) ((List.range j).filter fun i => E i j) = befN E j := by
  apply set_eq
  intro i
  have : (accS (befN E) ((List.range j).filter fun i => E i j)).testBit i = true ↔ (befN E j).testBit i = true := by
    rw [accS_bit, befN_bit, bef_iff]
    simp only [List.mem_filter, List.mem_range, befN_bit, and_assoc]
  cases h1 : (accS (befN E) ((List.range j).filter fun i => E i j)).testBit i <;> cases h2 : (befN E j).testBit i <;> simp_all
theorem befN_high (E : Nat → Nat → Bool) {j i : Nat} (h : j ≤ i) : (befN E j).testBit i = false := by
  cases hb : (befN E j).testBit i
  · rfl
  · have := ((befN_bit E j i).1 hb).lt
    omega
/-- The places of a set below p. -/
def lowS (X p : Nat) : Nat := setOf (fun i => X.testBit i) p
theorem lowS_bit (X p i : Nat) : (lowS X p).testBit i = (decide (i < p) && X.testBit i) := setOf_bit _ _ _
theorem lowS_succ (X p : Nat) : lowS X (p + 1) = if X.testBit p = true then lowS X p ||| 2 ^ p else lowS X p := rfl
theorem lowS_bef (E : Nat → Nat → Bool) (j : Nat) : lowS (befN E j) j = befN E j := by
  apply set_eq
  intro i
  rw [lowS_bit]
  by_cases h : i < j
  · rw [decide_eq_true h, Bool.true_and]
  · rw [befN_high E (by omega), Bool.and_false]
theorem Bef.cong2 {E E' : Nat → Nat → Bool} {j q : Nat} (h : Bef E q j) (he : ∀ i k, i < k → k ≤ j → E i k = E' i k) : Bef E' q j := by
  induction h with
  | edge l e => exact .edge l (by rw [← he _ _ l (Nat.le_refl _)]; exact e)
  | more b l e ih => exact .more (ih fun i k h1 h2 => he i k h1 (by omega)) l (by rw [← he _ _ l (Nat.le_refl _)]; exact e)
theorem befN_cong2 {E E' : Nat → Nat → Bool} {j : Nat} (he : ∀ i k, i < k → k ≤ j → E i k = E' i k) : befN E j = befN E' j := by
  apply set_eq
  intro i
  have : (befN E j).testBit i = true ↔ (befN E' j).testBit i = true := by
    rw [befN_bit, befN_bit]
    exact ⟨fun h => h.cong2 he, fun h => h.cong2 fun a b c d => (he a b c d).symm⟩
  cases h1 : (befN E j).testBit i <;> cases h2 : (befN E' j).testBit i <;> simp_all

/-- The specification's ways are the program's. -/
theorem befN_legal {es : List Ev} (hl : es.length ≤ 300) (hleg : (legS scn0 es).2.1 = es.length) {j : Nat} (hj : j < es.length) : befN (edgeT es (tssL es es.length)) j = befN (eE es) j := by
  apply befN_cong2
  intro i k h1 h2
  unfold eE
  rw [edN_bit hl (by omega), decide_eq_true h1, Bool.true_and]
  unfold edgeT edgeB
  rw [tssL_get hl hleg (by omega), tssL_get hl hleg (by omega)]
theorem befN_part {es : List Ev} {n j : Nat} (h : j < n) : befN (eE (es.take n)) j = befN (eE es) j := by
  apply befN_cong2
  intro i k h1 h2
  unfold eE
  rw [edN_take (by omega)]
theorem lpL_bef {es : List Ev} {J : Nat} (hJ : J < (lpL es).length) : 0 ≤ legLen es ∧ befN (eE (lpL es)) J = (rJ es J).2 := by
  have hb : 0 ≤ legLen es := by
    by_cases q : 0 ≤ legLen es
    · exact q
    · unfold lpL at hJ
      have : (legLen es).toNat = 0 := by omega
      rw [this] at hJ
      simp at hJ
  obtain ⟨h1, h2, h3, h4, h5⟩ := lpL_leg hb
  have e2 : rJ es J = (edN es J, befN (eE es) J) := by
    unfold rJ
    rw [if_pos ⟨by omega, by omega⟩, Int.toNat_natCast]
  refine ⟨hb, ?_⟩
  rw [e2, h5]
  exact befN_part (by omega)
theorem lpL_out {es : List Ev} {j : Int} (q : ¬ (0 ≤ j ∧ j < (lpL es).length)) : rJ es j = (0, 0) := by
  unfold rJ
  rw [if_neg]
  rintro ⟨q1, q2⟩
  have h2 := lpL_leg (es := es) (by omega)
  exact q ⟨q1, by omega⟩
theorem lpL_300 (es : List Ev) : (lpL es).length ≤ 300 := by
  by_cases q : 0 ≤ legLen es
  · have h2 := lpL_leg q
    have := leg_len es scn0
    omega
  · unfold lpL
    have : (legLen es).toNat = 0 := by omega
    rw [this]
    simp
/-- Of a legal list, what the first ones are. -/
def KindsOk (es : List Ev) : Prop := ∀ j (hj : j < es.length), (1 ≤ es[j].k ∧ es[j].k ≤ 22) ∧ (es[j].k = 7 ∨ es[j].k = 8 → capK es[j].o (es.take j) ≠ 0)
theorem KindsOk.part {es : List Ev} (h : KindsOk es) (n : Nat) : KindsOk (es.take n) := by
  intro j hj
  have hj2 : j < es.length := by simp at hj; omega
  have hjn : j < n := by simp at hj; omega
  have e : (es.take n)[j] = es[j] := by simp
  have e2 : (es.take n).take j = es.take j := by rw [List.take_take]; congr 1; omega
  rw [e, e2]
  exact h j hj2
theorem leg_cut {es : List Ev} (hleg : (legS scn0 es).2.1 = es.length) {n : Nat} (hn : n ≤ es.length) : (legS scn0 (es.take n)).2.1 = (es.take n).length := by
  have h1 := leg_part es scn0 n (by omega)
  rw [h1.1]
  simp
  omega
end Go.Proofs.YtplnijpolkflcaaGreatDoor
