/-
  A region that draws its order and has a pivot: what stands ahead of it is quiet in one class of worlds, what stands behind it in another one; the pivot turns the one into the other.
-/
import Derived.Test.YtkfcchapfklpgaaInts
import Derived.StillTail
import Derived.Deep.Quiet
namespace Go.Proofs.Ytkfcchapfklpgaa
open Go.RowKit

section
variable {P : Program} {md : Region.Mode} {ops : Array Oper} {C C2 : World → Prop}

/-- Each operation behind number n waits for one from n on. -/
def behindB (md : Region.Mode) (ops : Array Oper) (n : Nat) : Bool :=
  (List.range ops.size).all fun t => decide (t ≤ n) || (List.range t).any fun s => decide (n ≤ s) && Region.waitsFor md ops t s
/-- The first n come up in the text's order, then number n alone may; what follows it is lexical too. -/
def headB (md : Region.Mode) (ops : Array Oper) : Nat → Nat → Array Bool → Bool
  | 0, k, listed => decide (Region.ready md ops listed = [k]) && Region.lexFrom md ops (ops.size - k - 1) (k + 1) (listed.setIfInBounds k true)
  | f + 1, k, listed => (Region.ready md ops listed).contains k && Region.free md ops listed k && headB md ops f (k + 1) (listed.setIfInBounds k true)
def pivotB (md : Region.Mode) (ops : Array Oper) (n : Nat) : Bool :=
  Region.noSelect ops && decide (n < ops.size) && Region.sinkB md ops n && behindB md ops n && headB md ops n 0 (Array.replicate ops.size false)

theorem sink_wait {n i : Nat} (hs : Region.sinkB md ops n = true) (hi : i < n) : ∃ j, i < j ∧ j ≤ n ∧ Region.waitsFor md ops j i = true := by
  unfold Region.sinkB at hs
  have h1 := List.all_eq_true.1 hs i (List.mem_range.2 hi)
  obtain ⟨j, hj, h2⟩ := List.any_eq_true.1 h1
  simp only [Bool.and_eq_true, decide_eq_true_eq] at h2
  have := List.mem_range.1 hj
  exact ⟨j, h2.1, by omega, h2.2⟩
theorem pivot_waits {n : Nat} (hs : Region.sinkB md ops n = true) {listed : Array Bool} (inv : HeadInv md ops n listed) : ∀ (d i : Nat), n - i ≤ d → i < n → listed.getD i false = false → n ∉ Region.ready md ops listed
  | 0, i, hd, hi, _ => by omega
  | d + 1, i, hd, hi, hl => by
    obtain ⟨j, h1, h2, h3⟩ := sink_wait hs hi
    obtain ⟨oj, ho, e, he, hb, hon⟩ := Region.waitsFor_spec h3
    by_cases hjn : j = n
    · subst hjn
      intro hr
      obtain ⟨-, o, ho2, hall⟩ := mem_ready.1 hr
      rw [ho] at ho2
      cases ho2
      have := hall e he hb
      rw [hon, hl] at this
      cases this
    · refine pivot_waits hs inv d j (by omega) (by omega) ?_
      cases hj : listed.getD j false
      · rfl
      · have := inv.closed j oj ho hj e he hb
        rw [hon, hl] at this
        cases this
theorem behind_not {n t : Nat} (hb : behindB md ops n = true) {listed : Array Bool} (inv : HeadInv md ops n listed) (ht : n < t) : t ∉ Region.ready md ops listed := by
  intro hr
  obtain ⟨-, o, ho, hall⟩ := mem_ready.1 hr
  have hts := (Array.getElem?_eq_some_iff.1 ho).1
  unfold behindB at hb
  have h1 := List.all_eq_true.1 hb t (List.mem_range.2 hts)
  simp only [Bool.or_eq_true, decide_eq_true_eq] at h1
  rcases h1 with h1 | h1
  · omega
  · obtain ⟨s, hs, h2⟩ := List.any_eq_true.1 h1
    simp only [Bool.and_eq_true, decide_eq_true_eq] at h2
    obtain ⟨oj, ho2, e, he, hbd, hon⟩ := Region.waitsFor_spec h2.2
    rw [ho] at ho2
    cases ho2
    have h3 := hall e he hbd
    have h4 := inv.tail s h2.1 (by have := List.mem_range.1 hs; omega)
    rw [hon, getD_both h4] at h3
    cases h3

/-- Whatever order the first n come up in. -/
def wpHd (P : Program) (md : Region.Mode) (ops : Array Oper) (C : World → Prop) (n : Nat) (L : Array Bool → Act → Prop) : Nat → Array Bool → Act → Prop
  | 0, listed, a => L listed a
  | f + 1, listed, a => Region.ready md ops listed ≠ [] ∧ ∀ i ∈ Region.ready md ops listed, i < n ∧ qOp P ops C i (wpHd P md ops C n L f (listed.setIfInBounds i true)) a

theorem wpAny_of_hd {n g : Nat} {L : Array Bool → Act → Prop} {Q' : Exit → Act → World → Prop} (hL : ∀ listed a w, C w → L listed a → wpAny P md ops Q' g listed a w) :
    ∀ (f : Nat) (listed : Array Bool) (a : Act) (w : World), C w → wpHd P md ops C n L f listed a → wpAny P md ops Q' (f + g) listed a w
  | 0, listed, a, w, hw, h => by rw [Nat.zero_add]; exact hL _ _ _ hw h
  | f + 1, listed, a, w, hw, h => by
    have e : f + 1 + g = (f + g) + 1 := by omega
    rw [e]
    exact ⟨fun h0 => absurd h0 h.1, fun i hi => wpOp_of_qOp hw (fun a' w' hw' h' => wpAny_of_hd hL f _ a' w' hw' h') (h.2 i hi).2⟩

theorem hd_first {n i : Nat} {oi : Oper} {v : Value} {L : Array Bool → Act → Prop} (hi : ops[i]? = some oi) (hsel : Region.noSelect ops = true) (hs : Region.sinkB md ops n = true) (hb : behindB md ops n = true) (hin : i < n)
    (hdone : ∀ listed a, L listed a → ∀ j ∈ Region.ready md ops listed, n ≤ j) :
    ∀ (f : Nat) (listed : Array Bool) (a : Act), HeadInv md ops n listed →
      (∀ j oj, ops[j]? = some oj → j ≠ i → listed.getD j true = false → (∀ e ∈ oj.after, Region.binds md e = true → e.on ≠ i) → oi.apart ops oj = true) →
      i ∈ Region.ready md ops listed → YieldsIn P ops C oi v a →
      wpHd P md ops C n L f (listed.setIfInBounds i true) (a.put oi.dst v) → wpHd P md ops C n L (f + 1) listed a := by
  intro f
  induction f with
  | zero =>
    intro listed a inv _ hr hy H
    refine ⟨fun h => by rw [h] at hr; (cases hr), fun j hj => ?_⟩
    have hjn : j < n := by
      have h1 := pivot_waits hs inv (n - i) i (Nat.le_refl _) hin (getD_both (mem_ready.1 hr).1)
      have h2 := fun q : n < j => behind_not hb inv q hj
      by_cases e : j = n
      · rw [e] at hj; exact absurd hj h1
      · exact Nat.lt_of_le_of_ne (Nat.not_lt.1 h2) e
    refine ⟨hjn, ?_⟩
    by_cases hji : j = i
    · subst hji
      exact hy.qOp hi H
    · have := hdone _ _ H j (ready_mono hj hji)
      omega
  | succ f ih =>
    intro listed a inv hfree hr hy H
    refine ⟨fun h => by rw [h] at hr; (cases hr), fun j hj => ?_⟩
    have hjn : j < n := by
      have h1 := pivot_waits hs inv (n - i) i (Nat.le_refl _) hin (getD_both (mem_ready.1 hr).1)
      have h2 := fun q : n < j => behind_not hb inv q hj
      by_cases e : j = n
      · rw [e] at hj; exact absurd hj h1
      · exact Nat.lt_of_le_of_ne (Nat.not_lt.1 h2) e
    refine ⟨hjn, ?_⟩
    by_cases hji : j = i
    · subst hji
      exact hy.qOp hi H
    · have h1 := (H.2 j (ready_mono hj hji)).2
      obtain ⟨hjun, oj, hoj, hall⟩ := mem_ready.1 hj
      have hnot : ∀ e ∈ oj.after, Region.binds md e = true → e.on ≠ i := fun e he hbd heq => by
        have h3 := hall e he hbd
        rw [heq, getD_both (mem_ready.1 hr).1] at h3
        cases h3
      have h2 := qOp_put hoj (hfree j oj hoj hji hjun hnot) (fun cs b => Region.noSelect_spec hsel i oi cs b hi) (fun cs b => Region.noSelect_spec hsel j oj cs b hoj) hy h1
      refine qOp_mono (fun a' h3 => ih (listed.setIfInBounds j true) a' (inv.set hj hjn) (fun k ok hk hki hun hno => ?_) (ready_mono hr (Ne.symm hji)) h3.1 ?_) h2
      · refine hfree k ok hk hki ?_ hno
        by_cases hjk : j = k
        · subst hjk; exact hjun
        · rw [getD_set_ne true hjk] at hun; exact hun
      · rw [Array.setIfInBounds_comm _ _ hji]
        exact h3.2

theorem hd_lex {n : Nat} {Lq : Act → Prop} (hsel : Region.noSelect ops = true) (hs : Region.sinkB md ops n = true) (hb : behindB md ops n = true) :
    ∀ (l : List Oper) (k : Nat) (listed : Array Bool) (a : Act), (∀ j, j < l.length → l[j]? = ops[k + j]?) → k + l.length = n → HeadInv md ops n listed →
    headB md ops l.length k listed = true → wpQuiet P ops C Lq l a →
    wpHd P md ops C n (fun listed' a' => headB md ops 0 n listed' = true ∧ Lq a') l.length listed a
  | [], k, listed, a, _, hk, _, hB, h => by
    have : k = n := by simpa using hk
    subst this
    exact ⟨hB, h⟩
  | o :: l, k, listed, a, hl, hk, inv, hB, h => by
    have h0 : ops[k]? = some o := by simpa using (hl 0 (by simp)).symm
    simp only [List.length_cons, headB, Bool.and_eq_true] at hB
    obtain ⟨⟨hr, hf⟩, hB'⟩ := hB
    have hkn : k < n := by simp only [List.length_cons] at hk; omega
    have hr' : k ∈ Region.ready md ops listed := by simpa using hr
    have hst : qOp P ops C k (wpQuiet P ops C Lq l) a := by unfold qOp; simp only [h0]; exact h
    obtain ⟨v, hy, hK⟩ := yieldsIn_of_qOp h0 hst
    refine hd_first h0 hsel hs hb hkn (fun listed' a' hL j hj => ?_) l.length listed a inv (Region.free_spec h0 hf) hr' hy
      (hd_lex hsel hs hb l (k + 1) _ _ (fun j hj => by have := hl (j + 1) (by simpa using hj); simpa [Nat.add_assoc, Nat.add_comm 1 j] using this) (by simp only [List.length_cons] at hk; omega) (inv.set hr' hkn) hB' hK)
    have h1 := hL.1
    simp only [headB, Bool.and_eq_true, decide_eq_true_eq] at h1
    rw [h1.1] at hj
    simp only [List.mem_singleton] at hj
    omega

theorem wp_region_pivot {id : Nat} {Q : Exit → Act → World → Prop} {a : Act} {w : World} {l : List Oper} (n : Nat) (hm : P.follows .mixedOrders = true) (hB : pivotB .any l.toArray n = true) (hC : C w.drew)
    (h : wpQuiet P l.toArray C (fun a1 => ∀ u, C u → ∀ o, l[n]? = some o → Region.wanted o (yielded l.toArray a1.tmps) = true ∧
      o.wp P a1 u (fun a2 u2 => C2 u2 ∧ wpQuiet P l.toArray C2 (fun a' => ∀ w', C2 w' → Q .normal a' w') (l.drop (n + 1)) a2) Q) (l.take n) a) : (Code.region id l.toArray true).wp P Q a w := by
  simp only [pivotB, Bool.and_eq_true, decide_eq_true_eq] at hB
  obtain ⟨⟨⟨⟨hsel, hn⟩, hs⟩, hb⟩, hh⟩ := hB
  have hn' : n < l.length := by simpa using hn
  have htl : (l.take n).length = n := by simp; omega
  have inv0 : HeadInv .any l.toArray n (Array.replicate l.toArray.size false) :=
    ⟨by simp, fun j oj _ hl => (by rw [getD_replicate_false] at hl; cases hl), fun t _ ht => getD_in (by simpa using ht) (getD_replicate_false _ _)⟩
  have H := hd_lex (P := P) (C := C) (md := .any) hsel hs hb (l.take n) 0 (Array.replicate l.toArray.size false) a (fun j hj => by
    have hj' : j < n := by rw [htl] at hj; exact hj
    simp [hj']) (by simpa using htl) inv0 (by rw [htl]; exact hh) h
  refine wp_region_any hm ?_
  have hgo := wpAny_of_hd (P := P) (C := C) (md := .any) (Q' := Q) (g := l.toArray.size - n) (fun listed a1 u hu hL => ?_) _ _ _ w.drew hC H
  · rw [htl] at hgo
    have e : n + (l.toArray.size - n) = l.toArray.size := by omega
    rw [e] at hgo
    exact hgo
  · obtain ⟨h1, h2⟩ := hL
    simp only [headB, Bool.and_eq_true, decide_eq_true_eq] at h1
    obtain ⟨hr, hlex⟩ := h1
    have e : l.toArray.size - n = (l.toArray.size - n - 1) + 1 := by omega
    rw [e]
    refine ⟨fun h0 => (by rw [hr] at h0; cases h0), fun i hi => ?_⟩
    rw [hr] at hi
    simp only [List.mem_singleton] at hi
    subst hi
    obtain ⟨o, ho⟩ : ∃ o, l[i]? = some o := ⟨l[i], by simp [hn']⟩
    have hoA : l.toArray[i]? = some o := by simpa using ho
    obtain ⟨hw, hwp⟩ := h2 u hu o ho
    unfold wpOp
    simp only [hoA]
    rw [if_pos hw]
    refine .inl (Oper.wp_mono (fun a2 u2 hq => ?_) hwp)
    have hdl : (l.drop (i + 1)).length = l.toArray.size - i - 1 := by simp; omega
    have hq2 := wpAnyQ_lex (P := P) (C := C2) (md := .any) hsel (l.drop (i + 1)) (i + 1) _ a2 (fun j => by simp [List.getElem?_drop]) (by rw [hdl]; exact hlex) hq.2
    rw [hdl] at hq2
    exact wpAny_of_quiet (fun a' w' hw' h' => h' w' hw') _ _ _ _ hq.1 hq2
end
end Go.Proofs.Ytkfcchapfklpgaa
