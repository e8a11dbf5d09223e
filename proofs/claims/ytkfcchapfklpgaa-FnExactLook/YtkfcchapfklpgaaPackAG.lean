/-
  A region that draws its order, makes one new block and stores into it; all else that it yields is known ahead, whatever the order ('x, y := f(g(a), h(b))' of plain values).
-/
import Derived.Test.YtkfcchapfklpgaaPackAD
import Derived.Test.YtkfcchapfklpgaaPackAB
import Derived.Test.YtkfcchapfklpgaaPackAF
namespace Go.Proofs.Ytkfcchapfklpgaa
open Go.RowKit

structure BoxI (n A S : Nat) (sg : Nat → Nat) (val : Nat → Value) (Z : World → Nat → Bool → Prop) (w : World) (L : Nat → Bool) (X : Nat → Value) (p : Nat) (u : World) : Prop where
  fr : Fr w u
  at_ : ∀ i, i < n → L i = true → i ≠ A → i ≠ S → X (sg i) = val i
  bx : L A = true → X (sg A) = .pointer (some ⟨p, 0, none⟩) ∧ w.heap.size ≤ p ∧ Z u p (L S)
  sa : L S = true → L A = true

theorem wp_region_box {P : Program} {ops : Array Oper} {Q : Exit → Act → World → Prop} {id : Nat} {a : Act} {w : World} (n A S : Nat) (sg : Nat → Nat) (val : Nat → Value) (mk : (Nat → Value) → Act) (Z : World → Nat → Bool → Prop)
    (hn : ops.size = n) (hm : P.follows .mixedOrders = true) (hlex : lexOkB ops = true) (hA : A < n) (hS : S < n) (hAS : A ≠ S) (hd : ∀ i j, i < n → j < n → sg i = sg j → i = j)
    (hZ : ∀ u u' p b, Z u p b → Fr u u' → Z u' p b) (ha : a = mk (fun _ => undef))
    (hw : ∀ o, ops[S]? = some o → ∃ e ∈ o.after, e.on = A ∧ Region.binds .any e = true)
    (step : ∀ (i : Nat) (o : Oper) X u, i < n → i ≠ A → i ≠ S → ops[i]? = some o → Fr w u → (∀ e ∈ o.after, Region.binds .any e = true → e.on ≠ A → e.on ≠ S → X (sg e.on) = val e.on) →
      Region.wanted o (yielded ops (mk X).tmps) = true ∧ o.wp P (mk X) u (fun a' u' => a' = mk (upd X (sg i) (val i)) ∧ Fr u u') Q)
    (sA : ∀ (o : Oper) X u, ops[A]? = some o → Fr w u →
      Region.wanted o (yielded ops (mk X).tmps) = true ∧ o.wp P (mk X) u (fun a' u' => ∃ p, a' = mk (upd X (sg A) (.pointer (some ⟨p, 0, none⟩))) ∧ Fr u u' ∧ u.heap.size ≤ p ∧ Z u' p false) Q)
    (sS : ∀ (o : Oper) X p u, ops[S]? = some o → Fr w u → w.heap.size ≤ p → Z u p false → X (sg A) = .pointer (some ⟨p, 0, none⟩) → (∀ e ∈ o.after, Region.binds .any e = true → e.on ≠ A → e.on ≠ S → X (sg e.on) = val e.on) →
      Region.wanted o (yielded ops (mk X).tmps) = true ∧ o.wp P (mk X) u (fun a' u' => a' = mk X ∧ u.grownBy u' (some p) ∧ Z u' p true) Q)
    (done : ∀ X p u, Fr w u → w.heap.size ≤ p → Z u p true → X (sg A) = .pointer (some ⟨p, 0, none⟩) → (∀ i, i < n → i ≠ A → i ≠ S → X (sg i) = val i) → Q .normal (mk X) u) :
    (Code.region id ops true).wp P Q a w := by
  have hlx := lexB_of hlex
  refine wp_region_inv (fun L a u => ∃ X p, a = mk X ∧ BoxI n A S sg val Z w L X p u) hm hlex ⟨fun _ => undef, 0, ha, Fr.drew w, fun _ _ q => (by cases q), fun q => (by cases q), fun q => (by cases q)⟩ ?_ ?_
  · rintro i o L a u ho ⟨X, p, rfl, I⟩ hL hE
    have hi : i < n := by rw [← hn]; exact (Array.getElem?_eq_some_iff.1 ho).1
    have hX : ∀ e ∈ o.after, Region.binds .any e = true → e.on ≠ A → e.on ≠ S → X (sg e.on) = val e.on := fun e he hb h1 h2 =>
      I.at_ e.on (by have := hlx i o ho e he hb; omega) (hE e he hb) h1 h2
    by_cases hiA : i = A
    · subst hiA
      obtain ⟨h1, h2⟩ := sA o X u ho I.fr
      have hLS : L S = false := by
        cases h : L S
        · rfl
        · have := I.sa h; rw [hL] at this; cases this
      refine ⟨h1, Oper.wp_mono (fun a' u' q => ?_) h2⟩
      obtain ⟨p', rfl, f', hp', z'⟩ := q
      refine ⟨_, p', rfl, I.fr.trans f', fun k hk hl k1 k2 => ?_, fun _ => ⟨upd_same _ _ _, by have := I.fr.size; omega, ?_⟩, fun h => ?_⟩
      · rw [upd_ne _ _ (fun q => k1 (hd _ _ hk hA q))]
        simp only [cameL, if_neg k1] at hl
        exact I.at_ k hk hl k1 k2
      · simp only [cameL, if_neg (Ne.symm hAS), hLS]; exact z'
      · simp [cameL]
    · by_cases hiS : i = S
      · subst hiS
        obtain ⟨e, he, hon, hb⟩ := hw o ho
        have hLA : L A = true := by rw [← hon]; exact hE e he hb
        obtain ⟨b1, b2, b3⟩ := I.bx hLA
        rw [hL] at b3
        obtain ⟨h1, h2⟩ := sS o X p u ho I.fr b2 b3 b1 hX
        refine ⟨h1, Oper.wp_mono (fun a' u' q => ?_) h2⟩
        obtain ⟨rfl, g', z'⟩ := q
        refine ⟨X, p, rfl, I.fr.then g' (by intro j hj; cases hj; omega), fun k hk hl k1 k2 => ?_, fun _ => ⟨b1, b2, ?_⟩, fun _ => ?_⟩
        · simp only [cameL, if_neg k2] at hl
          exact I.at_ k hk hl k1 k2
        · simp only [cameL, if_true]; exact z'
        · simp only [cameL, if_neg hAS, hLA]
      · obtain ⟨h1, h2⟩ := step i o X u hi hiA hiS ho I.fr hX
        refine ⟨h1, Oper.wp_mono (fun a' u' q => ?_) h2⟩
        obtain ⟨rfl, f'⟩ := q
        refine ⟨_, p, rfl, I.fr.trans f', fun k hk hl k1 k2 => ?_, fun h => ?_, fun h => ?_⟩
        · by_cases e : k = i
          · subst e; exact upd_same _ _ _
          · rw [upd_ne _ _ (fun q => e (hd _ _ hk hi q))]
            simp only [cameL, if_neg e] at hl
            exact I.at_ k hk hl k1 k2
        · simp only [cameL, if_neg (Ne.symm hiA)] at h
          obtain ⟨b1, b2, b3⟩ := I.bx h
          refine ⟨by rw [upd_ne _ _ (fun q => hiA (hd _ _ hA hi q).symm)]; exact b1, b2, ?_⟩
          simp only [cameL, if_neg (Ne.symm hiS)]
          exact hZ _ _ _ _ b3 f'
        · simp only [cameL, if_neg (Ne.symm hiS)] at h
          simp only [cameL, if_neg (Ne.symm hiA)]
          exact I.sa h
  · rintro L a u ⟨X, p, rfl, I⟩ hall
    rw [hn] at hall
    obtain ⟨b1, b2, b3⟩ := I.bx (hall A hA)
    rw [hall S hS] at b3
    exact done X p u I.fr b2 b3 b1 (fun i hi h1 h2 => I.at_ i hi (hall i hi) h1 h2)
end Go.Proofs.Ytkfcchapfklpgaa

