/-
  A region that draws its order, whose LAST operation waits for all others: whatever class of worlds the others keep (it may depend on what has come up).
-/
import Derived.Test.YtcofhmikdkkigaaGreatDoorPfAZ
namespace Go.Proofs.YtcofhmikdkkigaaGreatDoor
open Go.RowKit

section
variable {P : Program} {ops : Array Oper} {Q : Exit → Act → World → Prop}

/-- What holds when L has come up. -/
def LastC (ops : Array Oper) (Q : Exit → Act → World → Prop) (n : Nat) (dst cons : Nat → Nat) (mk : (Nat → Value) → Act) (R : Nat → Value → World → Prop) (C : (Nat → Bool) → World → Prop) (L : Nat → Bool) (a : Act) (u : World) : Prop :=
  (∀ (j : Nat) (o : Oper), ops[j]? = some o → L j = true → ∀ e ∈ o.after, Region.binds .any e = true → L e.on = true) ∧
  ((L n = false ∧ ∃ X, a = mk X ∧ C L u ∧ ∀ i, i < n → L i = true → L (cons i) = false → R i (X (dst i)) u) ∨
   ((∀ i, i < n + 1 → L i = true) ∧ Q .normal a u))

theorem wp_region_last {id : Nat} {a : Act} {w : World} (n q : Nat) (dst cons : Nat → Nat) (mk : (Nat → Value) → Act) (R : Nat → Value → World → Prop) (C : (Nat → Bool) → World → Prop) (hC : C (fun _ => false) w.drew)
    (hn : ops.size = n + 1) (hm : P.follows .mixedOrders = true) (hlex : lexOkB ops = true) (hs : Region.sinkB .any ops n = true) (hqn : q < n) (hsq : Region.sinkB .any ops q = true)
    (hd : ∀ i j, i < n → j < n → dst i = dst j → i = j) (hc : consOk ops n cons = true) (X0 : Nat → Value) (ha : a = mk X0)
    (step : ∀ (i : Nat) (o : Oper) X u L, i < n → ops[i]? = some o → C L u → L i = false → L (cons i) = false → (i < q → L q = false) → (i = q → ∀ k, k < q → L k = true) → (∀ k, k < i → cons k = i → R k (X (dst k)) u) →
      Region.wanted o (yielded ops (mk X).tmps) = true ∧ o.wp P (mk X) u (fun a' u' => ∃ v, a' = mk (upd X (dst i) v) ∧ C (cameL L i) u' ∧ R i v u' ∧ ∀ k x, k < n → k ≠ i → cons k ≠ i → L (cons k) = false → R k x u → R k x u') Q)
    (piv : ∀ (o : Oper) X u L, ops[n]? = some o → C L u → (∀ k, k < n → L k = true) → (∀ k, k < n → cons k = n → R k (X (dst k)) u) →
      Region.wanted o (yielded ops (mk X).tmps) = true ∧ o.wp P (mk X) u (fun a' u' => Q .normal a' u') Q) :
    (Code.region id ops true).wp P Q a w := by
  have hlx := lexB_of hlex
  have hcw : ∀ i, i < n → ∃ o, ops[cons i]? = some o ∧ ∃ e ∈ o.after, Region.binds .any e = true ∧ e.on = i := fun i hi => by
    have h1 := List.all_eq_true.1 hc i (List.mem_range.2 hi)
    obtain ⟨oj, h2, e, he, hb, hon⟩ := Region.waitsFor_spec h1
    exact ⟨oj, h2, e, he, hb, hon⟩
  have hcl : ∀ i, i < n → i < cons i := fun i hi => by
    obtain ⟨o, ho, e, he, hb, hon⟩ := hcw i hi
    have := hlx _ o ho e he hb
    omega
  refine wp_region_inv (LastC ops Q n dst cons mk R C) hm hlex ⟨fun _ _ _ q => (by cases q), .inl ⟨rfl, X0, ha, hC, fun _ _ q => (by cases q)⟩⟩ ?_ ?_
  · rintro i o L a u ho ⟨hcl2, hI⟩ hL hE
    have hi : i < n + 1 := by rw [← hn]; exact (Array.getElem?_eq_some_iff.1 ho).1
    have hcl3 : ∀ (j : Nat) (o' : Oper), ops[j]? = some o' → cameL L i j = true → ∀ e ∈ o'.after, Region.binds .any e = true → cameL L i e.on = true := fun j o' ho' hj e he hb => by
      by_cases hji : j = i
      · subst hji
        rw [ho] at ho'
        cases ho'
        have := hE e he hb
        unfold cameL
        split
        · rfl
        · exact this
      · unfold cameL at hj
        rw [if_neg hji] at hj
        have := hcl2 j o' ho' hj e he hb
        unfold cameL
        split
        · rfl
        · exact this
    rcases hI with ⟨hLn, X, rfl, hF, hX⟩ | ⟨hall, -⟩
    · by_cases hin : i = n
      · subst hin
        have hall := late_all hs hcl2 ho hE
        have hall2 : ∀ k, k < i → L k = true := fun k hk => hall (i - k) k (Nat.le_refl _) hk
        obtain ⟨h1, h2⟩ := piv o X u L ho hF hall2 (fun k hk hck => hX k hk (hall2 k hk) (by rw [hck]; exact hL))
        refine ⟨h1, Oper.wp_mono (fun a' u' q => ⟨hcl3, .inr ⟨fun k hk => ?_, q⟩⟩) h2⟩
        unfold cameL
        split
        · rfl
        · exact hall2 k (by omega)
      · have hi2 : i < n := by omega
        have hLc : L (cons i) = false := by
          cases hv : L (cons i)
          · rfl
          · obtain ⟨oc, hoc, e, he, hb, hon⟩ := hcw i hi2
            have := hcl2 _ oc hoc hv e he hb
            rw [hon, hL] at this
            cases this
        obtain ⟨h1, h2⟩ := step i o X u L hi2 ho hF hL hLc (fun hiq => by
          cases hv : L q
          · rfl
          · obtain ⟨oq, hoq⟩ : ∃ oq, ops[q]? = some oq := ⟨ops[q], Array.getElem?_eq_getElem (by omega)⟩
            have := late_all hsq hcl2 hoq (hcl2 q oq hoq hv) (q - i) i (Nat.le_refl _) hiq
            rw [hL] at this
            cases this) (fun hiq k hk => by subst hiq; exact late_all hsq hcl2 ho hE (i - k) k (Nat.le_refl _) hk) (fun k hk hck => by
          obtain ⟨oc, hoc, e, he, hb, hon⟩ := hcw k (by omega)
          rw [hck, ho] at hoc
          cases hoc
          have := hE e he hb
          rw [hon] at this
          exact hX k (by omega) this (by rw [hck]; exact hL))
        refine ⟨h1, Oper.wp_mono (fun a' u' q => ⟨hcl3, .inl ⟨?_, ?_⟩⟩) h2⟩
        · unfold cameL; rw [if_neg (by omega)]; exact hLn
        · obtain ⟨v, rfl, f', r', st⟩ := q
          refine ⟨_, rfl, f', fun k hk hlk hck => ?_⟩
          by_cases hki : k = i
          · subst hki
            rw [upd_same]
            exact r'
          · unfold cameL at hlk hck
            rw [if_neg hki] at hlk
            by_cases hci : cons k = i
            · rw [if_pos hci] at hck; cases hck
            · rw [if_neg hci] at hck
              rw [upd_ne _ _ (fun q => hki (hd _ _ hk hi2 q))]
              exact st k _ hk hki hci hck (hX k hk hlk hck)
    · have := hall i hi
      rw [hL] at this
      cases this
  · rintro L a u ⟨-, hI⟩ hall
    rw [hn] at hall
    rcases hI with ⟨hLn, -⟩ | ⟨-, q⟩
    · have := hall n (by omega); rw [hLn] at this; cases this
    · exact q
end
end Go.Proofs.YtcofhmikdkkigaaGreatDoor
