/-
  Texts in one.
-/
import Derived.Test.YtcofhmikdkkigaaGreatDoorPrAV
import Derived.Test.YtcofhmikdkkigaaGreatDoorPrAC
import Derived.Test.YtcofhmikdkkigaaGreatDoorPrBF
import Derived.Test.YtcofhmikdkkigaaGreatDoorPrBC
import Derived.Test.YtcofhmikdkkigaaGreatDoorPrBB
namespace Go.Proofs.YtcofhmikdkkigaaGreatDoor
open Go.RowKit

section
variable {P : Program} {ops : Array Oper} {Q : Exit → Act → World → Prop}

def consOk (ops : Array Oper) (n : Nat) (cons : Nat → Nat) : Bool := (List.range n).all fun i => Region.waitsFor .any ops (cons i) i

theorem late_all {n : Nat} (hs : Region.sinkB .any ops n = true) {L : Nat → Bool}
    (hc : ∀ (j : Nat) (o : Oper), ops[j]? = some o → L j = true → ∀ e ∈ o.after, Region.binds .any e = true → L e.on = true)
    {on : Oper} (ho : ops[n]? = some on) (hr : ∀ e ∈ on.after, Region.binds .any e = true → L e.on = true) : ∀ (d i : Nat), n - i ≤ d → i < n → L i = true
  | 0, i, hd, hi => by omega
  | d + 1, i, hd, hi => by
    obtain ⟨j, h1, h2, h3⟩ := sink_wait hs hi
    obtain ⟨oj, hoj, e, he, hb, hon⟩ := Region.waitsFor_spec h3
    by_cases hjn : j = n
    · subst hjn
      rw [ho] at hoj
      cases hoj
      have := hr e he hb
      rwa [hon] at this
    · have hj := late_all hs hc ho hr d j (by omega) (by omega)
      have := hc j oj hoj hj e he hb
      rwa [hon] at this

def LateI (P : Program) (ops : Array Oper) (Q : Exit → Act → World → Prop) (n : Nat) (dst cons : Nat → Nat) (mk : (Nat → Value) → Act) (R : Nat → Value → World → Prop) (w : World) (L : Nat → Bool) (a : Act) (u : World) : Prop :=
  (∀ (j : Nat) (o : Oper), ops[j]? = some o → L j = true → ∀ e ∈ o.after, Region.binds .any e = true → L e.on = true) ∧
  ((L n = false ∧ L (n + 1) = false ∧ ∃ X, a = mk X ∧ Fr w u ∧ ∀ i, i < n → L i = true → L (cons i) = false → R i (X (dst i)) u) ∨
   (L n = true ∧ L (n + 1) = false ∧ (∀ i, i < n → L i = true) ∧ ∀ o2, ops[n + 1]? = some o2 → Region.wanted o2 (yielded ops a.tmps) = true ∧ o2.wp P a u (fun a2 u2 => Q .normal a2 u2) Q) ∨
   ((∀ i, i < n + 2 → L i = true) ∧ Q .normal a u))

theorem wp_region_late {id : Nat} {a : Act} {w : World} (n : Nat) (dst cons : Nat → Nat) (mk : (Nat → Value) → Act) (R : Nat → Value → World → Prop)
    (hn : ops.size = n + 2) (hm : P.follows .mixedOrders = true) (hlex : lexOkB ops = true) (hs : Region.sinkB .any ops n = true) (hw : Region.waitsFor .any ops (n + 1) n = true)
    (hd : ∀ i j, i < n → j < n → dst i = dst j → i = j) (hc : consOk ops n cons = true) (X0 : Nat → Value) (ha : a = mk X0)
    (step : ∀ (i : Nat) (o : Oper) X u, i < n → ops[i]? = some o → Fr w u → (∀ k, k < i → cons k = i → R k (X (dst k)) u) →
      Region.wanted o (yielded ops (mk X).tmps) = true ∧ o.wp P (mk X) u (fun a' u' => ∃ v, a' = mk (upd X (dst i) v) ∧ Fr w u' ∧ R i v u' ∧ ∀ k x, k < n → k ≠ i → cons k ≠ i → R k x u → R k x u') Q)
    (piv : ∀ (o o2 : Oper) X u, ops[n]? = some o → ops[n + 1]? = some o2 → Fr w u → (∀ k, k < n → cons k = n → R k (X (dst k)) u) →
      Region.wanted o (yielded ops (mk X).tmps) = true ∧ o.wp P (mk X) u (fun a' u' => Region.wanted o2 (yielded ops a'.tmps) = true ∧ o2.wp P a' u' (fun a2 u2 => Q .normal a2 u2) Q) Q) :
    (Code.region id ops true).wp P Q a w := by
  have hlx := lexB_of hlex
  have hcw : ∀ i, i < n → ∃ o, ops[cons i]? = some o ∧ ∃ e ∈ o.after, Region.binds .any e = true ∧ e.on = i := fun i hi => by
    have h1 := List.all_eq_true.1 hc i (List.mem_range.2 hi)
    obtain ⟨oj, h2, e, he, hb, hon⟩ := Region.waitsFor_spec h1
    exact ⟨oj, h2, e, he, hb, hon⟩
  have hcl : ∀ i, i < n → i < cons i := fun i hi => by
    obtain ⟨o, ho, e, he, hb, hon⟩ := hcw i hi
    have := hlx _ o ho e he hb
    omega
  refine wp_region_inv (LateI P ops Q n dst cons mk R w) hm hlex ⟨fun _ _ _ q => (by cases q), .inl ⟨rfl, rfl, X0, ha, Fr.drew w, fun _ _ q => (by cases q)⟩⟩ ?_ ?_
  · rintro i o L a u ho ⟨hcl2, hI⟩ hL hE
    have hi : i < n + 2 := by rw [← hn]; exact (Array.getElem?_eq_some_iff.1 ho).1
    have hcl3 : ∀ (j : Nat) (o' : Oper), ops[j]? = some o' → cameL L i j = true → ∀ e ∈ o'.after, Region.binds .any e = true → cameL L i e.on = true := fun j o' ho' hj e he hb => by
      by_cases hji : j = i
      · subst hji
        rw [ho] at ho'
        cases ho'
        have := hE e he hb
        unfold cameL
        split
        · rfl
        · exact this
      · unfold cameL at hj
        rw [if_neg hji] at hj
        have := hcl2 j o' ho' hj e he hb
        unfold cameL
        split
        · rfl
        · exact this
    rcases hI with ⟨hLn, hLn1, X, rfl, hF, hX⟩ | ⟨hLn, hLn1, hall, hM⟩ | ⟨hall, -⟩
    · have hin1 : i ≠ n + 1 := by
        intro e
        subst e
        obtain ⟨oj, h2, e, he, hb, hon⟩ := Region.waitsFor_spec hw
        rw [ho] at h2
        cases h2
        have := hE e he hb
        rw [hon, hLn] at this
        cases this
      by_cases hin : i = n
      · subst hin
        have hall := late_all hs hcl2 ho hE
        obtain ⟨o2, ho2⟩ : ∃ o2, ops[i + 1]? = some o2 := ⟨ops[i + 1], Array.getElem?_eq_getElem (by omega)⟩
        obtain ⟨h1, h2⟩ := piv o o2 X u ho ho2 hF (fun k hk hck => hX k hk (hall (i - k) k (Nat.le_refl _) hk) (by rw [hck]; exact hL))
        refine ⟨h1, Oper.wp_mono (fun a' u' q => ⟨hcl3, .inr (.inl ⟨by simp [cameL], ?_, fun k hk => ?_, fun o3 ho3 => ?_⟩)⟩) h2⟩
        · unfold cameL; rw [if_neg (by omega)]; exact hLn1
        · unfold cameL; rw [if_neg (by omega)]; exact hall (i - k) k (Nat.le_refl _) hk
        · rw [ho2] at ho3; cases ho3; exact q
      · have hi2 : i < n := by omega
        obtain ⟨h1, h2⟩ := step i o X u hi2 ho hF (fun k hk hck => by
          obtain ⟨oc, hoc, e, he, hb, hon⟩ := hcw k (by omega)
          rw [hck, ho] at hoc
          cases hoc
          have := hE e he hb
          rw [hon] at this
          exact hX k (by omega) this (by rw [hck]; exact hL))
        refine ⟨h1, Oper.wp_mono (fun a' u' q => ⟨hcl3, .inl ⟨?_, ?_, ?_⟩⟩) h2⟩
        · unfold cameL; rw [if_neg (by omega)]; exact hLn
        · unfold cameL; rw [if_neg (by omega)]; exact hLn1
        · obtain ⟨v, rfl, f', r', st⟩ := q
          refine ⟨_, rfl, f', fun k hk hlk hck => ?_⟩
          by_cases hki : k = i
          · subst hki
            rw [upd_same]
            exact r'
          · unfold cameL at hlk hck
            rw [if_neg hki] at hlk
            by_cases hci : cons k = i
            · rw [if_pos hci] at hck; cases hck
            · rw [if_neg hci] at hck
              rw [upd_ne _ _ (fun q => hki (hd _ _ hk hi2 q))]
              exact st k _ hk hki hci (hX k hk hlk hck)
    · have hin : i = n + 1 := by
        by_cases h1 : i = n + 1
        · exact h1
        · exfalso
          by_cases h2 : i = n
          · subst h2; rw [hLn] at hL; cases hL
          · have := hall i (by omega); rw [hL] at this; cases this
      subst hin
      obtain ⟨h1, h2⟩ := hM o ho
      refine ⟨h1, Oper.wp_mono (fun a' u' q => ⟨hcl3, .inr (.inr ⟨fun k hk => ?_, q⟩)⟩) h2⟩
      unfold cameL
      split
      · rfl
      · rename_i hk2
        by_cases hk3 : k = n
        · subst hk3; exact hLn
        · exact hall k (by omega)
    · have := hall i hi
      rw [hL] at this
      cases this
  · rintro L a u ⟨-, hI⟩ hall
    rw [hn] at hall
    rcases hI with ⟨hLn, -, -⟩ | ⟨-, hLn1, -⟩ | ⟨-, q⟩
    · have := hall n (by omega); rw [hLn] at this; cases this
    · have := hall (n + 1) (by omega); rw [hLn1] at this; cases this
    · exact q
end
end Go.Proofs.YtcofhmikdkkigaaGreatDoor

namespace Go.Proofs.YtcofhmikdkkigaaGreatDoor
open Go.RowKit

section
variable {P : Program} {ops : Array Oper} {Q : Exit → Act → World → Prop}

def LateC (P : Program) (ops : Array Oper) (Q : Exit → Act → World → Prop) (n : Nat) (dst cons : Nat → Nat) (mk : (Nat → Value) → Act) (R : Nat → Value → World → Prop) (C : (Nat → Bool) → World → Prop) (L : Nat → Bool) (a : Act) (u : World) : Prop :=
  (∀ (j : Nat) (o : Oper), ops[j]? = some o → L j = true → ∀ e ∈ o.after, Region.binds .any e = true → L e.on = true) ∧
  ((L n = false ∧ L (n + 1) = false ∧ ∃ X, a = mk X ∧ C L u ∧ ∀ i, i < n → L i = true → L (cons i) = false → R i (X (dst i)) u) ∨
   (L n = true ∧ L (n + 1) = false ∧ (∀ i, i < n → L i = true) ∧ ∀ o2, ops[n + 1]? = some o2 → Region.wanted o2 (yielded ops a.tmps) = true ∧ o2.wp P a u (fun a2 u2 => Q .normal a2 u2) Q) ∨
   ((∀ i, i < n + 2 → L i = true) ∧ Q .normal a u))

theorem wp_region_late2 {id : Nat} {a : Act} {w : World} (n : Nat) (dst cons : Nat → Nat) (mk : (Nat → Value) → Act) (R : Nat → Value → World → Prop) (C : (Nat → Bool) → World → Prop) (hC : C (fun _ => false) w.drew)
    (hn : ops.size = n + 2) (hm : P.follows .mixedOrders = true) (hlex : lexOkB ops = true) (hs : Region.sinkB .any ops n = true) (hw : Region.waitsFor .any ops (n + 1) n = true)
    (hd : ∀ i j, i < n → j < n → dst i = dst j → i = j) (hc : consOk ops n cons = true) (X0 : Nat → Value) (ha : a = mk X0)
    (step : ∀ (i : Nat) (o : Oper) X u L, i < n → ops[i]? = some o → C L u → L i = false → L (cons i) = false → (∀ k, k < i → cons k = i → R k (X (dst k)) u) → (∀ k, k < n → cons k = n → Region.waitsFor .any ops i k = true → R k (X (dst k)) u) →
      Region.wanted o (yielded ops (mk X).tmps) = true ∧ o.wp P (mk X) u (fun a' u' => ∃ v, a' = mk (upd X (dst i) v) ∧ C (cameL L i) u' ∧ R i v u' ∧ ∀ k x, k < n → k ≠ i → cons k ≠ i → R k x u → R k x u') Q)
    (piv : ∀ (o o2 : Oper) X u L, ops[n]? = some o → ops[n + 1]? = some o2 → C L u → (∀ k, k < n → cons k = n → R k (X (dst k)) u) →
      Region.wanted o (yielded ops (mk X).tmps) = true ∧ o.wp P (mk X) u (fun a' u' => Region.wanted o2 (yielded ops a'.tmps) = true ∧ o2.wp P a' u' (fun a2 u2 => Q .normal a2 u2) Q) Q) :
    (Code.region id ops true).wp P Q a w := by
  have hlx := lexB_of hlex
  have hcw : ∀ i, i < n → ∃ o, ops[cons i]? = some o ∧ ∃ e ∈ o.after, Region.binds .any e = true ∧ e.on = i := fun i hi => by
    have h1 := List.all_eq_true.1 hc i (List.mem_range.2 hi)
    obtain ⟨oj, h2, e, he, hb, hon⟩ := Region.waitsFor_spec h1
    exact ⟨oj, h2, e, he, hb, hon⟩
  have hcl : ∀ i, i < n → i < cons i := fun i hi => by
    obtain ⟨o, ho, e, he, hb, hon⟩ := hcw i hi
    have := hlx _ o ho e he hb
    omega
  refine wp_region_inv (LateC P ops Q n dst cons mk R C) hm hlex ⟨fun _ _ _ q => (by cases q), .inl ⟨rfl, rfl, X0, ha, hC, fun _ _ q => (by cases q)⟩⟩ ?_ ?_
  · rintro i o L a u ho ⟨hcl2, hI⟩ hL hE
    have hi : i < n + 2 := by rw [← hn]; exact (Array.getElem?_eq_some_iff.1 ho).1
    have hcl3 : ∀ (j : Nat) (o' : Oper), ops[j]? = some o' → cameL L i j = true → ∀ e ∈ o'.after, Region.binds .any e = true → cameL L i e.on = true := fun j o' ho' hj e he hb => by
      by_cases hji : j = i
      · subst hji
        rw [ho] at ho'
        cases ho'
        have := hE e he hb
        unfold cameL
        split
        · rfl
        · exact this
      · unfold cameL at hj
        rw [if_neg hji] at hj
        have := hcl2 j o' ho' hj e he hb
        unfold cameL
        split
        · rfl
        · exact this
    rcases hI with ⟨hLn, hLn1, X, rfl, hF, hX⟩ | ⟨hLn, hLn1, hall, hM⟩ | ⟨hall, -⟩
    · have hin1 : i ≠ n + 1 := by
        intro e
        subst e
        obtain ⟨oj, h2, e, he, hb, hon⟩ := Region.waitsFor_spec hw
        rw [ho] at h2
        cases h2
        have := hE e he hb
        rw [hon, hLn] at this
        cases this
      by_cases hin : i = n
      · subst hin
        have hall := late_all hs hcl2 ho hE
        obtain ⟨o2, ho2⟩ : ∃ o2, ops[i + 1]? = some o2 := ⟨ops[i + 1], Array.getElem?_eq_getElem (by omega)⟩
        obtain ⟨h1, h2⟩ := piv o o2 X u L ho ho2 hF (fun k hk hck => hX k hk (hall (i - k) k (Nat.le_refl _) hk) (by rw [hck]; exact hL))
        refine ⟨h1, Oper.wp_mono (fun a' u' q => ⟨hcl3, .inr (.inl ⟨by simp [cameL], ?_, fun k hk => ?_, fun o3 ho3 => ?_⟩)⟩) h2⟩
        · unfold cameL; rw [if_neg (by omega)]; exact hLn1
        · unfold cameL; rw [if_neg (by omega)]; exact hall (i - k) k (Nat.le_refl _) hk
        · rw [ho2] at ho3; cases ho3; exact q
      · have hi2 : i < n := by omega
        have hLc : L (cons i) = false := by
          cases hv : L (cons i)
          · rfl
          · obtain ⟨oc, hoc, e, he, hb, hon⟩ := hcw i hi2
            have := hcl2 _ oc hoc hv e he hb
            rw [hon, hL] at this
            cases this
        obtain ⟨h1, h2⟩ := step i o X u L hi2 ho hF hL hLc (fun k hk hck => by
          obtain ⟨oc, hoc, e, he, hb, hon⟩ := hcw k (by omega)
          rw [hck, ho] at hoc
          cases hoc
          have := hE e he hb
          rw [hon] at this
          exact hX k (by omega) this (by rw [hck]; exact hL)) (fun k hk hck hwk => by
          obtain ⟨oi, hoi, e, he, hb, hon⟩ := Region.waitsFor_spec hwk
          rw [ho] at hoi
          cases hoi
          have := hE e he hb
          rw [hon] at this
          exact hX k hk this (by rw [hck]; exact hLn))
        refine ⟨h1, Oper.wp_mono (fun a' u' q => ⟨hcl3, .inl ⟨?_, ?_, ?_⟩⟩) h2⟩
        · unfold cameL; rw [if_neg (by omega)]; exact hLn
        · unfold cameL; rw [if_neg (by omega)]; exact hLn1
        · obtain ⟨v, rfl, f', r', st⟩ := q
          refine ⟨_, rfl, f', fun k hk hlk hck => ?_⟩
          by_cases hki : k = i
          · subst hki
            rw [upd_same]
            exact r'
          · unfold cameL at hlk hck
            rw [if_neg hki] at hlk
            by_cases hci : cons k = i
            · rw [if_pos hci] at hck; cases hck
            · rw [if_neg hci] at hck
              rw [upd_ne _ _ (fun q => hki (hd _ _ hk hi2 q))]
              exact st k _ hk hki hci (hX k hk hlk hck)
    · have hin : i = n + 1 := by
        by_cases h1 : i = n + 1
        · exact h1
        · exfalso
          by_cases h2 : i = n
          · subst h2; rw [hLn] at hL; cases hL
          · have := hall i (by omega); rw [hL] at this; cases this
      subst hin
      obtain ⟨h1, h2⟩ := hM o ho
      refine ⟨h1, Oper.wp_mono (fun a' u' q => ⟨hcl3, .inr (.inr ⟨fun k hk => ?_, q⟩)⟩) h2⟩
      unfold cameL
      split
      · rfl
      · rename_i hk2
        by_cases hk3 : k = n
        · subst hk3; exact hLn
        · exact hall k (by omega)
    · have := hall i hi
      rw [hL] at this
      cases this
  · rintro L a u ⟨-, hI⟩ hall
    rw [hn] at hall
    rcases hI with ⟨hLn, -, -⟩ | ⟨-, hLn1, -⟩ | ⟨-, q⟩
    · have := hall n (by omega); rw [hLn] at this; cases this
    · have := hall (n + 1) (by omega); rw [hLn1] at this; cases this
    · exact q
end
end Go.Proofs.YtcofhmikdkkigaaGreatDoor

namespace Go.Proofs.YtcofhmikdkkigaaGreatDoor
open Go.RowKit

theorem pairB_congr {es es' : List Ev} {lk : List Bool} {near : Bool} {j i : Nat} (hE : ∀ k, k ≤ j → evA es k = evA es' k) (hB : befN (eE es) j = befN (eE es') j) (hij : i < j) : pairB es lk near j i = pairB es' lk near j i := by
  have hi := hE i (by omega)
  have hj := hE j (by omega)
  have h1 : ∀ x, lasB es j i x = lasB es' j i x := fun x => by
    unfold lasB
    rw [Bool.eq_iff_iff, List.all_eq_true, List.all_eq_true]
    constructor
    · intro h k hk
      have := h k hk
      rw [hE k (by have := List.mem_range.1 hk; omega)] at this
      exact this
    · intro h k hk
      have := h k hk
      rw [← hE k (by have := List.mem_range.1 hk; omega)] at this
      exact this
  have h2 : ∀ x, nexB es lk j i x = nexB es' lk j i x := fun x => by
    unfold nexB
    rw [hi, Bool.eq_iff_iff, List.all_eq_true, List.all_eq_true]
    constructor
    · intro h k hk
      have := h k hk
      rw [hE k (by have := List.mem_range.1 hk; omega)] at this
      exact this
    · intro h k hk
      have := h k hk
      rw [← hE k (by have := List.mem_range.1 hk; omega)] at this
      exact this
  have h3 : bytB es lk near j i = bytB es' lk near j i := by
    unfold bytB
    rw [hi, hj]
    simp only [h1, h2]
  unfold pairB
  rw [hi, hj, hB, h3]
theorem pairsJ_congr {es es' : List Ev} {lk : List Bool} {near : Bool} {j : Nat} (hE : ∀ k, k ≤ j → evA es k = evA es' k) (hB : befN (eE es) j = befN (eE es') j) : pairsJ es lk near j = pairsJ es' lk near j := by
  unfold pairsJ
  congr 1
  refine List.filter_congr fun i hi => ?_
  exact pairB_congr hE hB (List.mem_range.1 hi)
theorem evA_lp {es : List Ev} {k : Nat} (h : k < (lpL es).length) : evA (lpL es) k = evA es k := by
  unfold lpL at h ⊢
  simp only [List.length_take] at h
  exact evA_take (by omega)
theorem bef_lp {es : List Ev} {j : Nat} (h : j < (lpL es).length) : befN (eE (lpL es)) j = befN (eE es) j := by
  obtain ⟨hb, e⟩ := lpL_bef h
  rw [e]
  have h2 := lpL_leg hb
  unfold rJ
  rw [if_pos ⟨by omega, by omega⟩, Int.toNat_natCast]
theorem pairsJ_lp {es : List Ev} {lk : List Bool} {near : Bool} {j : Nat} (h : j < (lpL es).length) : pairsJ (lpL es) lk near j = pairsJ es lk near j :=
  pairsJ_congr (fun k hk => evA_lp (by omega)) (bef_lp h)
theorem pairsL_lp {es : List Ev} {lk : List Bool} {near : Bool} : ∀ {N : Nat}, N ≤ (lpL es).length → pairsL (lpL es) lk near N = pairsL es lk near N
  | 0, _ => rfl
  | N + 1, h => by
    rw [pairsL, pairsL, pairsL_lp (by omega), pairsJ_lp (by omega)]
theorem lp_len {es : List Ev} (h : es.length ≤ 300) : (lpL es).length = (legS scn0 es).2.1 := by
  have : 0 ≤ legLen es := by unfold legLen; rw [if_neg (by omega)]; omega
  exact (lpL_leg this).2.1
theorem lp_none {es : List Ev} (h : ¬ es.length ≤ 300) : (lpL es).length = 0 := by
  unfold lpL legLen
  rw [if_pos (by omega)]
  simp
theorem leg_gor {es : List Ev} {i : Nat} (h : i < (lpL es).length) : 0 ≤ (evA es i).g ∧ (evA es i).g ≤ 15 := by
  have hb := (lpL_bef h).1
  have h2 := lpL_leg hb
  have hle := leg_len es scn0
  have hi : i < es.length := by omega
  have h3 := leg_at hi (by omega)
  have h1 := (code_parts h3.2.1).1
  rw [← evA_at hi] at h1
  simp only [evOk, Bool.and_eq_true] at h1
  exact inB_true h1.1.1.1.1.1.1.2
end Go.Proofs.YtcofhmikdkkigaaGreatDoor
