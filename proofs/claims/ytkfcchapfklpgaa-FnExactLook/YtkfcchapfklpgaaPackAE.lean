/-
  A region that draws its order, whose last two operations wait for all others: the others make new memory alone, each value is used once (by the operation 'cons i').
-/
import Derived.Test.YtkfcchapfklpgaaPackAD
import Derived.Test.YtkfcchapfklpgaaPackAC
import Derived.Test.YtkfcchapfklpgaaPackAA
import Derived.OwnWalk
namespace Go.Proofs.Ytkfcchapfklpgaa
open Go.RowKit

section
variable {P : Program} {ops : Array Oper} {Q : Exit → Act → World → Prop}

/-- The value of each i below n is awaited by cons i. -/
def consOk (ops : Array Oper) (n : Nat) (cons : Nat → Nat) : Bool := (List.range n).all fun i => Region.waitsFor .any ops (cons i) i

theorem late_all {n : Nat} (hs : Region.sinkB .any ops n = true) {L : Nat → Bool}
    (hc : ∀ (j : Nat) (o : Oper), ops[j]? = some o → L j = true → ∀ e ∈ o.after, Region.binds .any e = true → L e.on = true)
    {on : Oper} (ho : ops[n]? = some on) (hr : ∀ e ∈ on.after, Region.binds .any e = true → L e.on = true) : ∀ (d i : Nat), n - i ≤ d → i < n → L i = true
  | 0, i, hd, hi => by omega
  | d + 1, i, hd, hi => by
    obtain ⟨j, h1, h2, h3⟩ := sink_wait hs hi
    obtain ⟨oj, hoj, e, he, hb, hon⟩ := Region.waitsFor_spec h3
    by_cases hjn : j = n
    · subst hjn
      rw [ho] at hoj
      cases hoj
      have := hr e he hb
      rwa [hon] at this
    · have hj := late_all hs hc ho hr d j (by omega) (by omega)
      have := hc j oj hoj hj e he hb
      rwa [hon] at this

/-- What holds when L has come up. -/
def LateI (P : Program) (ops : Array Oper) (Q : Exit → Act → World → Prop) (n : Nat) (dst cons : Nat → Nat) (mk : (Nat → Value) → Act) (R : Nat → Value → World → Prop) (w : World) (L : Nat → Bool) (a : Act) (u : World) : Prop :=
  (∀ (j : Nat) (o : Oper), ops[j]? = some o → L j = true → ∀ e ∈ o.after, Region.binds .any e = true → L e.on = true) ∧
  ((L n = false ∧ L (n + 1) = false ∧ ∃ X, a = mk X ∧ Fr w u ∧ ∀ i, i < n → L i = true → L (cons i) = false → R i (X (dst i)) u) ∨
   (L n = true ∧ L (n + 1) = false ∧ (∀ i, i < n → L i = true) ∧ ∀ o2, ops[n + 1]? = some o2 → Region.wanted o2 (yielded ops a.tmps) = true ∧ o2.wp P a u (fun a2 u2 => Q .normal a2 u2) Q) ∨
   ((∀ i, i < n + 2 → L i = true) ∧ Q .normal a u))

theorem wp_region_late {id : Nat} {a : Act} {w : World} (n : Nat) (dst cons : Nat → Nat) (mk : (Nat → Value) → Act) (R : Nat → Value → World → Prop)
    (hn : ops.size = n + 2) (hm : P.follows .mixedOrders = true) (hlex : lexOkB ops = true) (hs : Region.sinkB .any ops n = true) (hw : Region.waitsFor .any ops (n + 1) n = true)
    (hd : ∀ i j, i < n → j < n → dst i = dst j → i = j) (hc : consOk ops n cons = true) (X0 : Nat → Value) (ha : a = mk X0)
    (step : ∀ (i : Nat) (o : Oper) X u, i < n → ops[i]? = some o → Fr w u → (∀ k, k < i → cons k = i → R k (X (dst k)) u) →
      Region.wanted o (yielded ops (mk X).tmps) = true ∧ o.wp P (mk X) u (fun a' u' => ∃ v, a' = mk (upd X (dst i) v) ∧ Fr w u' ∧ R i v u' ∧ ∀ k x, k < n → k ≠ i → cons k ≠ i → R k x u → R k x u') Q)
    (piv : ∀ (o o2 : Oper) X u, ops[n]? = some o → ops[n + 1]? = some o2 → Fr w u → (∀ k, k < n → cons k = n → R k (X (dst k)) u) →
      Region.wanted o (yielded ops (mk X).tmps) = true ∧ o.wp P (mk X) u (fun a' u' => Region.wanted o2 (yielded ops a'.tmps) = true ∧ o2.wp P a' u' (fun a2 u2 => Q .normal a2 u2) Q) Q) :
    (Code.region id ops true).wp P Q a w := by
  have hlx := lexB_of hlex
  have hcw : ∀ i, i < n → ∃ o, ops[cons i]? = some o ∧ ∃ e ∈ o.after, Region.binds .any e = true ∧ e.on = i := fun i hi => by
    have h1 := List.all_eq_true.1 hc i (List.mem_range.2 hi)
    obtain ⟨oj, h2, e, he, hb, hon⟩ := Region.waitsFor_spec h1
    exact ⟨oj, h2, e, he, hb, hon⟩
  have hcl : ∀ i, i < n → i < cons i := fun i hi => by
    obtain ⟨o, ho, e, he, hb, hon⟩ := hcw i hi
    have := hlx _ o ho e he hb
    omega
  refine wp_region_inv (LateI P ops Q n dst cons mk R w) hm hlex ⟨fun _ _ _ q => (by cases q), .inl ⟨rfl, rfl, X0, ha, Fr.drew w, fun _ _ q => (by cases q)⟩⟩ ?_ ?_
  · rintro i o L a u ho ⟨hcl2, hI⟩ hL hE
    have hi : i < n + 2 := by rw [← hn]; exact (Array.getElem?_eq_some_iff.1 ho).1
    have hcl3 : ∀ (j : Nat) (o' : Oper), ops[j]? = some o' → cameL L i j = true → ∀ e ∈ o'.after, Region.binds .any e = true → cameL L i e.on = true := fun j o' ho' hj e he hb => by
      by_cases hji : j = i
      · subst hji
        rw [ho] at ho'
        cases ho'
        have := hE e he hb
        unfold cameL
        split
        · rfl
        · exact this
      · unfold cameL at hj
        rw [if_neg hji] at hj
        have := hcl2 j o' ho' hj e he hb
        unfold cameL
        split
        · rfl
        · exact this
    rcases hI with ⟨hLn, hLn1, X, rfl, hF, hX⟩ | ⟨hLn, hLn1, hall, hM⟩ | ⟨hall, -⟩
    · have hin1 : i ≠ n + 1 := by
        intro e
        subst e
        obtain ⟨oj, h2, e, he, hb, hon⟩ := Region.waitsFor_spec hw
        rw [ho] at h2
        cases h2
        have := hE e he hb
        rw [hon, hLn] at this
        cases this
      by_cases hin : i = n
      · subst hin
        have hall := late_all hs hcl2 ho hE
        obtain ⟨o2, ho2⟩ : ∃ o2, ops[i + 1]? = some o2 := ⟨ops[i + 1], Array.getElem?_eq_getElem (by omega)⟩
        obtain ⟨h1, h2⟩ := piv o o2 X u ho ho2 hF (fun k hk hck => hX k hk (hall (i - k) k (Nat.le_refl _) hk) (by rw [hck]; exact hL))
        refine ⟨h1, Oper.wp_mono (fun a' u' q => ⟨hcl3, .inr (.inl ⟨by simp [cameL], ?_, fun k hk => ?_, fun o3 ho3 => ?_⟩)⟩) h2⟩
        · unfold cameL; rw [if_neg (by omega)]; exact hLn1
        · unfold cameL; rw [if_neg (by omega)]; exact hall (i - k) k (Nat.le_refl _) hk
        · rw [ho2] at ho3; cases ho3; exact q
      · have hi2 : i < n := by omega
        obtain ⟨h1, h2⟩ := step i o X u hi2 ho hF (fun k hk hck => by
          obtain ⟨oc, hoc, e, he, hb, hon⟩ := hcw k (by omega)
          rw [hck, ho] at hoc
          cases hoc
          have := hE e he hb
          rw [hon] at this
          exact hX k (by omega) this (by rw [hck]; exact hL))
        refine ⟨h1, Oper.wp_mono (fun a' u' q => ⟨hcl3, .inl ⟨?_, ?_, ?_⟩⟩) h2⟩
        · unfold cameL; rw [if_neg (by omega)]; exact hLn
        · unfold cameL; rw [if_neg (by omega)]; exact hLn1
        · obtain ⟨v, rfl, f', r', st⟩ := q
          refine ⟨_, rfl, f', fun k hk hlk hck => ?_⟩
          by_cases hki : k = i
          · subst hki
            rw [upd_same]
            exact r'
          · unfold cameL at hlk hck
            rw [if_neg hki] at hlk
            by_cases hci : cons k = i
            · rw [if_pos hci] at hck; cases hck
            · rw [if_neg hci] at hck
              rw [upd_ne _ _ (fun q => hki (hd _ _ hk hi2 q))]
              exact st k _ hk hki hci (hX k hk hlk hck)
    · have hin : i = n + 1 := by
        by_cases h1 : i = n + 1
        · exact h1
        · exfalso
          by_cases h2 : i = n
          · subst h2; rw [hLn] at hL; cases hL
          · have := hall i (by omega); rw [hL] at this; cases this
      subst hin
      obtain ⟨h1, h2⟩ := hM o ho
      refine ⟨h1, Oper.wp_mono (fun a' u' q => ⟨hcl3, .inr (.inr ⟨fun k hk => ?_, q⟩)⟩) h2⟩
      unfold cameL
      split
      · rfl
      · rename_i hk2
        by_cases hk3 : k = n
        · subst hk3; exact hLn
        · exact hall k (by omega)
    · have := hall i hi
      rw [hL] at this
      cases this
  · rintro L a u ⟨-, hI⟩ hall
    rw [hn] at hall
    rcases hI with ⟨hLn, -, -⟩ | ⟨-, hLn1, -⟩ | ⟨-, q⟩
    · have := hall n (by omega); rw [hLn] at this; cases this
    · have := hall (n + 1) (by omega); rw [hLn1] at this; cases this
    · exact q
end
end Go.Proofs.Ytkfcchapfklpgaa
/-
  A region that draws its order, whose last two operations wait for all others: whatever class of worlds the others keep; a value that the first of the two uses may be asked for by others (a guard).
-/
namespace Go.Proofs.Ytkfcchapfklpgaa
open Go.RowKit

section
variable {P : Program} {ops : Array Oper} {Q : Exit → Act → World → Prop}

/-- What holds when L has come up. -/
def LateC (P : Program) (ops : Array Oper) (Q : Exit → Act → World → Prop) (n : Nat) (dst cons : Nat → Nat) (mk : (Nat → Value) → Act) (R : Nat → Value → World → Prop) (C : (Nat → Bool) → World → Prop) (L : Nat → Bool) (a : Act) (u : World) : Prop :=
  (∀ (j : Nat) (o : Oper), ops[j]? = some o → L j = true → ∀ e ∈ o.after, Region.binds .any e = true → L e.on = true) ∧
  ((L n = false ∧ L (n + 1) = false ∧ ∃ X, a = mk X ∧ C L u ∧ ∀ i, i < n → L i = true → L (cons i) = false → R i (X (dst i)) u) ∨
   (L n = true ∧ L (n + 1) = false ∧ (∀ i, i < n → L i = true) ∧ ∀ o2, ops[n + 1]? = some o2 → Region.wanted o2 (yielded ops a.tmps) = true ∧ o2.wp P a u (fun a2 u2 => Q .normal a2 u2) Q) ∨
   ((∀ i, i < n + 2 → L i = true) ∧ Q .normal a u))

theorem wp_region_late2 {id : Nat} {a : Act} {w : World} (n : Nat) (dst cons : Nat → Nat) (mk : (Nat → Value) → Act) (R : Nat → Value → World → Prop) (C : (Nat → Bool) → World → Prop) (hC : C (fun _ => false) w.drew)
    (hn : ops.size = n + 2) (hm : P.follows .mixedOrders = true) (hlex : lexOkB ops = true) (hs : Region.sinkB .any ops n = true) (hw : Region.waitsFor .any ops (n + 1) n = true)
    (hd : ∀ i j, i < n → j < n → dst i = dst j → i = j) (hc : consOk ops n cons = true) (X0 : Nat → Value) (ha : a = mk X0)
    (step : ∀ (i : Nat) (o : Oper) X u L, i < n → ops[i]? = some o → C L u → L i = false → L (cons i) = false → (∀ k, k < i → cons k = i → R k (X (dst k)) u) → (∀ k, k < n → cons k = n → Region.waitsFor .any ops i k = true → R k (X (dst k)) u) →
      Region.wanted o (yielded ops (mk X).tmps) = true ∧ o.wp P (mk X) u (fun a' u' => ∃ v, a' = mk (upd X (dst i) v) ∧ C (cameL L i) u' ∧ R i v u' ∧ ∀ k x, k < n → k ≠ i → cons k ≠ i → R k x u → R k x u') Q)
    (piv : ∀ (o o2 : Oper) X u L, ops[n]? = some o → ops[n + 1]? = some o2 → C L u → (∀ k, k < n → cons k = n → R k (X (dst k)) u) →
      Region.wanted o (yielded ops (mk X).tmps) = true ∧ o.wp P (mk X) u (fun a' u' => Region.wanted o2 (yielded ops a'.tmps) = true ∧ o2.wp P a' u' (fun a2 u2 => Q .normal a2 u2) Q) Q) :
    (Code.region id ops true).wp P Q a w := by
  have hlx := lexB_of hlex
  have hcw : ∀ i, i < n → ∃ o, ops[cons i]? = some o ∧ ∃ e ∈ o.after, Region.binds .any e = true ∧ e.on = i := fun i hi => by
    have h1 := List.all_eq_true.1 hc i (List.mem_range.2 hi)
    obtain ⟨oj, h2, e, he, hb, hon⟩ := Region.waitsFor_spec h1
    exact ⟨oj, h2, e, he, hb, hon⟩
  have hcl : ∀ i, i < n → i < cons i := fun i hi => by
    obtain ⟨o, ho, e, he, hb, hon⟩ := hcw i hi
    have := hlx _ o ho e he hb
    omega
  refine wp_region_inv (LateC P ops Q n dst cons mk R C) hm hlex ⟨fun _ _ _ q => (by cases q), .inl ⟨rfl, rfl, X0, ha, hC, fun _ _ q => (by cases q)⟩⟩ ?_ ?_
  · rintro i o L a u ho ⟨hcl2, hI⟩ hL hE
    have hi : i < n + 2 := by rw [← hn]; exact (Array.getElem?_eq_some_iff.1 ho).1
    have hcl3 : ∀ (j : Nat) (o' : Oper), ops[j]? = some o' → cameL L i j = true → ∀ e ∈ o'.after, Region.binds .any e = true → cameL L i e.on = true := fun j o' ho' hj e he hb => by
      by_cases hji : j = i
      · subst hji
        rw [ho] at ho'
        cases ho'
        have := hE e he hb
        unfold cameL
        split
        · rfl
        · exact this
      · unfold cameL at hj
        rw [if_neg hji] at hj
        have := hcl2 j o' ho' hj e he hb
        unfold cameL
        split
        · rfl
        · exact this
    rcases hI with ⟨hLn, hLn1, X, rfl, hF, hX⟩ | ⟨hLn, hLn1, hall, hM⟩ | ⟨hall, -⟩
    · have hin1 : i ≠ n + 1 := by
        intro e
        subst e
        obtain ⟨oj, h2, e, he, hb, hon⟩ := Region.waitsFor_spec hw
        rw [ho] at h2
        cases h2
        have := hE e he hb
        rw [hon, hLn] at this
        cases this
      by_cases hin : i = n
      · subst hin
        have hall := late_all hs hcl2 ho hE
        obtain ⟨o2, ho2⟩ : ∃ o2, ops[i + 1]? = some o2 := ⟨ops[i + 1], Array.getElem?_eq_getElem (by omega)⟩
        obtain ⟨h1, h2⟩ := piv o o2 X u L ho ho2 hF (fun k hk hck => hX k hk (hall (i - k) k (Nat.le_refl _) hk) (by rw [hck]; exact hL))
        refine ⟨h1, Oper.wp_mono (fun a' u' q => ⟨hcl3, .inr (.inl ⟨by simp [cameL], ?_, fun k hk => ?_, fun o3 ho3 => ?_⟩)⟩) h2⟩
        · unfold cameL; rw [if_neg (by omega)]; exact hLn1
        · unfold cameL; rw [if_neg (by omega)]; exact hall (i - k) k (Nat.le_refl _) hk
        · rw [ho2] at ho3; cases ho3; exact q
      · have hi2 : i < n := by omega
        have hLc : L (cons i) = false := by
          cases hv : L (cons i)
          · rfl
          · obtain ⟨oc, hoc, e, he, hb, hon⟩ := hcw i hi2
            have := hcl2 _ oc hoc hv e he hb
            rw [hon, hL] at this
            cases this
        obtain ⟨h1, h2⟩ := step i o X u L hi2 ho hF hL hLc (fun k hk hck => by
          obtain ⟨oc, hoc, e, he, hb, hon⟩ := hcw k (by omega)
          rw [hck, ho] at hoc
          cases hoc
          have := hE e he hb
          rw [hon] at this
          exact hX k (by omega) this (by rw [hck]; exact hL)) (fun k hk hck hwk => by
          obtain ⟨oi, hoi, e, he, hb, hon⟩ := Region.waitsFor_spec hwk
          rw [ho] at hoi
          cases hoi
          have := hE e he hb
          rw [hon] at this
          exact hX k hk this (by rw [hck]; exact hLn))
        refine ⟨h1, Oper.wp_mono (fun a' u' q => ⟨hcl3, .inl ⟨?_, ?_, ?_⟩⟩) h2⟩
        · unfold cameL; rw [if_neg (by omega)]; exact hLn
        · unfold cameL; rw [if_neg (by omega)]; exact hLn1
        · obtain ⟨v, rfl, f', r', st⟩ := q
          refine ⟨_, rfl, f', fun k hk hlk hck => ?_⟩
          by_cases hki : k = i
          · subst hki
            rw [upd_same]
            exact r'
          · unfold cameL at hlk hck
            rw [if_neg hki] at hlk
            by_cases hci : cons k = i
            · rw [if_pos hci] at hck; cases hck
            · rw [if_neg hci] at hck
              rw [upd_ne _ _ (fun q => hki (hd _ _ hk hi2 q))]
              exact st k _ hk hki hci (hX k hk hlk hck)
    · have hin : i = n + 1 := by
        by_cases h1 : i = n + 1
        · exact h1
        · exfalso
          by_cases h2 : i = n
          · subst h2; rw [hLn] at hL; cases hL
          · have := hall i (by omega); rw [hL] at this; cases this
      subst hin
      obtain ⟨h1, h2⟩ := hM o ho
      refine ⟨h1, Oper.wp_mono (fun a' u' q => ⟨hcl3, .inr (.inr ⟨fun k hk => ?_, q⟩)⟩) h2⟩
      unfold cameL
      split
      · rfl
      · rename_i hk2
        by_cases hk3 : k = n
        · subst hk3; exact hLn
        · exact hall k (by omega)
    · have := hall i hi
      rw [hL] at this
      cases this
  · rintro L a u ⟨-, hI⟩ hall
    rw [hn] at hall
    rcases hI with ⟨hLn, -, -⟩ | ⟨-, hLn1, -⟩ | ⟨-, q⟩
    · have := hall n (by omega); rw [hLn] at this; cases this
    · have := hall (n + 1) (by omega); rw [hLn1] at this; cases this
    · exact q
end
end Go.Proofs.Ytkfcchapfklpgaa
/-
  'append' of one element to a list that the call owns: the operation alone; a region whose last two operations wait for all others.
-/
namespace Go.Proofs.Ytkfcchapfklpgaa
open Go.RowKit

theorem op_appG {α : Type} (L : Lay α) {o : Oper} {a : Act} {w : World} {K : Act → World → Prop} {Q : Exit → Act → World → Prop} (s x : Operand) (T : TypeId) (z : Value) (bytes : Nat)
    (ho : o.op = .call { callee := .builtin .append, args := #[s, x], argTypes := #[T, T] })
    (hT : Try.prog.underlying T = some (.slice L.ty)) (hI : (Try.prog.info? L.ty).map (fun i => (i.zero, i.size, i.bytes)) = some (some z, L.sz, bytes)) (hzs : z.cells.size = L.sz) (hby : bytes ≤ 1000)
    (base : Nat) (v : Value) (xs : List α) (e : α) (hs : a.eval s = v) (hown : OwnG L w base v xs) (hbase : base ≤ w.heap.size)
    (b : Nat) (c1 : Nat) (hx : a.eval x = .slice (some ⟨b, 0, none⟩) 1 c1) (hnew : ∀ k, k < L.sz → w.cell? ⟨b, k, none⟩ = (L.cs e)[k]?)
    (hlen : xs.length ≤ 1000)
    (h : ∀ v' w', OwnG L w' base v' (xs ++ [e]) → w.grownBy w' v.ownBlock → K (a.put o.dst v') w') : o.wp Try.prog a w K Q := by
  obtain ⟨i0, hi, hz0, hz1, hz2⟩ := info_parts hI
  obtain ⟨g, cap, rfl, hown', hl⟩ := hown
  have hb : (xs.length + 1) * bytes ≤ 140737488355328 := by
    have := Nat.mul_le_mul (show xs.length + 1 ≤ 16777216 by omega) hby
    omega
  obtain ⟨v', w', hr, hv, hg, hnz, hat⟩ := run_append_own_at (P := Try.prog) w base T o.type L.ty i0 z L.sz bytes hT hi hz0 hz1 hz2 hzs L.pos _ _ _ hown' ⟨b, 0, none⟩ 1 c1 (L.cs e) (by rw [L.len, Nat.one_mul]) (by
    intro j u hu
    rw [Addr.add_lit]
    have hj : j < L.sz := by
      have := (List.getElem?_eq_some_iff.1 hu).1
      rwa [L.len] at this
    rw [Nat.zero_add, hnew j hj, hu]) (L.one e) (by unfold maxLen; omega) hb hbase
  have hF : K (a.put o.dst v') w' := by
    rcases hv.2 with ⟨e', _⟩ | ⟨g', cap', cur, e', r⟩
    · have := (hnz.1 e').2
      simp at this
    · subst e'
      exact h _ w' ⟨g', cap', by simp, by simpa [List.flatMap_append] using hv, by simp; omega⟩ hg
  unfold Oper.wp execOp
  simp only [ho, resolve, invoke, builtin, Sem.run_bind, Sem.run_pure, Result.andThen_ok, List.map_toArray, List.map_cons, List.map_nil, hs, hx, hr]
  exact hF

theorem wp_region_once2 {P : Program} {ops : Array Oper} {Q : Exit → Act → World → Prop} {id : Nat} {a : Act} {w : World} (n : Nat) (dst cons : Nat → Nat) (mk : (Nat → Value) → Act) (R : Nat → Value → World → Prop)
    (hn : ops.size = n + 2) (hm : P.follows .mixedOrders = true) (hlex : lexOkB ops = true) (hs : Region.sinkB .any ops n = true) (hw : Region.waitsFor .any ops (n + 1) n = true)
    (hd : ∀ i j, i < n → j < n → dst i = dst j → i = j) (hc : consOk ops n cons = true) (X0 : Nat → Value) (ha : a = mk X0)
    (hR : ∀ i v u u', R i v u → Fr u u' → R i v u')
    (step : ∀ (i : Nat) (o : Oper) X u, i < n → ops[i]? = some o → Fr w u → (∀ k, k < i → cons k = i → R k (X (dst k)) u) →
      Region.wanted o (yielded ops (mk X).tmps) = true ∧ o.wp P (mk X) u (fun a' u' => ∃ v, a' = mk (upd X (dst i) v) ∧ Fr u u' ∧ R i v u') Q)
    (piv : ∀ (o o2 : Oper) X u, ops[n]? = some o → ops[n + 1]? = some o2 → Fr w u → (∀ k, k < n → cons k = n → R k (X (dst k)) u) →
      Region.wanted o (yielded ops (mk X).tmps) = true ∧ o.wp P (mk X) u (fun a' u' => Region.wanted o2 (yielded ops a'.tmps) = true ∧ o2.wp P a' u' (fun a2 u2 => Q .normal a2 u2) Q) Q) :
    (Code.region id ops true).wp P Q a w := by
  refine wp_region_late2 n dst cons mk R (fun _ u => Fr w u) (Fr.drew w) hn hm hlex hs hw hd hc X0 ha ?_ ?_
  · intro i o X u L hi ho hC _ _ hE _
    obtain ⟨hw, hp⟩ := step i o X u hi ho hC hE
    refine ⟨hw, Oper.wp_mono (fun a' u' hq => ?_) hp⟩
    obtain ⟨v, e, hF, hv⟩ := hq
    exact ⟨v, e, hC.trans hF, hv, fun k x _ _ _ h => hR k x u u' h hF⟩
  · intro o o2 X u L ho ho2 hC hE
    exact piv o o2 X u ho ho2 hC hE
end Go.Proofs.Ytkfcchapfklpgaa
/-
  Slices of structs: a list that is written out, 'append' of a whole list.
-/
namespace Go.Proofs.Ytkfcchapfklpgaa
open Go.RowKit

theorem flatG_len {α : Type} (L : Lay α) (xs : List α) : (xs.flatMap L.cs).length = xs.length * L.sz := by
  induction xs with
  | nil => simp
  | cons e es ih => rw [List.flatMap_cons, List.length_append, ih, L.len, List.length_cons, Nat.succ_mul, Nat.add_comm]
theorem flatG_one {α : Type} (L : Lay α) (xs : List α) : ∀ u ∈ xs.flatMap L.cs, u.oneCell' = true := by
  intro u hu
  obtain ⟨x, -, hx⟩ := List.mem_flatMap.1 hu
  exact L.one x u hx
/-- A new list. -/
theorem ownG_lit {α : Type} (L : Lay α) (w : World) (xs : List α) (hl : xs.length ≤ 1000) (o : Obj) (ho : o = .cells (xs.flatMap L.cs).toArray L.ty (0, 0)) : OwnG L (w.alloc o) w.heap.size (.slice (some ⟨w.heap.size, 0, none⟩) xs.length xs.length) xs := by
  subst ho
  have hf := flatG_len L xs
  exact ⟨w.heap.size, xs.length, rfl, ⟨hf, .inr ⟨w.heap.size, xs.length, (xs.flatMap L.cs).toArray, rfl, Nat.le_refl _, heap_alloc_new w _, Nat.le_refl _, by unfold maxLen; omega, by simpa using hf, by simp [List.take_of_length_le, hf]⟩⟩, by omega⟩
theorem ownG_litK {α : Type} (L : Lay α) (w : World) (xs : List α) (hl : xs.length ≤ 1000) (o : Obj) (ho : o = .cells (xs.flatMap L.cs).toArray L.ty (0, 0)) (k base : Nat) (hk : w.heap.size = k) (hb : base ≤ k) : OwnG L (w.alloc o) base (.slice (some ⟨k, 0, none⟩) xs.length xs.length) xs := by
  subst hk
  exact (ownG_lit L w xs hl o ho).lower hb
/-- What is read is what is to be appended. -/
theorem news_of_reads {α : Type} {L : Lay α} {w : World} {b off : Nat} {ys : List α} (h : ReadsG L w (some ⟨b, off, none⟩) ys) : ∀ j u, (ys.flatMap L.cs)[j]? = some u → w.cell? ((⟨b, off, none⟩ : Addr).add j) = some u := by
  intro j u hu
  have hj := (List.getElem?_eq_some_iff.1 hu).1
  rw [flatG_len] at hj
  have hpos := L.pos
  have hq : j / L.sz < ys.length := (Nat.div_lt_iff_lt_mul hpos).2 hj
  have hr : j % L.sz < L.sz := Nat.mod_lt _ hpos
  have hs : j / L.sz * L.sz + j % L.sz = j := by rw [Nat.mul_comm]; exact Nat.div_add_mod j L.sz
  obtain ⟨b', off', e, hc⟩ := h.at_ (j / L.sz) hq
  simp only [Option.some.injEq, Addr.mk.injEq, and_true] at e
  obtain ⟨rfl, rfl⟩ := e
  have h1 := hc _ hq _ hr
  rw [← cellsG_at L ys _ _ hq hr, hs, Nat.add_assoc, hs, hu] at h1
  rw [Addr.add_lit]
  exact h1

theorem appGL {α : Type} (L : Lay α) (w : World) {ops : Array Oper} {rest : List Oper} {o : Oper} {a : Act} {Q : Exit → Act → World → Prop} (hgd : o.guard = none) (s x : Operand) (T : TypeId) (z : Value) (bytes : Nat)
    (ho : o.op = .call { callee := .builtin .append, args := #[s, x], argTypes := #[T, T] })
    (hT : Try.prog.underlying T = some (.slice L.ty)) (hI : (Try.prog.info? L.ty).map (fun i => (i.zero, i.size, i.bytes)) = some (some z, L.sz, bytes)) (hzs : z.cells.size = L.sz) (hby : bytes ≤ 1000)
    (base : Nat) (v : Value) (xs ys : List α) (hs : a.eval s = v) (hown : OwnG L w base v xs)
    (ad : Addr) (c : Nat) (hx : a.eval x = .slice (some ad) ys.length c) (hnew : ∀ j u, (ys.flatMap L.cs)[j]? = some u → w.cell? (ad.add j) = some u)
    (hlen : xs.length + ys.length ≤ 16777216) (hbase : base ≤ w.heap.size)
    (h : ∀ v' w', OwnG L w' base v' (xs ++ ys) → w.grownBy w' v.ownBlock → (v'.ownBlock = v.ownBlock ∨ v'.ownBlock = some w.heap.size) → wpList Try.prog ops Q rest (a.put o.dst v') w') : wpList Try.prog ops Q (o :: rest) a w := by
  obtain ⟨i0, hi, hz0, hz1, hz2⟩ := info_parts hI
  obtain ⟨g, cap, rfl, ho', hl⟩ := hown
  have hb : (xs.length + ys.length) * bytes ≤ 140737488355328 := by
    have := Nat.mul_le_mul hlen hby
    omega
  refine wpList_append_own_at w hgd s x T ho base L.ty i0 z L.sz bytes hT hi hz0 hz1 hz2 hzs L.pos _ _ _ hs ho' ad ys.length c (ys.flatMap L.cs) hx (flatG_len L ys) hnew (flatG_one L ys) (by unfold maxLen; omega) hb hbase ?_
  intro v' w' hv hg hnz hat
  refine h v' w' ?_ hg hat
  rcases hv.2 with ⟨e', _⟩ | ⟨g', cap', cur, e', r⟩
  · have := (hnz.1 e').1
    simp at this
  · subst e'
    exact ⟨g', cap', by simp, by simpa [List.flatMap_append] using hv, by simp; omega⟩
end Go.Proofs.Ytkfcchapfklpgaa
/-
  The specification's copy of a sampler.
-/
namespace Go.Proofs.Ytkfcchapfklpgaa
open Go.RowKit

theorem infoOwn5 : (Try.prog.info? 53).map (fun i => (i.zero, i.size, i.bytes)) = some (some (.agg #[.int .i64 0, .int .i64 0, .int .i64 0, .int .i64 0, .int .i64 0]), 5, 40) := by kernel_rfl
/-- 'append' of a list that can be read to a new empty one: the operation alone. -/
theorem op_append_newO {α : Type} (L : Lay α) {o : Oper} {a : Act} {w : World} {K : Act → World → Prop} {Q : Exit → Act → World → Prop} (s x : Operand) (T : TypeId) (z : Value) (bytes : Nat)
    (ho : o.op = .call { callee := .builtin .append, args := #[s, x], argTypes := #[T, T] })
    (hT : Try.prog.underlying T = some (.slice L.ty)) (hI : (Try.prog.info? L.ty).map (fun i => (i.zero, i.size, i.bytes)) = some (some z, L.sz, bytes)) (hzs : z.cells.size = L.sz) (hby : bytes ≤ 1000)
    (base k : Nat) (hk : base ≤ k) (hrow : w.heap[k]? = some (.cells #[] L.ty (0, 0))) (hs : a.eval s = .slice (some ⟨k, 0, none⟩) 0 0)
    (ao : Option Addr) (n c : Nat) (ys : List α) (hn : n = ys.length) (hx : a.eval x = .slice ao n c) (hr : ReadsG L w ao ys) (hbase : base ≤ w.heap.size)
    (h : ∀ v' w', OwnG L w' base v' ys → Fr w w' → K (a.put o.dst v') w') : o.wp Try.prog a w K Q := by
  obtain ⟨i0, hi, hz0, hz1, hz2⟩ := info_parts hI
  subst hn
  have hl := hr.len
  have hb : (0 + ys.length) * bytes ≤ 140737488355328 := by
    have := Nat.mul_le_mul (show 0 + ys.length ≤ 16777216 by omega) hby
    omega
  have hown : w.ownsRow base L.ty L.sz (.slice (some ⟨k, 0, none⟩) 0 0) 0 [] := ⟨by simp, .inr ⟨k, 0, #[], rfl, hk, hrow, Nat.le_refl _, by unfold maxLen; omega, by simp, by simp⟩⟩
  by_cases hys : ys = []
  · subst hys
    cases ao with
    | none =>
      have hrun : (Builtin.append_ #[T, T] o.type #[.slice (some ⟨k, 0, none⟩) 0 0, .slice none 0 c]).run Try.prog w = .ok (.slice (some ⟨k, 0, none⟩) 0 0) w := by
        simp [Builtin.append_, run_underlying hT, sizeOf, typeInfo, hi, Builtin.lenOf, Builtin.firstCells, storeCells]
      unfold Oper.wp
      simp only [List.length_nil] at hx
      simp [execOp, ho, resolve, invoke, builtin, hs, hx, hrun, Result.andThen]
      exact h _ _ ⟨k, 0, rfl, hown, by simp⟩ (Fr.refl _)
    | some ad =>
      have hrun := run_append_room_cells (P := Try.prog) w T o.type L.ty i0 hT hi k 0 0 0 ad 0 c [] (by simp) (by simp) (by simp) (Nat.le_refl _) (by simp) (by simp)
      have e0 : ∀ j, w.setCells k j [] = w := fun j => rfl
      unfold Oper.wp
      simp only [List.length_nil] at hx
      simp [execOp, ho, resolve, invoke, builtin, hs, hx, hrun, Result.andThen]
      rw [e0]
      exact h _ _ ⟨k, 0, rfl, hown, by simp⟩ (Fr.refl _)
  · have hpos : 0 < ys.length := List.length_pos_iff.2 hys
    obtain ⟨b, off, rfl, -⟩ := hr.at_ 0 hpos
    obtain ⟨v', w', hrun, r1, r2⟩ := run_append_arg_grows (P := Try.prog) w T o.type L.ty i0 z L.sz bytes hT hi hz0 hz1 hz2 hzs L.pos ⟨k, 0, none⟩ 0 0 [] (by simp) (by simp) ⟨b, off, none⟩ ys.length c (ys.flatMap L.cs) (flatG_len L _) (news_of_reads hr) (by omega) (by unfold maxLen; omega) hb
    have hK := h v' w' (by
      rw [Nat.zero_add, List.nil_append] at r1
      rcases r1.2 with ⟨_, e⟩ | ⟨g', cap', cur, e', hg, r⟩
      · omega
      · subst e'
        exact ⟨g', cap', rfl, ⟨r1.1, .inr ⟨g', cap', cur, rfl, by omega, r⟩⟩, hl⟩) r2
    unfold Oper.wp
    simp [execOp, ho, resolve, invoke, builtin, hs, hx, hrun, Result.andThen]
    exact hK
theorem wpl_append_newO {α : Type} (L : Lay α) {ops : Array Oper} {rest : List Oper} {o : Oper} {a : Act} {w : World} {Q : Exit → Act → World → Prop} (hgd : o.guard = none) (s x : Operand) (T : TypeId) (z : Value) (bytes : Nat)
    (ho : o.op = .call { callee := .builtin .append, args := #[s, x], argTypes := #[T, T] })
    (hT : Try.prog.underlying T = some (.slice L.ty)) (hI : (Try.prog.info? L.ty).map (fun i => (i.zero, i.size, i.bytes)) = some (some z, L.sz, bytes)) (hzs : z.cells.size = L.sz) (hby : bytes ≤ 1000)
    (base k : Nat) (hk : base ≤ k) (hrow : w.heap[k]? = some (.cells #[] L.ty (0, 0))) (hs : a.eval s = .slice (some ⟨k, 0, none⟩) 0 0)
    (ao : Option Addr) (n c : Nat) (ys : List α) (hn : n = ys.length) (hx : a.eval x = .slice ao n c) (hr : ReadsG L w ao ys) (hbase : base ≤ w.heap.size)
    (h : ∀ v' w', OwnG L w' base v' ys → Fr w w' → wpList Try.prog ops Q rest (a.put o.dst v') w') : wpList Try.prog ops Q (o :: rest) a w := by
  have hw : Region.wanted o (yielded ops a.tmps) = true := by simp [Region.wanted, hgd]
  rw [wpList, if_pos hw]
  exact .inl (op_append_newO L s x T z bytes ho hT hI hzs hby base k hk hrow hs ao n c ys hn hx hr hbase h)

set_option maxHeartbeats 2000000 in
theorem copy_any (ao : Option Addr) (n cap : Nat) (os : List Ow) (p u : Int) (w : World) (hn : os.length = n) (h : ReadsG LO w ao os) :
    Calls Try.prog 35 #[.agg #[.slice ao n cap, .int .i64 p, .int .i64 u]] w fun e w' => ∃ g c, e = .returned (.agg #[.slice (some ⟨g, 0, none⟩) n c, .int .i64 p, .int .i64 u]) ∧ OwnG LO w' w.heap.size (.slice (some ⟨g, 0, none⟩) n c) os ∧ Fr w w' := by
  have f1 := Fr.alloc w (.cells #[.slice ao n cap, .int .i64 p, .int .i64 u] 33)
  obtain ⟨V, hV⟩ : ∃ V, V = w.alloc (.cells #[.slice ao n cap, .int .i64 p, .int .i64 u] 33) := ⟨_, rfl⟩
  have hs : V.heap.size = w.heap.size + 1 := by rw [hV]; simp
  have kA : KyZ V w.heap.size 33 #[.slice ao n cap, .int .i64 p, .int .i64 u] := by rw [hV]; exact heap_alloc_new _ _
  have f2 := Fr.alloc V (.cells #[.slice none 0 0, .int .i64 0, .int .i64 0] 33)
  have kR : KyZ (V.alloc (.cells #[.slice none 0 0, .int .i64 0, .int .i64 0] 33)) (w.heap.size + 1) 33 #[.slice none 0 0, .int .i64 0, .int .i64 0] := by
    have := heap_alloc_new V (.cells #[.slice none 0 0, .int .i64 0, .int .i64 0] 33)
    rwa [hs] at this
  have hs2 : (V.alloc (.cells #[.slice none 0 0, .int .i64 0, .int .i64 0] 33)).heap.size = w.heap.size + 1 + 1 := by simp [hs]
  have kE : KyZ ((V.alloc (.cells #[.slice none 0 0, .int .i64 0, .int .i64 0] 33)).alloc (.cells #[] 53)) (w.heap.size + 1 + 1) 53 #[] := by
    have := heap_alloc_new (V.alloc (.cells #[.slice none 0 0, .int .i64 0, .int .i64 0] 33)) (.cells #[] 53)
    rwa [hs2] at this
  have f3 := Fr.alloc (V.alloc (.cells #[.slice none 0 0, .int .i64 0, .int .i64 0] 33)) (.cells #[] 53)
  rw [← hV] at f1
  replace kA := (kA.fr f2).fr f3
  replace kR := kR.fr f3
  have F := (f1.trans f2).trans f3
  have hR := h.fr F
  have hU3 : ((V.alloc (.cells #[.slice none 0 0, .int .i64 0, .int .i64 0] 33)).alloc (.cells #[] 53)).heap.size = w.heap.size + 1 + 1 + 1 := by simp [hs]
  rw [hV] at kA kR kE F hR hU3
  clear f1 f2 f3 hs hs2 hV V h
  obtain ⟨z0, z1, z2⟩ := kA.c3
  have af := fun i => kA.free i
  obtain ⟨U, hU⟩ : ∃ U, U = ((w.alloc (.cells #[.slice ao n cap, .int .i64 p, .int .i64 u] 33)).alloc (.cells #[.slice none 0 0, .int .i64 0, .int .i64 0] 33)).alloc (.cells #[] 53) := ⟨_, rfl⟩
  rw [← hU] at kA kR kE F hR hU3 z0 z1 z2 af
  go_enter Try.func35, Try.ntmps35
  go_upto_region 1 with fail
  go_upto_region 2 with (at_builtin; refine wpl_append_newO LO rfl _ _ 31 _ 40 rfl Try.underlying31 infoOwn5 rfl (by decide) (w.heap.size + 1 + 1) (w.heap.size + 1 + 1) (Nat.le_refl _) (by rw [← hU]; exact kE) rfl ao n cap os hn.symm rfl (by rw [← hU]; exact hR) (by rw [← hU]; omega) ?_; intro v u1 hO k1; obtain ⟨g, cc, rfl, hO1, hl⟩ := hO; have kA1 := kA.fr (hU ▸ k1); obtain ⟨z0, z1, z2⟩ := kA1.c3; have af := fun i => kA1.free i; rw [hn] at hO1)
  have k1 : Fr U u1 := hU ▸ k1
  have HO : Hid (OwnG LO u1 (w.heap.size + 1 + 1) (.slice (some ⟨g, 0, none⟩) n cc) os) := ⟨g, cc, by rw [hn], by rw [hn]; exact hO1, hl⟩
  have hgg : w.heap.size + 1 + 1 ≤ g := (hO1.lt g rfl).1
  have kR1 := kR.fr k1
  have F := F.trans k1
  have s1 := kA1.put0 (.slice (some ⟨g, 0, none⟩) n cc)
  have g1 := grown_set u1 w.heap.size 0 (.slice (some ⟨g, 0, none⟩) n cc)
  obtain ⟨K, hK⟩ : ∃ K, K = u1.setCell ⟨w.heap.size, 0, none⟩ (.slice (some ⟨g, 0, none⟩) n cc) := ⟨_, rfl⟩
  rw [← hK] at s1 g1 ⊢
  have kR := kR1.keep g1 (by simp)
  have hO := (HO.out).keep g1 (by simp [Value.ownBlock]; omega)
  have F := F.then g1 (fun j e => by cases e; omega)
  clear hK g1 kA1 kR1 HO hO1 k1 af z0 z1 z2 hU
  obtain ⟨z0, z1, z2⟩ := s1.c3
  obtain ⟨r0, r1, r2⟩ := kR.c3
  have rf := fun i => kR.free i
  have kQ := ((kR.put0 (.slice (some ⟨g, 0, none⟩) n cc)).put1 (.int .i64 p)).put2 (.int .i64 u)
  have g2 := grown_trans (grown_trans (grown_set K (w.heap.size + 1) 0 (.slice (some ⟨g, 0, none⟩) n cc)) (grown_set _ (w.heap.size + 1) 1 (.int .i64 p))) (grown_set _ (w.heap.size + 1) 2 (.int .i64 u))
  obtain ⟨q0, q1, q2⟩ := kQ.c3
  clear kQ kR s1
  go_wp2_with fail
  refine bodyPost_ret (v := .agg #[.slice (some ⟨g, 0, none⟩) n cc, .int .i64 p, .int .i64 u]) (by simp [results, Try.results35, go_sem, q0, q1, q2]) rfl ⟨g, cc, rfl, OwnG.lower (hO.keep g2 (by simp [Value.ownBlock]; omega)) (by omega), F.then g2 (fun j e => by cases e; omega)⟩
end Go.Proofs.Ytkfcchapfklpgaa
/-
  A region that draws its order, whose LAST operation waits for all others: whatever class of worlds the others keep (it may depend on what has come up).
-/
namespace Go.Proofs.Ytkfcchapfklpgaa
open Go.RowKit

section
variable {P : Program} {ops : Array Oper} {Q : Exit → Act → World → Prop}

/-- What holds when L has come up. -/
def LastC (ops : Array Oper) (Q : Exit → Act → World → Prop) (n : Nat) (dst cons : Nat → Nat) (mk : (Nat → Value) → Act) (R : Nat → Value → World → Prop) (C : (Nat → Bool) → World → Prop) (L : Nat → Bool) (a : Act) (u : World) : Prop :=
  (∀ (j : Nat) (o : Oper), ops[j]? = some o → L j = true → ∀ e ∈ o.after, Region.binds .any e = true → L e.on = true) ∧
  ((L n = false ∧ ∃ X, a = mk X ∧ C L u ∧ ∀ i, i < n → L i = true → L (cons i) = false → R i (X (dst i)) u) ∨
   ((∀ i, i < n + 1 → L i = true) ∧ Q .normal a u))

theorem wp_region_last {id : Nat} {a : Act} {w : World} (n q : Nat) (dst cons : Nat → Nat) (mk : (Nat → Value) → Act) (R : Nat → Value → World → Prop) (C : (Nat → Bool) → World → Prop) (hC : C (fun _ => false) w.drew)
    (hn : ops.size = n + 1) (hm : P.follows .mixedOrders = true) (hlex : lexOkB ops = true) (hs : Region.sinkB .any ops n = true) (hqn : q < n) (hsq : Region.sinkB .any ops q = true)
    (hd : ∀ i j, i < n → j < n → dst i = dst j → i = j) (hc : consOk ops n cons = true) (X0 : Nat → Value) (ha : a = mk X0)
    (step : ∀ (i : Nat) (o : Oper) X u L, i < n → ops[i]? = some o → C L u → L i = false → L (cons i) = false → (i < q → L q = false) → (i = q → ∀ k, k < q → L k = true) → (∀ k, k < i → cons k = i → R k (X (dst k)) u) →
      Region.wanted o (yielded ops (mk X).tmps) = true ∧ o.wp P (mk X) u (fun a' u' => ∃ v, a' = mk (upd X (dst i) v) ∧ C (cameL L i) u' ∧ R i v u' ∧ ∀ k x, k < n → k ≠ i → cons k ≠ i → L (cons k) = false → R k x u → R k x u') Q)
    (piv : ∀ (o : Oper) X u L, ops[n]? = some o → C L u → (∀ k, k < n → L k = true) → (∀ k, k < n → cons k = n → R k (X (dst k)) u) →
      Region.wanted o (yielded ops (mk X).tmps) = true ∧ o.wp P (mk X) u (fun a' u' => Q .normal a' u') Q) :
    (Code.region id ops true).wp P Q a w := by
  have hlx := lexB_of hlex
  have hcw : ∀ i, i < n → ∃ o, ops[cons i]? = some o ∧ ∃ e ∈ o.after, Region.binds .any e = true ∧ e.on = i := fun i hi => by
    have h1 := List.all_eq_true.1 hc i (List.mem_range.2 hi)
    obtain ⟨oj, h2, e, he, hb, hon⟩ := Region.waitsFor_spec h1
    exact ⟨oj, h2, e, he, hb, hon⟩
  have hcl : ∀ i, i < n → i < cons i := fun i hi => by
    obtain ⟨o, ho, e, he, hb, hon⟩ := hcw i hi
    have := hlx _ o ho e he hb
    omega
  refine wp_region_inv (LastC ops Q n dst cons mk R C) hm hlex ⟨fun _ _ _ q => (by cases q), .inl ⟨rfl, X0, ha, hC, fun _ _ q => (by cases q)⟩⟩ ?_ ?_
  · rintro i o L a u ho ⟨hcl2, hI⟩ hL hE
    have hi : i < n + 1 := by rw [← hn]; exact (Array.getElem?_eq_some_iff.1 ho).1
    have hcl3 : ∀ (j : Nat) (o' : Oper), ops[j]? = some o' → cameL L i j = true → ∀ e ∈ o'.after, Region.binds .any e = true → cameL L i e.on = true := fun j o' ho' hj e he hb => by
      by_cases hji : j = i
      · subst hji
        rw [ho] at ho'
        cases ho'
        have := hE e he hb
        unfold cameL
        split
        · rfl
        · exact this
      · unfold cameL at hj
        rw [if_neg hji] at hj
        have := hcl2 j o' ho' hj e he hb
        unfold cameL
        split
        · rfl
        · exact this
    rcases hI with ⟨hLn, X, rfl, hF, hX⟩ | ⟨hall, -⟩
    · by_cases hin : i = n
      · subst hin
        have hall := late_all hs hcl2 ho hE
        have hall2 : ∀ k, k < i → L k = true := fun k hk => hall (i - k) k (Nat.le_refl _) hk
        obtain ⟨h1, h2⟩ := piv o X u L ho hF hall2 (fun k hk hck => hX k hk (hall2 k hk) (by rw [hck]; exact hL))
        refine ⟨h1, Oper.wp_mono (fun a' u' q => ⟨hcl3, .inr ⟨fun k hk => ?_, q⟩⟩) h2⟩
        unfold cameL
        split
        · rfl
        · exact hall2 k (by omega)
      · have hi2 : i < n := by omega
        have hLc : L (cons i) = false := by
          cases hv : L (cons i)
          · rfl
          · obtain ⟨oc, hoc, e, he, hb, hon⟩ := hcw i hi2
            have := hcl2 _ oc hoc hv e he hb
            rw [hon, hL] at this
            cases this
        obtain ⟨h1, h2⟩ := step i o X u L hi2 ho hF hL hLc (fun hiq => by
          cases hv : L q
          · rfl
          · obtain ⟨oq, hoq⟩ : ∃ oq, ops[q]? = some oq := ⟨ops[q], Array.getElem?_eq_getElem (by omega)⟩
            have := late_all hsq hcl2 hoq (hcl2 q oq hoq hv) (q - i) i (Nat.le_refl _) hiq
            rw [hL] at this
            cases this) (fun hiq k hk => by subst hiq; exact late_all hsq hcl2 ho hE (i - k) k (Nat.le_refl _) hk) (fun k hk hck => by
          obtain ⟨oc, hoc, e, he, hb, hon⟩ := hcw k (by omega)
          rw [hck, ho] at hoc
          cases hoc
          have := hE e he hb
          rw [hon] at this
          exact hX k (by omega) this (by rw [hck]; exact hL))
        refine ⟨h1, Oper.wp_mono (fun a' u' q => ⟨hcl3, .inl ⟨?_, ?_⟩⟩) h2⟩
        · unfold cameL; rw [if_neg (by omega)]; exact hLn
        · obtain ⟨v, rfl, f', r', st⟩ := q
          refine ⟨_, rfl, f', fun k hk hlk hck => ?_⟩
          by_cases hki : k = i
          · subst hki
            rw [upd_same]
            exact r'
          · unfold cameL at hlk hck
            rw [if_neg hki] at hlk
            by_cases hci : cons k = i
            · rw [if_pos hci] at hck; cases hck
            · rw [if_neg hci] at hck
              rw [upd_ne _ _ (fun q => hki (hd _ _ hk hi2 q))]
              exact st k _ hk hki hci hck (hX k hk hlk hck)
    · have := hall i hi
      rw [hL] at this
      cases this
  · rintro L a u ⟨-, hI⟩ hall
    rw [hn] at hall
    rcases hI with ⟨hLn, -⟩ | ⟨-, q⟩
    · have := hall n (by omega); rw [hLn] at this; cases this
    · exact q
end
end Go.Proofs.Ytkfcchapfklpgaa
/-
  A region that draws its order, makes new blocks alone, uses each value once, and whose LAST operation waits for all others.
-/
namespace Go.Proofs.Ytkfcchapfklpgaa
open Go.RowKit

theorem wp_region_once {P : Program} {ops : Array Oper} {Q : Exit → Act → World → Prop} {id : Nat} {a : Act} {w : World} (n : Nat) (dst cons : Nat → Nat) (mk : (Nat → Value) → Act) (R : Nat → Value → World → Prop)
    (hn : ops.size = n + 1) (hn0 : 0 < n) (hm : P.follows .mixedOrders = true) (hlex : lexOkB ops = true) (hs : Region.sinkB .any ops n = true) (hs0 : Region.sinkB .any ops 0 = true)
    (hd : ∀ i j, i < n → j < n → dst i = dst j → i = j) (hc : consOk ops n cons = true) (X0 : Nat → Value) (ha : a = mk X0)
    (hR : ∀ i v u u', R i v u → Fr u u' → R i v u')
    (step : ∀ (i : Nat) (o : Oper) X u, i < n → ops[i]? = some o → Fr w u → (∀ k, k < i → cons k = i → R k (X (dst k)) u) →
      Region.wanted o (yielded ops (mk X).tmps) = true ∧ o.wp P (mk X) u (fun a' u' => ∃ v, a' = mk (upd X (dst i) v) ∧ Fr u u' ∧ R i v u') Q)
    (last : ∀ (o : Oper) X u, ops[n]? = some o → Fr w u → (∀ k, k < n → cons k = n → R k (X (dst k)) u) →
      Region.wanted o (yielded ops (mk X).tmps) = true ∧ o.wp P (mk X) u (fun a' u' => Q .normal a' u') Q) :
    (Code.region id ops true).wp P Q a w := by
  refine wp_region_last n 0 dst cons mk R (fun _ u => Fr w u) (Fr.drew w) hn hm hlex hs hn0 hs0 hd hc X0 ha ?_ ?_
  · intro i o X u L hi ho hC _ _ _ _ hE
    obtain ⟨hw, hp⟩ := step i o X u hi ho hC hE
    refine ⟨hw, Oper.wp_mono (fun a' u' hq => ?_) hp⟩
    obtain ⟨v, e, hF, hv⟩ := hq
    exact ⟨v, e, hC.trans hF, hv, fun k x _ _ _ _ h => hR k x u u' h hF⟩
  · intro o X u L ho hC _ hE
    exact last o X u ho hC hE
end Go.Proofs.Ytkfcchapfklpgaa
