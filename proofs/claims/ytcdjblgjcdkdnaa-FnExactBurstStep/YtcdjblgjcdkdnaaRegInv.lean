/-
  A region that draws its order, by an invariant over what has come up: one proof an operation serves every order.
-/
import Derived.Test.YtcdjblgjcdkdnaaRegStab
namespace Go.Proofs.Ytcdjblgjcdkdnaa
open Go.RowKit

/-- What has come up, and i. -/
def cameL (L : Nat → Bool) (i : Nat) : Nat → Bool := fun k => if k = i then true else L k

/-- The edges that bind go back. -/
def lexOkB (ops : Array Oper) : Bool := (List.range ops.size).all fun i => ((ops[i]?).map fun o => o.after.all fun e => !Region.binds .any e || decide (e.on < i)).getD true
theorem lexB_of {ops : Array Oper} (h : lexOkB ops = true) : ∀ (i : Nat) (o : Oper), ops[i]? = some o → ∀ e ∈ o.after, Region.binds .any e = true → e.on < i := by
  intro i o ho e he hb
  have hi := (Array.getElem?_eq_some_iff.1 ho).1
  have h1 := List.all_eq_true.1 h i (List.mem_range.2 hi)
  simp only [ho, Option.map_some, Option.getD_some, Array.all_eq_true_iff_forall_mem] at h1
  have h2 := h1 e he
  rw [hb] at h2
  simpa using h2

theorem wpAny_inv {P : Program} {ops : Array Oper} {Q : Exit → Act → World → Prop} (Inv : (Nat → Bool) → Act → World → Prop)
    (hlex : ∀ (i : Nat) (o : Oper), ops[i]? = some o → ∀ e ∈ o.after, Region.binds .any e = true → e.on < i)
    (step : ∀ (i : Nat) (o : Oper) L a u, ops[i]? = some o → Inv L a u → L i = false → (∀ e ∈ o.after, Region.binds .any e = true → L e.on = true) →
      Region.wanted o (yielded ops a.tmps) = true ∧ o.wp P a u (fun a' u' => Inv (cameL L i) a' u') Q)
    (done : ∀ L a u, Inv L a u → (∀ i, i < ops.size → L i = true) → Q .normal a u) :
    ∀ (fuel : Nat) (l : Array Bool) (a : Act) (u : World), l.size = ops.size → left ops.size l ≤ fuel → Inv (fun k => l.getD k false) a u → wpAny P .any ops Q fuel l a u := by
  have hnone : ∀ (l : Array Bool), l.size = ops.size → Region.ready .any ops l = [] → ∀ i, i < ops.size → l.getD i false = true := by
    intro l hl he
    have hmin : ∀ m, m ≤ ops.size → (∀ k, k < m → l.getD k false = true) := by
      intro m
      induction m with
      | zero => intro _ k hk; omega
      | succ m ih =>
        intro hm k hk
        by_cases hkm : k < m
        · exact ih (by omega) k hkm
        · have hk2 : k = m := by omega
          subst hk2
          cases hv : l.getD k false
          · exfalso
            have ho : ops[k]? = some ops[k] := Array.getElem?_eq_getElem (by omega)
            have : k ∈ Region.ready .any ops l := mem_ready.2 ⟨by
              rw [Array.getD_eq_getD_getElem?] at hv ⊢
              rw [Array.getElem?_eq_getElem (by omega)] at hv ⊢
              exact hv, _, ho, fun e he2 hb2 => ih (by omega) _ (hlex k _ ho e he2 hb2)⟩
            rw [he] at this
            cases this
          · rfl
    exact fun i hi => hmin ops.size (Nat.le_refl _) i hi
  intro fuel
  induction fuel with
  | zero =>
    intro l a u hl hf hI
    have hall : ∀ i, i < ops.size → l.getD i false = true := fun i hi => by
      cases hv : l.getD i false
      · have := left_pos (l := l) (n := ops.size) hi hv
        omega
      · rfl
    refine ⟨?_, done _ a u hI hall⟩
    cases hr : Region.ready .any ops l with
    | nil => rfl
    | cons i r =>
      exfalso
      have hm : i ∈ Region.ready .any ops l := by rw [hr]; exact List.mem_cons_self
      obtain ⟨q1, o, q2, -⟩ := mem_ready.1 hm
      have hi : i < ops.size := (Array.getElem?_eq_some_iff.1 q2).1
      have := hall i hi
      rw [Array.getD_eq_getD_getElem?] at this q1
      rw [Array.getElem?_eq_getElem (by omega)] at this q1
      simp at this q1
      rw [this] at q1
      cases q1
  | succ fuel ih =>
    intro l a u hl hf hI
    refine ⟨fun he => done _ a u hI (hnone l hl he), fun i hi => ?_⟩
    obtain ⟨q1, o, q2, q3⟩ := mem_ready.1 hi
    have hi2 : i < ops.size := (Array.getElem?_eq_some_iff.1 q2).1
    have hfi : l.getD i false = false := by
      rw [Array.getD_eq_getD_getElem?] at q1 ⊢
      rw [Array.getElem?_eq_getElem (by omega)] at q1 ⊢
      exact q1
    have hlt := left_put hl hi2 hfi
    obtain ⟨w1, w2⟩ := step i o _ a u q2 hI hfi q3
    unfold wpOp
    simp only [q2]
    rw [if_pos w1]
    refine .inl (Oper.wp_mono (fun a' u' hq => ih _ a' u' (by simpa using hl) (by omega) ?_) w2)
    have e : (fun k => (l.setIfInBounds i true).getD k false) = cameL (fun k => l.getD k false) i := funext fun k => getD_put (by omega)
    rw [e]
    exact hq
theorem wp_region_inv {P : Program} {ops : Array Oper} {Q : Exit → Act → World → Prop} {id : Nat} {a : Act} {w : World} (Inv : (Nat → Bool) → Act → World → Prop)
    (hm : P.follows .mixedOrders = true) (hlex : lexOkB ops = true) (h0 : Inv (fun _ => false) a w.drew)
    (step : ∀ (i : Nat) (o : Oper) L a u, ops[i]? = some o → Inv L a u → L i = false → (∀ e ∈ o.after, Region.binds .any e = true → L e.on = true) →
      Region.wanted o (yielded ops a.tmps) = true ∧ o.wp P a u (fun a' u' => Inv (cameL L i) a' u') Q)
    (done : ∀ L a u, Inv L a u → (∀ i, i < ops.size → L i = true) → Q .normal a u) : (Code.region id ops true).wp P Q a w := by
  refine wp_region_any hm (wpAny_inv Inv (lexB_of hlex) step done _ _ _ _ (by simp) ?_ ?_)
  · unfold left
    exact Nat.le_trans (List.length_filter_le _ _) (by simp)
  · have e : (fun k => (Array.replicate ops.size false).getD k false) = fun _ => false := funext fun k => by
      rw [Array.getD_eq_getD_getElem?, Array.getElem?_replicate]
      split <;> rfl
    rw [e]
    exact h0
end Go.Proofs.Ytcdjblgjcdkdnaa
