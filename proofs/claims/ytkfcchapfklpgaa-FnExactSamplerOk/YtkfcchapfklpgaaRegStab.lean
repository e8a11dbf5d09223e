/-
  A region that draws its order, whose operations make new blocks alone and yield what stays so, but for the last one: one proof an operation serves every order.
-/
import Derived.Test.YtkfcchapfklpgaaInts
namespace Go.Proofs.Ytkfcchapfklpgaa
open Go.RowKit

def upd (X : Nat → Value) (d : Nat) (v : Value) : Nat → Value := fun k => if k = d then v else X k
theorem upd_same (X : Nat → Value) (d : Nat) (v : Value) : upd X d v d = v := by simp [upd]
theorem upd_ne (X : Nat → Value) {d k : Nat} (v : Value) (h : k ≠ d) : upd X d v k = X k := by simp [upd, h]

theorem getD_put {l : Array Bool} {i k : Nat} (hi : i < l.size) : (l.setIfInBounds i true).getD k false = if k = i then true else l.getD k false := by
  simp only [Array.getD_eq_getD_getElem?, Array.getElem?_setIfInBounds]
  by_cases h : i = k
  · subst h; simp [hi]
  · have : ¬ k = i := fun q => h q.symm
    simp [h, this]
/-- How many have not come up yet. -/
def left (n : Nat) (l : Array Bool) : Nat := ((List.range n).filter fun i => !l.getD i false).length
theorem left_put {l : Array Bool} {i n : Nat} (hn : l.size = n) (hi : i < n) (h : l.getD i false = false) : left n (l.setIfInBounds i true) < left n l := by
  unfold left
  have hs : ∀ (L : List Nat), i ∈ L → L.Nodup → (L.filter fun k => !(l.setIfInBounds i true).getD k false).length < (L.filter fun k => !l.getD k false).length := by
    intro L
    induction L with
    | nil => intro q; cases q
    | cons a L ih =>
      intro hm hnd
      have hsub : ∀ (M : List Nat), i ∉ M → (M.filter fun k => !(l.setIfInBounds i true).getD k false) = (M.filter fun k => !l.getD k false) := by
        intro M hM
        refine List.filter_congr (fun k hk => ?_)
        rw [getD_put (by omega), if_neg (fun (q : k = i) => hM (q ▸ hk))]
      rw [List.nodup_cons] at hnd
      by_cases ha : a = i
      · subst ha
        rw [List.filter_cons, List.filter_cons, getD_put (by omega), if_pos rfl, h, hsub L hnd.1]
        simp
      · have hm2 : i ∈ L := by
          rcases List.mem_cons.1 hm with q | q
          · exact absurd q.symm ha
          · exact q
        have := ih hm2 hnd.2
        rw [List.filter_cons, List.filter_cons, getD_put (by omega), if_neg ha]
        split
        · rw [List.length_cons, List.length_cons]; omega
        · exact this
  exact hs _ (List.mem_range.2 hi) List.nodup_range
theorem left_pos {l : Array Bool} {i n : Nat} (hi : i < n) (h : l.getD i false = false) : 0 < left n l := by
  unfold left
  exact List.length_pos_of_mem (List.mem_filter.2 ⟨List.mem_range.2 hi, by rw [h]; rfl⟩)

section
variable {P : Program} {ops : Array Oper} {Q : Exit → Act → World → Prop} {w : World} (n : Nat) (dst : Nat → Nat) (mk : (Nat → Value) → Act) (R : Nat → Value → World → Prop) (Le : World → World → Prop)

/-- The state when these have come up. -/
def StabInv (Q : Exit → Act → World → Prop) (w : World) (l : Array Bool) (a : Act) (u : World) : Prop :=
  l.size = n + 1 ∧ ((l.getD n false = false ∧ ∃ X, a = mk X ∧ Le w.drew u ∧ ∀ i, i < n → l.getD i false = true → R i (X (dst i)) u) ∨ ((∀ i, i < n + 1 → l.getD i false = true) ∧ Q .normal a u))

theorem wpAny_stab (hn : ops.size = n + 1) (hd : ∀ i j, i < n → j < n → dst i = dst j → i = j) (htr : ∀ a b c, Le a b → Le b c → Le a c) (hR : ∀ i v u u', R i v u → Le u u' → R i v u')
    (hlex : ∀ (i : Nat) (o : Oper), ops[i]? = some o → ∀ e ∈ o.after, e.on < i)
    (hall : ∀ o, ops[n]? = some o → ∀ i, i < n → ∃ e ∈ o.after, e.on = i ∧ Region.binds .any e = true)
    (step : ∀ (i : Nat) (o : Oper) X u, i < n → ops[i]? = some o → Le w.drew u → (∀ e ∈ o.after, Region.binds .any e = true → R e.on (X (dst e.on)) u) →
      Region.wanted o (yielded ops (mk X).tmps) = true ∧ o.wp P (mk X) u (fun a' u' => ∃ v, a' = mk (upd X (dst i) v) ∧ Le u u' ∧ R i v u') Q)
    (last : ∀ o X u, ops[n]? = some o → Le w.drew u → (∀ i, i < n → R i (X (dst i)) u) → Region.wanted o (yielded ops (mk X).tmps) = true ∧ o.wp P (mk X) u (fun a' u' => Q .normal a' u') Q) :
    ∀ (fuel : Nat) (l : Array Bool) (a : Act) (u : World), left (n + 1) l ≤ fuel → StabInv n dst mk R Le Q w l a u → wpAny P .any ops Q fuel l a u := by
  have hready : ∀ (l : Array Bool), l.size = n + 1 → (∃ i, i < n + 1 ∧ l.getD i false = false) → Region.ready .any ops l ≠ [] := by
    intro l hl hex he
    have hmin : ∀ m, m ≤ n + 1 → (∀ k, k < m → l.getD k false = true) := by
      intro m
      induction m with
      | zero => intro _ k hk; omega
      | succ m ih =>
        intro hm k hk
        by_cases hkm : k < m
        · exact ih (by omega) k hkm
        · have hk2 : k = m := by omega
          subst hk2
          cases hv : l.getD k false
          · exfalso
            have ho : ops[k]? = some ops[k] := Array.getElem?_eq_getElem (by omega)
            have : k ∈ Region.ready .any ops l := mem_ready.2 ⟨by
              rw [Array.getD_eq_getD_getElem?] at hv ⊢
              rw [Array.getElem?_eq_getElem (by omega)] at hv ⊢
              exact hv, _, ho, fun e he2 _ => ih (by omega) _ (hlex k _ ho e he2)⟩
            rw [he] at this
            cases this
          · rfl
    obtain ⟨i, hi, hf⟩ := hex
    have := hmin (n + 1) (Nat.le_refl _) i hi
    rw [hf] at this
    cases this
  intro fuel
  induction fuel with
  | zero =>
    intro l a u hf ⟨hl, hI⟩
    rcases hI with ⟨h0, -⟩ | ⟨h1, h2⟩
    · have := left_pos (l := l) (n := n + 1) (i := n) (by omega) h0
      omega
    · refine ⟨?_, h2⟩
      cases hr : Region.ready .any ops l with
      | nil => rfl
      | cons i r =>
        exfalso
        have hm : i ∈ Region.ready .any ops l := by rw [hr]; exact List.mem_cons_self
        obtain ⟨q1, o, q2, -⟩ := mem_ready.1 hm
        have hi : i < n + 1 := by rw [← hn]; exact (Array.getElem?_eq_some_iff.1 q2).1
        have := h1 i hi
        rw [Array.getD_eq_getD_getElem?] at this q1
        rw [Array.getElem?_eq_getElem (by omega)] at this q1
        simp at this q1
        rw [this] at q1
        cases q1
  | succ fuel ih =>
    intro l a u hf ⟨hl, hI⟩
    rcases hI with ⟨h0, X, rfl, hF, hX⟩ | ⟨h1, h2⟩
    · refine ⟨fun he => absurd he (hready l hl ⟨n, by omega, h0⟩), fun i hi => ?_⟩
      obtain ⟨q1, o, q2, q3⟩ := mem_ready.1 hi
      have hi2 : i < n + 1 := by rw [← hn]; exact (Array.getElem?_eq_some_iff.1 q2).1
      have hfi : l.getD i false = false := by
        rw [Array.getD_eq_getD_getElem?] at q1 ⊢
        rw [Array.getElem?_eq_getElem (by omega)] at q1 ⊢
        exact q1
      have hlt := left_put hl hi2 hfi
      unfold wpOp
      simp only [q2]
      by_cases hin : i = n
      · subst hin
        obtain ⟨w1, w2⟩ := last o X u q2 hF (fun k hk => by
          obtain ⟨e, e1, e2, e3⟩ := hall o q2 k hk
          exact hX k hk (e2 ▸ q3 e e1 e3))
        rw [if_pos w1]
        refine .inl (Oper.wp_mono (fun a' u' hq => ih _ a' u' (by omega) ⟨by simpa using hl, .inr ⟨fun k hk => ?_, hq⟩⟩) w2)
        rw [getD_put (by omega)]
        by_cases hki : k = i
        · rw [if_pos hki]
        · rw [if_neg hki]
          obtain ⟨e, e1, e2, e3⟩ := hall o q2 k (by omega)
          exact e2 ▸ q3 e e1 e3
      · obtain ⟨w1, w2⟩ := step i o X u (by omega) q2 hF (fun e he hb => hX e.on (by have := hlex i o q2 e he; omega) (q3 e he hb))
        rw [if_pos w1]
        refine .inl (Oper.wp_mono (fun a' u' hq => ?_) w2)
        obtain ⟨v, rfl, f2, r2⟩ := hq
        refine ih _ _ u' (by omega) ⟨by simpa using hl, .inl ⟨by rw [getD_put (by omega), if_neg (fun q => hin q.symm)]; exact h0, _, rfl, htr _ _ _ hF f2, fun k hk hkl => ?_⟩⟩
        rw [getD_put (by omega)] at hkl
        by_cases hki : k = i
        · subst hki
          rw [upd_same]
          exact r2
        · rw [if_neg hki] at hkl
          rw [upd_ne _ _ (fun q => hki (hd k i hk (by omega) q))]
          exact hR k _ _ _ (hX k hk hkl) f2
    · refine ⟨fun _ => h2, fun i hi => ?_⟩
      exfalso
      obtain ⟨q1, o, q2, -⟩ := mem_ready.1 hi
      have hi : i < n + 1 := by rw [← hn]; exact (Array.getElem?_eq_some_iff.1 q2).1
      have := h1 i hi
      rw [Array.getD_eq_getD_getElem?] at this q1
      rw [Array.getElem?_eq_getElem (by omega)] at this q1
      simp at this q1
      rw [this] at q1
      cases q1
end
theorem wp_region_le {P : Program} {ops : Array Oper} {Q : Exit → Act → World → Prop} {w : World} {id : Nat} (n : Nat) (dst : Nat → Nat) (mk : (Nat → Value) → Act) (R : Nat → Value → World → Prop) (Le : World → World → Prop) (X0 : Nat → Value) (hrf : ∀ u, Le u u) (htr : ∀ a b c, Le a b → Le b c → Le a c)
    (hm : P.follows .mixedOrders = true) (hn : ops.size = n + 1) (hd : ∀ i j, i < n → j < n → dst i = dst j → i = j) (hR : ∀ i v u u', R i v u → Le u u' → R i v u')
    (hlex : ∀ (i : Nat) (o : Oper), ops[i]? = some o → ∀ e ∈ o.after, e.on < i)
    (hall : ∀ o, ops[n]? = some o → ∀ i, i < n → ∃ e ∈ o.after, e.on = i ∧ Region.binds .any e = true)
    (step : ∀ (i : Nat) (o : Oper) X u, i < n → ops[i]? = some o → Le w.drew u → (∀ e ∈ o.after, Region.binds .any e = true → R e.on (X (dst e.on)) u) →
      Region.wanted o (yielded ops (mk X).tmps) = true ∧ o.wp P (mk X) u (fun a' u' => ∃ v, a' = mk (upd X (dst i) v) ∧ Le u u' ∧ R i v u') Q)
    (last : ∀ o X u, ops[n]? = some o → Le w.drew u → (∀ i, i < n → R i (X (dst i)) u) → Region.wanted o (yielded ops (mk X).tmps) = true ∧ o.wp P (mk X) u (fun a' u' => Q .normal a' u') Q) :
    (Code.region id ops true).wp P Q (mk X0) w := by
  refine wp_region_any hm (wpAny_stab n dst mk R Le hn hd htr hR hlex hall step last _ _ _ _ ?_ ⟨by simp [hn], .inl ⟨by simp [Array.getD_eq_getD_getElem?, hn], X0, rfl, hrf _, fun i hi h => ?_⟩⟩)
  · rw [hn]
    unfold left
    exact Nat.le_trans (List.length_filter_le _ _) (by simp)
  · exfalso
    rw [Array.getD_eq_getD_getElem?, Array.getElem?_replicate] at h
    split at h <;> simp at h
theorem wp_region_stab {P : Program} {ops : Array Oper} {Q : Exit → Act → World → Prop} {w : World} {id : Nat} (n : Nat) (dst : Nat → Nat) (mk : (Nat → Value) → Act) (R : Nat → Value → World → Prop) (X0 : Nat → Value)
    (hm : P.follows .mixedOrders = true) (hn : ops.size = n + 1) (hd : ∀ i j, i < n → j < n → dst i = dst j → i = j) (hR : ∀ i v u u', R i v u → Fr u u' → R i v u')
    (hlex : ∀ (i : Nat) (o : Oper), ops[i]? = some o → ∀ e ∈ o.after, e.on < i)
    (hall : ∀ o, ops[n]? = some o → ∀ i, i < n → ∃ e ∈ o.after, e.on = i ∧ Region.binds .any e = true)
    (step : ∀ (i : Nat) (o : Oper) X u, i < n → ops[i]? = some o → Fr w.drew u → (∀ e ∈ o.after, Region.binds .any e = true → R e.on (X (dst e.on)) u) →
      Region.wanted o (yielded ops (mk X).tmps) = true ∧ o.wp P (mk X) u (fun a' u' => ∃ v, a' = mk (upd X (dst i) v) ∧ Fr u u' ∧ R i v u') Q)
    (last : ∀ o X u, ops[n]? = some o → Fr w.drew u → (∀ i, i < n → R i (X (dst i)) u) → Region.wanted o (yielded ops (mk X).tmps) = true ∧ o.wp P (mk X) u (fun a' u' => Q .normal a' u') Q) :
    (Code.region id ops true).wp P Q (mk X0) w :=
  wp_region_le n dst mk R Fr X0 Fr.refl (fun _ _ _ h k => h.trans k) hm hn hd hR hlex hall step last
/-- The edges go back; the last one waits for all; no two write one slot. -/
def lexOk (ops : Array Oper) : Bool := (List.range ops.size).all fun i => ((ops[i]?).map fun o => o.after.all fun e => decide (e.on < i)).getD true
def allOk (ops : Array Oper) (n : Nat) : Bool := ((ops[n]?).map fun o => (List.range n).all fun i => o.after.any fun e => e.on == i && Region.binds .any e).getD true
def dstOk (dst : Nat → Nat) (n : Nat) : Bool := (List.range n).all fun i => (List.range n).all fun j => !(dst i == dst j) || i == j
theorem lex_of {ops : Array Oper} (h : lexOk ops = true) : ∀ (i : Nat) (o : Oper), ops[i]? = some o → ∀ e ∈ o.after, e.on < i := by
  intro i o ho e he
  have hi := (Array.getElem?_eq_some_iff.1 ho).1
  have h1 := List.all_eq_true.1 h i (List.mem_range.2 hi)
  simp only [ho, Option.map_some, Option.getD_some, Array.all_eq_true_iff_forall_mem, decide_eq_true_eq] at h1
  exact h1 e he
theorem allR_of {ops : Array Oper} {n : Nat} (h : allOk ops n = true) : ∀ o, ops[n]? = some o → ∀ i, i < n → ∃ e ∈ o.after, e.on = i ∧ Region.binds .any e = true := by
  intro o ho i hi
  unfold allOk at h
  simp only [ho, Option.map_some, Option.getD_some] at h
  have h1 := List.all_eq_true.1 h i (List.mem_range.2 hi)
  simp only [Array.any_eq_true'] at h1
  obtain ⟨e, he, hb⟩ := h1
  simp only [Bool.and_eq_true, beq_iff_eq] at hb
  exact ⟨e, he, hb⟩
theorem dst_of {dst : Nat → Nat} {n : Nat} (h : dstOk dst n = true) : ∀ i j, i < n → j < n → dst i = dst j → i = j := by
  intro i j hi hj e
  have h1 := List.all_eq_true.1 (List.all_eq_true.1 h i (List.mem_range.2 hi)) j (List.mem_range.2 hj)
  simpa [e] using h1
end Go.Proofs.Ytkfcchapfklpgaa
