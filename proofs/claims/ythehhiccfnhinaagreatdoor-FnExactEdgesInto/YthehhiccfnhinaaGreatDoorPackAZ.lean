/-
  The laws' chance: an event by dice.
-/
import Derived.Test.YthehhiccfnhinaaGreatDoorPackAY
import Derived.Test.YthehhiccfnhinaaGreatDoorPackAT
import Derived.Test.YthehhiccfnhinaaGreatDoorPackAA
import Derived.Test.YthehhiccfnhinaaGreatDoorPackAF
import Derived.Test.YthehhiccfnhinaaGreatDoorPackAR
import Derived.Test.YthehhiccfnhinaaGreatDoorPackAE
import Derived.Test.YthehhiccfnhinaaGreatDoorPackAN
import Derived.Test.YthehhiccfnhinaaGreatDoorPackAC
import Derived.Test.YthehhiccfnhinaaGreatDoorPackAP
namespace Go.Proofs.YthehhiccfnhinaaGreatDoor
open Go.RowKit

/-- A dice over bytes, in a world behind w where but the dice is turned. -/
structure DX (w u : World) (d : Nat) (ao : Option Addr) (n cap : Nat) : Prop where
  g : w.grownBy u (some d)
  dice : ∃ i h, Dice u d ao n cap i h
  row : ByteRow u ao n
  ap : 0 < n → ∀ k, blk ao = some k → k ≠ d
theorem DX.fr {w u u' : World} {d n cap : Nat} {ao : Option Addr} (h : DX w u d ao n cap) (k : Fr u u') : DX w u' d ao n cap := by
  obtain ⟨i, x, hd⟩ := h.dice
  exact ⟨grown_trans h.g k.wide, ⟨i, x, hd.fr k⟩, fun j hj => by
    obtain ⟨b, off, e, hb⟩ := h.row j hj
    exact ⟨b, off, e, fun q hq => by
      obtain ⟨v, hv, h0, h1⟩ := hb q hq
      exact ⟨v, k.cell hv, h0, h1⟩⟩, h.ap⟩
theorem DX.beyond {w u u' : World} {d n cap A E : Nat} {ao : Option Addr} (h : DX w u d ao n cap) (k : u.grownBy u' (some A)) (hA : d < A ∧ A < E ∧ A = w.heap.size) (hb : 0 < n → ∀ q, blk ao = some q → q < w.heap.size) : DX w u' d ao n cap := by
  obtain ⟨i, x, hd⟩ := h.dice
  have e1 : w.grownBy u' (some d) := ⟨k.os.trans h.g.os, k.tape.trans h.g.tape, k.output.trans h.g.output, Nat.le_trans h.g.size k.size, fun j hj hn => (k.block j (Nat.lt_of_lt_of_le hj h.g.size) (fun e => by cases e; omega)).trans (h.g.block j hj hn)⟩
  refine ⟨e1, ⟨i, x, (k.block d hd.lt (fun e => by cases e; omega)).trans hd⟩, fun j hj => ?_, h.ap⟩
  obtain ⟨b, off, e, hr⟩ := h.row j hj
  exact ⟨b, off, e, fun q hq => by
    obtain ⟨v, hv, h0, h1⟩ := hr q hq
    exact ⟨v, k.cell hv (by have := hb (by omega) b (by rw [e]; rfl); simp; omega), h0, h1⟩⟩
theorem belowX {w u : World} {d n cap : Nat} {ao : Option Addr} (h : DX w u d ao n cap) (hn : n ≤ 4096) (N : Int) (hN : 1 ≤ N) (hN2 : N ≤ 1000000) :
    Calls Tryz.prog 22 #[.pointer (some ⟨d, 0, none⟩), .int .i64 N] u fun e u' => ∃ r : Int, e = .returned (.int .i64 r) ∧ 0 ≤ r ∧ r < N ∧ u.grownBy u' (some d) ∧ DX w u' d ao n cap := by
  obtain ⟨i, x, hd⟩ := h.dice
  refine (below_any d ao n cap i x N u hd hn h.row h.ap hN hN2).mono ?_
  rintro e u' ⟨r, e1, r0, r1, g, D⟩
  refine ⟨r, e1, r0, r1, g, grown_trans h.g g, D, fun j hj => ?_, h.ap⟩
  obtain ⟨b, off, e, hb⟩ := h.row j hj
  exact ⟨b, off, e, fun q hq => by
    obtain ⟨v, hv, h0, h1⟩ := hb q hq
    exact ⟨v, g.cell hv (by have := h.ap (by omega) b (by rw [e]; rfl); simpa using this), h0, h1⟩⟩
end Go.Proofs.YthehhiccfnhinaaGreatDoor
/-
  A region that draws its order, whose operations make new blocks alone and yield what stays so, but for the last one: one proof an operation serves every order.
-/
namespace Go.Proofs.YthehhiccfnhinaaGreatDoor
open Go.RowKit

def upd (X : Nat → Value) (d : Nat) (v : Value) : Nat → Value := fun k => if k = d then v else X k
theorem upd_same (X : Nat → Value) (d : Nat) (v : Value) : upd X d v d = v := by simp [upd]
theorem upd_ne (X : Nat → Value) {d k : Nat} (v : Value) (h : k ≠ d) : upd X d v k = X k := by simp [upd, h]

theorem getD_put {l : Array Bool} {i k : Nat} (hi : i < l.size) : (l.setIfInBounds i true).getD k false = if k = i then true else l.getD k false := by
  simp only [Array.getD_eq_getD_getElem?, Array.getElem?_setIfInBounds]
  by_cases h : i = k
  · subst h; simp [hi]
  · have : ¬ k = i := fun q => h q.symm
    simp [h, this]
/-- How many have not come up yet. -/
def left (n : Nat) (l : Array Bool) : Nat := ((List.range n).filter fun i => !l.getD i false).length
theorem left_put {l : Array Bool} {i n : Nat} (hn : l.size = n) (hi : i < n) (h : l.getD i false = false) : left n (l.setIfInBounds i true) < left n l := by
  unfold left
  have hs : ∀ (L : List Nat), i ∈ L → L.Nodup → (L.filter fun k => !(l.setIfInBounds i true).getD k false).length < (L.filter fun k => !l.getD k false).length := by
    intro L
    induction L with
    | nil => intro q; cases q
    | cons a L ih =>
      intro hm hnd
      have hsub : ∀ (M : List Nat), i ∉ M → (M.filter fun k => !(l.setIfInBounds i true).getD k false) = (M.filter fun k => !l.getD k false) := by
        intro M hM
        refine List.filter_congr (fun k hk => ?_)
        rw [getD_put (by omega), if_neg (fun (q : k = i) => hM (q ▸ hk))]
      rw [List.nodup_cons] at hnd
      by_cases ha : a = i
      · subst ha
        rw [List.filter_cons, List.filter_cons, getD_put (by omega), if_pos rfl, h, hsub L hnd.1]
        simp
      · have hm2 : i ∈ L := by
          rcases List.mem_cons.1 hm with q | q
          · exact absurd q.symm ha
          · exact q
        have := ih hm2 hnd.2
        rw [List.filter_cons, List.filter_cons, getD_put (by omega), if_neg ha]
        split
        · rw [List.length_cons, List.length_cons]; omega
        · exact this
  exact hs _ (List.mem_range.2 hi) List.nodup_range
theorem left_pos {l : Array Bool} {i n : Nat} (hi : i < n) (h : l.getD i false = false) : 0 < left n l := by
  unfold left
  exact List.length_pos_of_mem (List.mem_filter.2 ⟨List.mem_range.2 hi, by rw [h]; rfl⟩)

section
variable {P : Program} {ops : Array Oper} {Q : Exit → Act → World → Prop} {w : World} (n : Nat) (dst : Nat → Nat) (mk : (Nat → Value) → Act) (R : Nat → Value → World → Prop) (Le : World → World → Prop)

/-- The state when these have come up. -/
def StabInv (Q : Exit → Act → World → Prop) (w : World) (l : Array Bool) (a : Act) (u : World) : Prop :=
  l.size = n + 1 ∧ ((l.getD n false = false ∧ ∃ X, a = mk X ∧ Le w.drew u ∧ ∀ i, i < n → l.getD i false = true → R i (X (dst i)) u) ∨ ((∀ i, i < n + 1 → l.getD i false = true) ∧ Q .normal a u))

theorem wpAny_stab (hn : ops.size = n + 1) (hd : ∀ i j, i < n → j < n → dst i = dst j → i = j) (htr : ∀ a b c, Le a b → Le b c → Le a c) (hR : ∀ i v u u', R i v u → Le u u' → R i v u')
    (hlex : ∀ (i : Nat) (o : Oper), ops[i]? = some o → ∀ e ∈ o.after, e.on < i)
    (hall : ∀ o, ops[n]? = some o → ∀ i, i < n → ∃ e ∈ o.after, e.on = i ∧ Region.binds .any e = true)
    (step : ∀ (i : Nat) (o : Oper) X u, i < n → ops[i]? = some o → Le w.drew u → (∀ e ∈ o.after, Region.binds .any e = true → R e.on (X (dst e.on)) u) →
      Region.wanted o (yielded ops (mk X).tmps) = true ∧ o.wp P (mk X) u (fun a' u' => ∃ v, a' = mk (upd X (dst i) v) ∧ Le u u' ∧ R i v u') Q)
    (last : ∀ o X u, ops[n]? = some o → Le w.drew u → (∀ i, i < n → R i (X (dst i)) u) → Region.wanted o (yielded ops (mk X).tmps) = true ∧ o.wp P (mk X) u (fun a' u' => Q .normal a' u') Q) :
    ∀ (fuel : Nat) (l : Array Bool) (a : Act) (u : World), left (n + 1) l ≤ fuel → StabInv n dst mk R Le Q w l a u → wpAny P .any ops Q fuel l a u := by
  have hready : ∀ (l : Array Bool), l.size = n + 1 → (∃ i, i < n + 1 ∧ l.getD i false = false) → Region.ready .any ops l ≠ [] := by
    intro l hl hex he
    have hmin : ∀ m, m ≤ n + 1 → (∀ k, k < m → l.getD k false = true) := by
      intro m
      induction m with
      | zero => intro _ k hk; omega
      | succ m ih =>
        intro hm k hk
        by_cases hkm : k < m
        · exact ih (by omega) k hkm
        · have hk2 : k = m := by omega
          subst hk2
          cases hv : l.getD k false
          · exfalso
            have ho : ops[k]? = some ops[k] := Array.getElem?_eq_getElem (by omega)
            have : k ∈ Region.ready .any ops l := mem_ready.2 ⟨by
              rw [Array.getD_eq_getD_getElem?] at hv ⊢
              rw [Array.getElem?_eq_getElem (by omega)] at hv ⊢
              exact hv, _, ho, fun e he2 _ => ih (by omega) _ (hlex k _ ho e he2)⟩
            rw [he] at this
            cases this
          · rfl
    obtain ⟨i, hi, hf⟩ := hex
    have := hmin (n + 1) (Nat.le_refl _) i hi
    rw [hf] at this
    cases this
  intro fuel
  induction fuel with
  | zero =>
    intro l a u hf ⟨hl, hI⟩
    rcases hI with ⟨h0, -⟩ | ⟨h1, h2⟩
    · have := left_pos (l := l) (n := n + 1) (i := n) (by omega) h0
      omega
    · refine ⟨?_, h2⟩
      cases hr : Region.ready .any ops l with
      | nil => rfl
      | cons i r =>
        exfalso
        have hm : i ∈ Region.ready .any ops l := by rw [hr]; exact List.mem_cons_self
        obtain ⟨q1, o, q2, -⟩ := mem_ready.1 hm
        have hi : i < n + 1 := by rw [← hn]; exact (Array.getElem?_eq_some_iff.1 q2).1
        have := h1 i hi
        rw [Array.getD_eq_getD_getElem?] at this q1
        rw [Array.getElem?_eq_getElem (by omega)] at this q1
        simp at this q1
        rw [this] at q1
        cases q1
  | succ fuel ih =>
    intro l a u hf ⟨hl, hI⟩
    rcases hI with ⟨h0, X, rfl, hF, hX⟩ | ⟨h1, h2⟩
    · refine ⟨fun he => absurd he (hready l hl ⟨n, by omega, h0⟩), fun i hi => ?_⟩
      obtain ⟨q1, o, q2, q3⟩ := mem_ready.1 hi
      have hi2 : i < n + 1 := by rw [← hn]; exact (Array.getElem?_eq_some_iff.1 q2).1
      have hfi : l.getD i false = false := by
        rw [Array.getD_eq_getD_getElem?] at q1 ⊢
        rw [Array.getElem?_eq_getElem (by omega)] at q1 ⊢
        exact q1
      have hlt := left_put hl hi2 hfi
      unfold wpOp
      simp only [q2]
      by_cases hin : i = n
      · subst hin
        obtain ⟨w1, w2⟩ := last o X u q2 hF (fun k hk => by
          obtain ⟨e, e1, e2, e3⟩ := hall o q2 k hk
          exact hX k hk (e2 ▸ q3 e e1 e3))
        rw [if_pos w1]
        refine .inl (Oper.wp_mono (fun a' u' hq => ih _ a' u' (by omega) ⟨by simpa using hl, .inr ⟨fun k hk => ?_, hq⟩⟩) w2)
        rw [getD_put (by omega)]
        by_cases hki : k = i
        · rw [if_pos hki]
        · rw [if_neg hki]
          obtain ⟨e, e1, e2, e3⟩ := hall o q2 k (by omega)
          exact e2 ▸ q3 e e1 e3
      · obtain ⟨w1, w2⟩ := step i o X u (by omega) q2 hF (fun e he hb => hX e.on (by have := hlex i o q2 e he; omega) (q3 e he hb))
        rw [if_pos w1]
        refine .inl (Oper.wp_mono (fun a' u' hq => ?_) w2)
        obtain ⟨v, rfl, f2, r2⟩ := hq
        refine ih _ _ u' (by omega) ⟨by simpa using hl, .inl ⟨by rw [getD_put (by omega), if_neg (fun q => hin q.symm)]; exact h0, _, rfl, htr _ _ _ hF f2, fun k hk hkl => ?_⟩⟩
        rw [getD_put (by omega)] at hkl
        by_cases hki : k = i
        · subst hki
          rw [upd_same]
          exact r2
        · rw [if_neg hki] at hkl
          rw [upd_ne _ _ (fun q => hki (hd k i hk (by omega) q))]
          exact hR k _ _ _ (hX k hk hkl) f2
    · refine ⟨fun _ => h2, fun i hi => ?_⟩
      exfalso
      obtain ⟨q1, o, q2, -⟩ := mem_ready.1 hi
      have hi : i < n + 1 := by rw [← hn]; exact (Array.getElem?_eq_some_iff.1 q2).1
      have := h1 i hi
      rw [Array.getD_eq_getD_getElem?] at this q1
      rw [Array.getElem?_eq_getElem (by omega)] at this q1
      simp at this q1
      rw [this] at q1
      cases q1
end
theorem wp_region_le {P : Program} {ops : Array Oper} {Q : Exit → Act → World → Prop} {w : World} {id : Nat} (n : Nat) (dst : Nat → Nat) (mk : (Nat → Value) → Act) (R : Nat → Value → World → Prop) (Le : World → World → Prop) (X0 : Nat → Value) (hrf : ∀ u, Le u u) (htr : ∀ a b c, Le a b → Le b c → Le a c)
    (hm : P.follows .mixedOrders = true) (hn : ops.size = n + 1) (hd : ∀ i j, i < n → j < n → dst i = dst j → i = j) (hR : ∀ i v u u', R i v u → Le u u' → R i v u')
    (hlex : ∀ (i : Nat) (o : Oper), ops[i]? = some o → ∀ e ∈ o.after, e.on < i)
    (hall : ∀ o, ops[n]? = some o → ∀ i, i < n → ∃ e ∈ o.after, e.on = i ∧ Region.binds .any e = true)
    (step : ∀ (i : Nat) (o : Oper) X u, i < n → ops[i]? = some o → Le w.drew u → (∀ e ∈ o.after, Region.binds .any e = true → R e.on (X (dst e.on)) u) →
      Region.wanted o (yielded ops (mk X).tmps) = true ∧ o.wp P (mk X) u (fun a' u' => ∃ v, a' = mk (upd X (dst i) v) ∧ Le u u' ∧ R i v u') Q)
    (last : ∀ o X u, ops[n]? = some o → Le w.drew u → (∀ i, i < n → R i (X (dst i)) u) → Region.wanted o (yielded ops (mk X).tmps) = true ∧ o.wp P (mk X) u (fun a' u' => Q .normal a' u') Q) :
    (Code.region id ops true).wp P Q (mk X0) w := by
  refine wp_region_any hm (wpAny_stab n dst mk R Le hn hd htr hR hlex hall step last _ _ _ _ ?_ ⟨by simp [hn], .inl ⟨by simp [Array.getD_eq_getD_getElem?, hn], X0, rfl, hrf _, fun i hi h => ?_⟩⟩)
  · rw [hn]
    unfold left
    exact Nat.le_trans (List.length_filter_le _ _) (by simp)
  · exfalso
    rw [Array.getD_eq_getD_getElem?, Array.getElem?_replicate] at h
    split at h <;> simp at h
theorem wp_region_stab {P : Program} {ops : Array Oper} {Q : Exit → Act → World → Prop} {w : World} {id : Nat} (n : Nat) (dst : Nat → Nat) (mk : (Nat → Value) → Act) (R : Nat → Value → World → Prop) (X0 : Nat → Value)
    (hm : P.follows .mixedOrders = true) (hn : ops.size = n + 1) (hd : ∀ i j, i < n → j < n → dst i = dst j → i = j) (hR : ∀ i v u u', R i v u → Fr u u' → R i v u')
    (hlex : ∀ (i : Nat) (o : Oper), ops[i]? = some o → ∀ e ∈ o.after, e.on < i)
    (hall : ∀ o, ops[n]? = some o → ∀ i, i < n → ∃ e ∈ o.after, e.on = i ∧ Region.binds .any e = true)
    (step : ∀ (i : Nat) (o : Oper) X u, i < n → ops[i]? = some o → Fr w.drew u → (∀ e ∈ o.after, Region.binds .any e = true → R e.on (X (dst e.on)) u) →
      Region.wanted o (yielded ops (mk X).tmps) = true ∧ o.wp P (mk X) u (fun a' u' => ∃ v, a' = mk (upd X (dst i) v) ∧ Fr u u' ∧ R i v u') Q)
    (last : ∀ o X u, ops[n]? = some o → Fr w.drew u → (∀ i, i < n → R i (X (dst i)) u) → Region.wanted o (yielded ops (mk X).tmps) = true ∧ o.wp P (mk X) u (fun a' u' => Q .normal a' u') Q) :
    (Code.region id ops true).wp P Q (mk X0) w :=
  wp_region_le n dst mk R Fr X0 Fr.refl (fun _ _ _ h k => h.trans k) hm hn hd hR hlex hall step last
/-- The edges go back; the last one waits for all; no two write one slot. -/
def lexOk (ops : Array Oper) : Bool := (List.range ops.size).all fun i => ((ops[i]?).map fun o => o.after.all fun e => decide (e.on < i)).getD true
def allOk (ops : Array Oper) (n : Nat) : Bool := ((ops[n]?).map fun o => (List.range n).all fun i => o.after.any fun e => e.on == i && Region.binds .any e).getD true
def dstOk (dst : Nat → Nat) (n : Nat) : Bool := (List.range n).all fun i => (List.range n).all fun j => !(dst i == dst j) || i == j
theorem lex_of {ops : Array Oper} (h : lexOk ops = true) : ∀ (i : Nat) (o : Oper), ops[i]? = some o → ∀ e ∈ o.after, e.on < i := by
  intro i o ho e he
  have hi := (Array.getElem?_eq_some_iff.1 ho).1
  have h1 := List.all_eq_true.1 h i (List.mem_range.2 hi)
  simp only [ho, Option.map_some, Option.getD_some, Array.all_eq_true_iff_forall_mem, decide_eq_true_eq] at h1
  exact h1 e he
theorem allR_of {ops : Array Oper} {n : Nat} (h : allOk ops n = true) : ∀ o, ops[n]? = some o → ∀ i, i < n → ∃ e ∈ o.after, e.on = i ∧ Region.binds .any e = true := by
  intro o ho i hi
  unfold allOk at h
  simp only [ho, Option.map_some, Option.getD_some] at h
  have h1 := List.all_eq_true.1 h i (List.mem_range.2 hi)
  simp only [Array.any_eq_true'] at h1
  obtain ⟨e, he, hb⟩ := h1
  simp only [Bool.and_eq_true, beq_iff_eq] at hb
  exact ⟨e, he, hb⟩
theorem dst_of {dst : Nat → Nat} {n : Nat} (h : dstOk dst n = true) : ∀ i j, i < n → j < n → dst i = dst j → i = j := by
  intro i j hi hj e
  have h1 := List.all_eq_true.1 (List.all_eq_true.1 h i (List.mem_range.2 hi)) j (List.mem_range.2 hj)
  simpa [e] using h1
end Go.Proofs.YthehhiccfnhinaaGreatDoor
/-
  The laws' chance.
-/
namespace Go.Proofs.YthehhiccfnhinaaGreatDoor
open Go.RowKit

theorem DX.past {w u u' : World} {d n cap A : Nat} {ao : Option Addr} (h : DX w u d ao n cap) (k : u.grownBy u' (some A)) (hA : d < A ∧ w.heap.size ≤ A) (hb : 0 < n → ∀ q, blk ao = some q → q < w.heap.size) : DX w u' d ao n cap := by
  obtain ⟨i, x, hd⟩ := h.dice
  have e1 : w.grownBy u' (some d) := ⟨k.os.trans h.g.os, k.tape.trans h.g.tape, k.output.trans h.g.output, Nat.le_trans h.g.size k.size, fun j hj hn => (k.block j (Nat.lt_of_lt_of_le hj h.g.size) (fun e => by cases e; omega)).trans (h.g.block j hj hn)⟩
  refine ⟨e1, ⟨i, x, (k.block d hd.lt (fun e => by cases e; omega)).trans hd⟩, fun j hj => ?_, h.ap⟩
  obtain ⟨b, off, e, hr⟩ := h.row j hj
  exact ⟨b, off, e, fun q hq => by
    obtain ⟨v, hv, h0, h1⟩ := hr q hq
    exact ⟨v, k.cell hv (by have := hb (by omega) b (by rw [e]; rfl); simp; omega), h0, h1⟩⟩
theorem EvB.put8 {u : World} {b : Nat} {e : Ev} (h : EvB u b e) (f : Ev) : EvB ((((((((u.setCell ⟨b, 0, none⟩ (.int .i64 f.k)).setCell ⟨b, 1, none⟩ (.int .i64 f.g)).setCell ⟨b, 2, none⟩ (.int .i64 f.o)).setCell ⟨b, 3, none⟩ (.int .i64 f.w)).setCell ⟨b, 4, none⟩ (.int .i64 f.l)).setCell ⟨b, 5, none⟩ (.int .i64 f.s)).setCell ⟨b, 6, none⟩ (.int .i64 f.f)).setCell ⟨b, 7, none⟩ (.int .i64 f.t)) b f :=
  (((((((h.setK f.k).setG f.g).setO f.o).setW f.w).setL f.l).setS f.s).setF f.f).setT f.t

/-- Behind it but the dice is turned. -/
def LeD (w : World) (d : Nat) (ao : Option Addr) (n cap : Nat) (a b : World) : Prop := a.grownBy b (some d) ∧ (DX w a d ao n cap → DX w b d ao n cap)
theorem LeD.rf (w : World) (d : Nat) (ao : Option Addr) (n cap : Nat) (u : World) : LeD w d ao n cap u u := ⟨grown_refl u _, id⟩
theorem LeD.tr (w : World) (d : Nat) (ao : Option Addr) (n cap : Nat) (a b c : World) (h : LeD w d ao n cap a b) (k : LeD w d ao n cap b c) : LeD w d ao n cap a c := ⟨grown_trans h.1 k.1, fun q => k.2 (h.2 q)⟩
theorem LeD.mk {w : World} {d : Nat} {ao : Option Addr} {n cap : Nat} {a b : World} (h : a.grownBy b (some d)) (k : DX w b d ao n cap) : LeD w d ao n cap a b := ⟨h, fun _ => k⟩

/-- The slots of the second event's statement, and what its operations yield. -/
def dstD (i : Nat) : Nat := [26, 27, 28, 29, 30, 31, 32, 33].getD i 0
def RD (d E : Nat) (r2 : Int) : Nat → Value → World → Prop
  | 0, v, _ => v = .pointer (some ⟨d, 0, none⟩)
  | 1, v, _ => ∃ r : Int, v = .int .i64 r ∧ 0 ≤ r ∧ r < 19
  | 2, v, _ => ∃ r : Int, v = .int .i64 (1 + r) ∧ 0 ≤ r ∧ r < 19
  | 3, v, _ => v = .pointer (some ⟨E, 1, none⟩)
  | 4, v, _ => v = .int .i64 r2
  | 5, v, _ => v = .pointer (some ⟨d, 0, none⟩)
  | 6, v, _ => ∃ r : Int, v = .int .i64 r ∧ 0 ≤ r ∧ r < 2
  | 7, v, _ => ∃ a b : Int, v = .agg #[.int .i64 (1 + a), .int .i64 r2, .int .i64 b, .int .i64 0, .int .i64 0, .int .i64 0, .int .i64 0, .int .i64 0] ∧ (0 ≤ a ∧ a < 19) ∧ 0 ≤ b ∧ b < 2
  | _, _, _ => True
theorem RD.st {d E : Nat} {r2 : Int} (i : Nat) (v : Value) (u u' : World) (h : RD d E r2 i v u) : RD d E r2 i v u' := by
  rcases i with _ | _ | _ | _ | _ | _ | _ | _ | i
  all_goals exact h

def dstF (i : Nat) : Nat := [59, 60, 61, 62, 63, 64, 65, 66].getD i 0
def RF (d E : Nat) (r2 : Int) : Nat → Value → World → Prop
  | 0, v, _ => v = .pointer (some ⟨E, 1, none⟩)
  | 1, v, _ => v = .int .i64 r2
  | 2, v, _ => v = .pointer (some ⟨d, 0, none⟩)
  | 3, v, _ => ∃ r : Int, v = .int .i64 r ∧ 0 ≤ r ∧ r < 4
  | 4, v, _ => v = .pointer (some ⟨d, 0, none⟩)
  | 5, v, _ => ∃ r : Int, v = .int .i64 r ∧ 0 ≤ r ∧ r < 2
  | 6, v, _ => ∃ r : Int, v = .int .i64 (1 + r) ∧ 0 ≤ r ∧ r < 2
  | 7, v, _ => ∃ a b : Int, v = .agg #[.int .i64 22, .int .i64 r2, .int .i64 0, .int .i64 0, .int .i64 a, .int .i64 (1 + b), .int .i64 0, .int .i64 0]
  | _, _, _ => True
theorem RF.st {d E : Nat} {r2 : Int} (i : Nat) (v : Value) (u u' : World) (h : RF d E r2 i v u) : RF d E r2 i v u' := by
  rcases i with _ | _ | _ | _ | _ | _ | _ | _ | i
  all_goals exact h

set_option maxRecDepth 20000 in
set_option maxHeartbeats 4000000 in
theorem chance_any {w : World} {d n cap : Nat} {ao : Option Addr} (G : Int) (h : DX w w d ao n cap) (hn : n ≤ 4096) (hG : 1 ≤ G) (hG2 : G ≤ 16) (hb : 0 < n → ∀ q, blk ao = some q → q < w.heap.size) :
    Calls Tryz.prog 70 #[.pointer (some ⟨d, 0, none⟩), .int .i64 G] w fun x w' => ∃ e : Ev, x = .returned (.agg #[.int .i64 e.k, .int .i64 e.g, .int .i64 e.o, .int .i64 e.w, .int .i64 e.l, .int .i64 e.s, .int .i64 e.f, .int .i64 e.t]) ∧ DX w w' d ao n cap := by
  have fA := Fr.alloc w (.cells #[.int .i64 0, .int .i64 0, .int .i64 0, .int .i64 0, .int .i64 0, .int .i64 0, .int .i64 0, .int .i64 0] 31)
  have kA := EvB.new w ⟨0, 0, 0, 0, 0, 0, 0, 0⟩
  simp only at kA
  have cB := fun (u : World) (N : Int) (hN : 1 ≤ N) (hN2 : N ≤ 1000000) (q : DX w u d ao n cap) => belowX q hn N hN hN2
  obtain ⟨i0, x0, hd0⟩ := h.dice
  have hdl := hd0.lt
  have D0 := h.fr fA
  clear h hd0
  go_enter Tryz.func70, Tryz.ntmps70
  go_wp2_with fail
  refine (cB _ 2 (by omega) (by omega) D0).mono ?_
  rintro e u1 ⟨r1, rfl, a1, b1, g1, D1⟩
  go_wp2_with fail
  refine (cB _ G (by omega) (by omega) D1).mono ?_
  rintro e u2 ⟨r2, rfl, a2, b2, g2, D2⟩
  go_wp2_with fail
  refine (cB _ 4 (by omega) (by omega) D2).mono ?_
  rintro e u3 ⟨r3, rfl, a3, b3, g3, D3⟩
  go_wp2_with fail
  refine (cB _ 3 (by omega) (by omega) D3).mono ?_
  rintro e u4 ⟨r4, rfl, a4, b4, g4, D4⟩
  go_wp2_with fail
  refine (cB _ 2 (by omega) (by omega) D4).mono ?_
  rintro e u5 ⟨r5, rfl, a5, b5, g5, D5⟩
  go_wp2_with fail
  refine (cB _ 5 (by omega) (by omega) D5).mono ?_
  rintro e u6 ⟨r6, rfl, a6, b6, g6, D6⟩
  have fB := Fr.alloc u6 (.cells #[.int .i64 (20 + r1), .int .i64 r2, .int .i64 0, .int .i64 0, .int .i64 r3, .int .i64 (1 + r4), .int .i64 r5, .int .i64 r6] 31)
  have kB := EvB.new u6 ⟨20 + r1, r2, 0, 0, r3, 1 + r4, r5, r6⟩
  simp only at kB
  have l0 := kA.lt
  have kA := (((((((kA.keep g1 (fun e => by cases e; omega)).keep g2 (fun e => by cases e; omega)).keep g3 (fun e => by cases e; omega)).keep g4 (fun e => by cases e; omega)).keep g5 (fun e => by cases e; omega)).keep g6 (fun e => by cases e; omega)).keep fB (by simp))
  have z6 : w.heap.size < u6.heap.size := by
    have := g1.size
    have := g2.size
    have := g3.size
    have := g4.size
    have := g5.size
    have := g6.size
    omega
  have D6 := D6.fr fB
  clear l0 D0 D1 D2 D3 D4 D5 g1 g2 g3 g4 g5 g6 fA
  go_wp2_with fail
  obtain ⟨U, hU⟩ : ∃ U, U = u6.alloc (.cells #[.int .i64 (20 + r1), .int .i64 r2, .int .i64 0, .int .i64 0, .int .i64 r3, .int .i64 (1 + r4), .int .i64 r5, .int .i64 r6] 31) := ⟨_, rfl⟩
  rw [← hU] at kA kB D6 ⊢
  obtain ⟨A, hA⟩ : ∃ A, A = w.heap.size := ⟨_, rfl⟩
  obtain ⟨E, hE⟩ : ∃ E, E = u6.heap.size := ⟨_, rfl⟩
  rw [← hA] at kA hdl z6 ⊢
  rw [← hE] at kB z6 ⊢
  clear hU hE fB
  have HZ : Hid (d < A ∧ A < E ∧ A = w.heap.size) := ⟨hdl, z6, hA⟩
  clear hdl z6 hA
  refine (cB _ 2 (by omega) (by omega) D6).mono ?_
  rintro x u7 ⟨r7, rfl, a7, b7, g7, D7⟩
  have kA := kA.keep g7 (fun e => by cases e; have := HZ.out; omega)
  have kB := kB.keep g7 (fun e => by cases e; have := HZ.out; omega)
  clear D6 g7
  obtain ⟨e0, e1, e2, e3, e4, e5, e6, e7⟩ := kB.at
  simp only at e0 e1 e2 e3 e4 e5 e6 e7
  have fr := fun i => kA.free i
  have fb := fun i => kB.free i
  by_cases h7 : r7 = 0
  · subst h7
    obtain ⟨p0, p1, p2, p3, p4, p5, p6, p7⟩ := kA.at
    simp only at p0 p1 p2 p3 p4 p5 p6 p7
    go_wp2_with fail
    have k5 := put8 u7 A (.int .i64 (20 + r1)) (.int .i64 r2) (.int .i64 0) (.int .i64 0) (.int .i64 r3) (.int .i64 (1 + r4)) (.int .i64 r5) (.int .i64 r6)
    refine bodyPost_ret (v := .agg #[.int .i64 (20 + r1), .int .i64 r2, .int .i64 0, .int .i64 0, .int .i64 r3, .int .i64 (1 + r4), .int .i64 r5, .int .i64 r6]) (by simp [results, Tryz.results70, go_sem, p0, p1, p2, p3, p4, p5, p6, p7]) rfl ⟨⟨20 + r1, r2, 0, 0, r3, 1 + r4, r5, r6⟩, rfl, ?_⟩
    exact D7.beyond k5 HZ.out hb
  · have hb7 : (r7 == 0) = false := by simpa using h7
    have KB : Hid (∀ u, u7.grownBy u (some d) → EvB u E ⟨20 + r1, r2, 0, 0, r3, 1 + r4, r5, r6⟩ ∧ EvB u A ⟨0, 0, 0, 0, 0, 0, 0, 0⟩) := fun u g => ⟨kB.keep g (fun e => by cases e; have := HZ.out; omega), kA.keep g (fun e => by cases e; have := HZ.out; omega)⟩
    have HD7 : Hid (DX w u7.drew d ao n cap) := D7.fr (Fr.drew u7)
    clear cB D7 h7
    go_wp2_with fail
    refine wp_region_le 8 dstD (fun X => { tmps := #[.pointer (some ⟨d, 0, none⟩), .int .i64 G, undef, undef, .pointer (some ⟨A, 0, none⟩), .pointer (some ⟨E, 0, none⟩), .pointer (some ⟨d, 0, none⟩), .int .i64 r1, .int .i64 (20 + r1), .pointer (some ⟨d, 0, none⟩), .int .i64 G, .int .i64 r2, .pointer (some ⟨d, 0, none⟩), .int .i64 r3, .pointer (some ⟨d, 0, none⟩), .int .i64 r4, .int .i64 (1 + r4), .pointer (some ⟨d, 0, none⟩), .int .i64 r5, .pointer (some ⟨d, 0, none⟩), .int .i64 r6, .agg #[.int .i64 (20 + r1), .int .i64 r2, .int .i64 0, .int .i64 0, .int .i64 r3, .int .i64 (1 + r4), .int .i64 r5, .int .i64 r6], .pointer (some ⟨d, 0, none⟩), .int .i64 r7, .bool false, undef, X 26, X 27, X 28, X 29, X 30, X 31, X 32, X 33, undef, undef, undef, undef, undef, undef, undef, undef, undef, undef, undef, undef, undef, undef, undef, undef, undef, undef, undef, undef, undef, undef, undef, undef, undef, undef, undef, undef, undef, undef, undef, undef, undef, undef], defers := [] }) (RD d E r2) (LeD w d ao n cap) (fun _ => undef) (LeD.rf w d ao n cap) (LeD.tr w d ao n cap) (by kernel_rfl) rfl (dst_of (by kernel_rfl)) (fun i v u u' h _ => RD.st i v u u' h) (lex_of (by kernel_rfl)) (allR_of (by kernel_rfl)) ?_ ?_
    · intro i o X u hi ho hF hE
      have Du := hF.2 HD7.out
      obtain ⟨y0, y1, y2, y3, y4, y5, y6, y7⟩ := (KB.out u (grown_trans (Fr.drew u7).wide hF.1)).1.at
      simp only at y0 y1 y2 y3 y4 y5 y6 y7
      rcases i with _ | _ | _ | _ | _ | _ | _ | _ | i
      · simp only [List.getElem?_toArray, List.getElem?_cons_zero, Option.some.injEq] at ho
        subst ho
        refine ⟨by simp [Region.wanted], ?_⟩
        go_simp
        exact ⟨_, (by simp [upd, dstD]), LeD.rf _ _ _ _ _ _, rfl⟩
      · simp only [List.getElem?_toArray, List.getElem?_cons_succ, List.getElem?_cons_zero, Option.some.injEq] at ho
        subst ho
        refine ⟨by simp [Region.wanted], ?_⟩
        have e0 : X 26 = .pointer (some ⟨d, 0, none⟩) := hE ⟨0, .data⟩ (by simp) rfl
        go_simp
        refine (belowX Du hn 19 (by omega) (by omega)).mono ?_
        rintro x u' ⟨r, rfl, ra, rb, rg, rD⟩
        exact ⟨_, (by simp [upd, dstD, e0]), LeD.mk rg rD, ⟨r, rfl, ra, rb⟩⟩
      · simp only [List.getElem?_toArray, List.getElem?_cons_succ, List.getElem?_cons_zero, Option.some.injEq] at ho
        subst ho
        refine ⟨by simp [Region.wanted], ?_⟩
        obtain ⟨r, e1, ra, rb⟩ : ∃ r : Int, X 27 = .int .i64 r ∧ 0 ≤ r ∧ r < 19 := hE ⟨1, .data⟩ (by simp) rfl
        have hw : IntKind.i64.wrap (1 + r) = 1 + r := by rw [IntKind.wrap_i64]; omega
        go_simp
        exact ⟨_, (by simp [upd, dstD, e1]), LeD.rf _ _ _ _ _ _, ⟨r, rfl, ra, rb⟩⟩
      · simp only [List.getElem?_toArray, List.getElem?_cons_succ, List.getElem?_cons_zero, Option.some.injEq] at ho
        subst ho
        refine ⟨by simp [Region.wanted], ?_⟩
        go_simp
        exact ⟨_, (by simp [upd, dstD]), LeD.rf _ _ _ _ _ _, rfl⟩
      · simp only [List.getElem?_toArray, List.getElem?_cons_succ, List.getElem?_cons_zero, Option.some.injEq] at ho
        subst ho
        refine ⟨by simp [Region.wanted], ?_⟩
        have e3 : X 29 = .pointer (some ⟨E, 1, none⟩) := hE ⟨3, .data⟩ (by simp) rfl
        go_simp
        exact ⟨_, (by simp [upd, dstD, e3]), LeD.rf _ _ _ _ _ _, rfl⟩
      · simp only [List.getElem?_toArray, List.getElem?_cons_succ, List.getElem?_cons_zero, Option.some.injEq] at ho
        subst ho
        refine ⟨by simp [Region.wanted], ?_⟩
        go_simp
        exact ⟨_, (by simp [upd, dstD]), LeD.rf _ _ _ _ _ _, rfl⟩
      · simp only [List.getElem?_toArray, List.getElem?_cons_succ, List.getElem?_cons_zero, Option.some.injEq] at ho
        subst ho
        refine ⟨by simp [Region.wanted], ?_⟩
        have e5 : X 31 = .pointer (some ⟨d, 0, none⟩) := hE ⟨5, .data⟩ (by simp) rfl
        go_simp
        refine (belowX Du hn 2 (by omega) (by omega)).mono ?_
        rintro x u' ⟨r, rfl, ra, rb, rg, rD⟩
        exact ⟨_, (by simp [upd, dstD, e5]), LeD.mk rg rD, ⟨r, rfl, ra, rb⟩⟩
      · simp only [List.getElem?_toArray, List.getElem?_cons_succ, List.getElem?_cons_zero, Option.some.injEq] at ho
        subst ho
        refine ⟨by simp [Region.wanted], ?_⟩
        obtain ⟨ra, e2, ra0, ra1⟩ : ∃ r : Int, X 28 = .int .i64 (1 + r) ∧ 0 ≤ r ∧ r < 19 := hE ⟨2, .data⟩ (by simp) rfl
        have e4 : X 30 = .int .i64 r2 := hE ⟨4, .data⟩ (by simp) rfl
        obtain ⟨rb, e6, rb0, rb1⟩ : ∃ r : Int, X 32 = .int .i64 r ∧ 0 ≤ r ∧ r < 2 := hE ⟨6, .data⟩ (by simp) rfl
        go_simp
        exact ⟨_, (by simp [upd, dstD, e2, e4, e6]), LeD.rf _ _ _ _ _ _, ⟨ra, rb, rfl, ⟨ra0, ra1⟩, rb0, rb1⟩⟩
      · omega
    · intro o X u ho hF hX
      simp only [List.getElem?_toArray, List.getElem?_cons_succ, List.getElem?_cons_zero, Option.some.injEq] at ho
      subst ho
      have Du := hF.2 HD7.out
      obtain ⟨kE, kZ⟩ := KB.out u (grown_trans (Fr.drew u7).wide hF.1)
      obtain ⟨ka, kb, e7, ⟨ka0, ka1⟩, kb0, kb1⟩ : ∃ a b : Int, X 33 = .agg #[.int .i64 (1 + a), .int .i64 r2, .int .i64 b, .int .i64 0, .int .i64 0, .int .i64 0, .int .i64 0, .int .i64 0] ∧ (0 ≤ a ∧ a < 19) ∧ 0 ≤ b ∧ b < 2 := hX 7 (by omega)
      clear hX
      obtain ⟨y0, y1, y2, y3, y4, y5, y6, y7⟩ := kE.at
      simp only at y0 y1 y2 y3 y4 y5 y6 y7
      have yf := fun i => kE.free i
      refine ⟨by simp [Region.wanted], ?_⟩
      go_simp
      have k8 := put8 u E (.int .i64 (1 + ka)) (.int .i64 r2) (.int .i64 kb) (.int .i64 0) (.int .i64 0) (.int .i64 0) (.int .i64 0) (.int .i64 0)
      have kE8 := kE.put8 ⟨1 + ka, r2, kb, 0, 0, 0, 0, 0⟩
      simp only at kE8
      have kZ8 := kZ.keep k8 (fun e => by cases e; have := HZ.out; omega)
      have D8 := Du.past k8 ⟨by have := HZ.out; omega, by have := HZ.out; omega⟩ hb
      obtain ⟨U, hU⟩ : ∃ U, U = ((((((((u.setCell ⟨E, 0, none⟩ (.int .i64 (1 + ka))).setCell ⟨E, 1, none⟩ (.int .i64 r2)).setCell ⟨E, 2, none⟩ (.int .i64 kb)).setCell ⟨E, 3, none⟩ (.int .i64 0)).setCell ⟨E, 4, none⟩ (.int .i64 0)).setCell ⟨E, 5, none⟩ (.int .i64 0)).setCell ⟨E, 6, none⟩ (.int .i64 0)).setCell ⟨E, 7, none⟩ (.int .i64 0)) := ⟨_, rfl⟩
      rw [← hU] at kE8 kZ8 D8 ⊢
      obtain ⟨K, hK⟩ : ∃ K, K = 1 + ka := ⟨_, rfl⟩
      rw [← hK] at kE8 e7 ⊢
      have hK1 : 1 ≤ K ∧ K ≤ 19 := by omega
      have hAE : ¬ A = E := by have := HZ.out; omega
      have hEA : ¬ E = A := by have := HZ.out; omega
      clear hU hK k8 kE kZ Du y0 y1 y2 y3 y4 y5 y6 y7 yf ka0 ka1 KB HD7 hF e0 e1 e2 e3 e4 e5 e6 fr fb
      obtain ⟨y0, y1, y2, y3, y4, y5, y6, y7⟩ := EvB.at (kE8)
      simp only at y0 y1 y2 y3 y4 y5 y6 y7
      have yf := fun i => EvB.free (kE8) i
      obtain ⟨p0, p1, p2, p3, p4, p5, p6, p7⟩ := EvB.at (kZ8)
      simp only at p0 p1 p2 p3 p4 p5 p6 p7
      have pf := fun i => EvB.free (kZ8) i
      by_cases h1 : K = 1
      · subst h1
        go_wp2_with fail
        refine bodyPost_ret (v := .agg #[.int .i64 1, .int .i64 r2, .int .i64 G, .int .i64 0, .int .i64 0, .int .i64 0, .int .i64 0, .int .i64 0]) (by simp [results, Tryz.results70, go_sem, p0, p1, p2, p3, p4, p5, p6, p7]) rfl ⟨⟨1, r2, G, 0, 0, 0, 0, 0⟩, rfl, ?_⟩
        exact (D8.past (grown_set U E 2 (.int .i64 G)) ⟨by have := HZ.out; omega, by have := HZ.out; omega⟩ hb).past (put8 (U.setCell ⟨E, 2, none⟩ (.int .i64 G)) A (.int .i64 1) (.int .i64 r2) (.int .i64 G) (.int .i64 0) (.int .i64 0) (.int .i64 0) (.int .i64 0) (.int .i64 0)) ⟨by have := HZ.out; omega, by have := HZ.out; omega⟩ hb
      have hb1 : (K == 1) = false := by simp [h1]
      by_cases h6 : K = 6
      · subst h6
        clear y0 y1 y2 y3 y4 y5 y6 y7 yf p0 p1 p2 p3 p4 p5 p6 p7 pf
        obtain ⟨y0, y1, y2, y3, y4, y5, y6, y7⟩ := EvB.at kE8
        simp only at y0 y1 y2 y3 y4 y5 y6 y7
        go_wp2_with fail
        refine (belowX D8 hn 3 (by omega) (by omega)).mono ?_
        rintro x u9 ⟨r9, rfl, a9, b9, g9, D9⟩
        clear y0 y1 y2 y3 y4 y5 y6 y7
        have kE9 := kE8.keep g9 (fun e => by cases e; have := HZ.out; omega)
        have kZ9 := kZ8.keep g9 (fun e => by cases e; have := HZ.out; omega)
        obtain ⟨y0, y1, y2, y3, y4, y5, y6, y7⟩ := EvB.at (kE9)
        simp only at y0 y1 y2 y3 y4 y5 y6 y7
        have yf := fun i => EvB.free (kE9) i
        obtain ⟨p0, p1, p2, p3, p4, p5, p6, p7⟩ := EvB.at (kZ9)
        simp only at p0 p1 p2 p3 p4 p5 p6 p7
        have pf := fun i => EvB.free (kZ9) i
        go_wp2_with fail
        refine bodyPost_ret (v := .agg #[.int .i64 6, .int .i64 r2, .int .i64 kb, .int .i64 0, .int .i64 0, .int .i64 r9, .int .i64 0, .int .i64 0]) (by simp [results, Tryz.results70, go_sem, p0, p1, p2, p3, p4, p5, p6, p7]) rfl ⟨⟨6, r2, kb, 0, 0, r9, 0, 0⟩, rfl, ?_⟩
        exact (D9.past (grown_set u9 E 5 (.int .i64 r9)) ⟨by have := HZ.out; omega, by have := HZ.out; omega⟩ hb).past (put8 (u9.setCell ⟨E, 5, none⟩ (.int .i64 r9)) A (.int .i64 6) (.int .i64 r2) (.int .i64 kb) (.int .i64 0) (.int .i64 0) (.int .i64 r9) (.int .i64 0) (.int .i64 0)) ⟨by have := HZ.out; omega, by have := HZ.out; omega⟩ hb
      have hb6 : (K == 6) = false := by simp [h6]
      by_cases h9 : K = 9
      · subst h9
        clear y0 y1 y2 y3 y4 y5 y6 y7 yf p0 p1 p2 p3 p4 p5 p6 p7 pf
        obtain ⟨y0, y1, y2, y3, y4, y5, y6, y7⟩ := EvB.at kE8
        simp only at y0 y1 y2 y3 y4 y5 y6 y7
        go_wp2_with fail
        refine (belowX D8 hn G (by omega) (by omega)).mono ?_
        rintro x u9 ⟨r9, rfl, a9, b9, g9, D9⟩
        clear y0 y1 y2 y3 y4 y5 y6 y7
        have kE9 := kE8.keep g9 (fun e => by cases e; have := HZ.out; omega)
        have kZ9 := kZ8.keep g9 (fun e => by cases e; have := HZ.out; omega)
        obtain ⟨y0, y1, y2, y3, y4, y5, y6, y7⟩ := EvB.at (kE9)
        simp only at y0 y1 y2 y3 y4 y5 y6 y7
        have yf := fun i => EvB.free (kE9) i
        obtain ⟨p0, p1, p2, p3, p4, p5, p6, p7⟩ := EvB.at (kZ9)
        simp only at p0 p1 p2 p3 p4 p5 p6 p7
        have pf := fun i => EvB.free (kZ9) i
        go_wp2_with fail
        refine bodyPost_ret (v := .agg #[.int .i64 9, .int .i64 r2, .int .i64 kb, .int .i64 r9, .int .i64 0, .int .i64 0, .int .i64 0, .int .i64 0]) (by simp [results, Tryz.results70, go_sem, p0, p1, p2, p3, p4, p5, p6, p7]) rfl ⟨⟨9, r2, kb, r9, 0, 0, 0, 0⟩, rfl, ?_⟩
        exact (D9.past (grown_set u9 E 3 (.int .i64 r9)) ⟨by have := HZ.out; omega, by have := HZ.out; omega⟩ hb).past (put8 (u9.setCell ⟨E, 3, none⟩ (.int .i64 r9)) A (.int .i64 9) (.int .i64 r2) (.int .i64 kb) (.int .i64 r9) (.int .i64 0) (.int .i64 0) (.int .i64 0) (.int .i64 0)) ⟨by have := HZ.out; omega, by have := HZ.out; omega⟩ hb
      have hb9 : (K == 9) = false := by simp [h9]
      by_cases h12 : K = 12
      · subst h12
        go_wp2_with fail
        refine bodyPost_ret (v := .agg #[.int .i64 12, .int .i64 r2, .int .i64 kb, .int .i64 0, .int .i64 0, .int .i64 1, .int .i64 0, .int .i64 0]) (by simp [results, Tryz.results70, go_sem, p0, p1, p2, p3, p4, p5, p6, p7]) rfl ⟨⟨12, r2, kb, 0, 0, 1, 0, 0⟩, rfl, ?_⟩
        exact (D8.past (grown_set U E 5 (.int .i64 1)) ⟨by have := HZ.out; omega, by have := HZ.out; omega⟩ hb).past (put8 (U.setCell ⟨E, 5, none⟩ (.int .i64 1)) A (.int .i64 12) (.int .i64 r2) (.int .i64 kb) (.int .i64 0) (.int .i64 0) (.int .i64 1) (.int .i64 0) (.int .i64 0)) ⟨by have := HZ.out; omega, by have := HZ.out; omega⟩ hb
      have hb12 : (K == 12) = false := by simp [h12]
      by_cases h15 : K = 15
      · subst h15
        clear y0 y1 y2 y3 y4 y5 y6 y7 yf p0 p1 p2 p3 p4 p5 p6 p7 pf
        obtain ⟨y0, y1, y2, y3, y4, y5, y6, y7⟩ := EvB.at kE8
        simp only at y0 y1 y2 y3 y4 y5 y6 y7
        go_wp2_with fail
        refine (belowX D8 hn 2 (by omega) (by omega)).mono ?_
        rintro x u9 ⟨r9, rfl, a9, b9, g9, D9⟩
        clear y0 y1 y2 y3 y4 y5 y6 y7
        have kE9 := kE8.keep g9 (fun e => by cases e; have := HZ.out; omega)
        have kZ9 := kZ8.keep g9 (fun e => by cases e; have := HZ.out; omega)
        obtain ⟨y0, y1, y2, y3, y4, y5, y6, y7⟩ := EvB.at (kE9)
        simp only at y0 y1 y2 y3 y4 y5 y6 y7
        have yf := fun i => EvB.free (kE9) i
        obtain ⟨p0, p1, p2, p3, p4, p5, p6, p7⟩ := EvB.at (kZ9)
        simp only at p0 p1 p2 p3 p4 p5 p6 p7
        have pf := fun i => EvB.free (kZ9) i
        by_cases h9 : r9 = 0
        · subst h9
          go_wp2_with fail
          have KB9 : Hid (∀ u, u9.grownBy u (some d) → EvB u E ⟨15, r2, kb, 0, 0, 0, 0, 0⟩ ∧ EvB u A ⟨0, 0, 0, 0, 0, 0, 0, 0⟩) := fun u g => ⟨kE9.keep g (fun e => by cases e; have := HZ.out; omega), kZ9.keep g (fun e => by cases e; have := HZ.out; omega)⟩
          have HD9 : Hid (DX w u9.drew d ao n cap) := D9.fr (Fr.drew u9)
          clear y0 y1 y2 y3 y4 y5 y6 y7 yf p0 p1 p2 p3 p4 p5 p6 p7 pf D9 D8 kE9 kZ9 kE8 kZ8 g9
          refine wp_region_le 8 dstF (fun Y => { tmps := #[.pointer (some ⟨d, 0, none⟩), .int .i64 G, undef, undef, .pointer (some ⟨A, 0, none⟩), .pointer (some ⟨E, 0, none⟩), .pointer (some ⟨d, 0, none⟩), .int .i64 r1, .int .i64 (20 + r1), .pointer (some ⟨d, 0, none⟩), .int .i64 G, .int .i64 r2, .pointer (some ⟨d, 0, none⟩), .int .i64 r3, .pointer (some ⟨d, 0, none⟩), .int .i64 r4, .int .i64 (1 + r4), .pointer (some ⟨d, 0, none⟩), .int .i64 r5, .pointer (some ⟨d, 0, none⟩), .int .i64 r6, .agg #[.int .i64 (20 + r1), .int .i64 r2, .int .i64 0, .int .i64 0, .int .i64 r3, .int .i64 (1 + r4), .int .i64 r5, .int .i64 r6], .pointer (some ⟨d, 0, none⟩), .int .i64 r7, .bool false, undef, X 26, X 27, X 28, X 29, X 30, X 31, X 32, .agg #[.int .i64 15, .int .i64 r2, .int .i64 kb, .int .i64 0, .int .i64 0, .int .i64 0, .int .i64 0, .int .i64 0], .pointer (some ⟨E, 0, none⟩), .int .i64 15, .bool false, .bool false, undef, undef, .bool false, .bool false, undef, undef, undef, .bool false, .bool false, undef, undef, undef, undef, .bool false, .bool false, undef, .bool true, .bool true, .pointer (some ⟨d, 0, none⟩), .int .i64 0, .bool true, Y 59, Y 60, Y 61, Y 62, Y 63, Y 64, Y 65, Y 66, undef], defers := [] }) (RF d E r2) (LeD w d ao n cap) (fun _ => undef) (LeD.rf w d ao n cap) (LeD.tr w d ao n cap) (by kernel_rfl) rfl (dst_of (by kernel_rfl)) (fun i v u u' h _ => RF.st i v u u' h) (lex_of (by kernel_rfl)) (allR_of (by kernel_rfl)) ?_ ?_
          · intro i o Y u hi ho hF hE
            have Du := hF.2 HD9.out
            obtain ⟨y0, y1, y2, y3, y4, y5, y6, y7⟩ := (KB9.out u (grown_trans (Fr.drew u9).wide hF.1)).1.at
            simp only at y0 y1 y2 y3 y4 y5 y6 y7
            rcases i with _ | _ | _ | _ | _ | _ | _ | _ | i
            · simp only [List.getElem?_toArray, List.getElem?_cons_zero, Option.some.injEq] at ho
              subst ho
              refine ⟨by simp [Region.wanted], ?_⟩
              go_simp
              exact ⟨_, (by simp [upd, dstF]), LeD.rf _ _ _ _ _ _, rfl⟩
            · simp only [List.getElem?_toArray, List.getElem?_cons_succ, List.getElem?_cons_zero, Option.some.injEq] at ho
              subst ho
              refine ⟨by simp [Region.wanted], ?_⟩
              have e0 : Y 59 = .pointer (some ⟨E, 1, none⟩) := hE ⟨0, .data⟩ (by simp) rfl
              go_simp
              exact ⟨_, (by simp [upd, dstF, e0]), LeD.rf _ _ _ _ _ _, rfl⟩
            · simp only [List.getElem?_toArray, List.getElem?_cons_succ, List.getElem?_cons_zero, Option.some.injEq] at ho
              subst ho
              refine ⟨by simp [Region.wanted], ?_⟩
              go_simp
              exact ⟨_, (by simp [upd, dstF]), LeD.rf _ _ _ _ _ _, rfl⟩
            · simp only [List.getElem?_toArray, List.getElem?_cons_succ, List.getElem?_cons_zero, Option.some.injEq] at ho
              subst ho
              refine ⟨by simp [Region.wanted], ?_⟩
              have e2 : Y 61 = .pointer (some ⟨d, 0, none⟩) := hE ⟨2, .data⟩ (by simp) rfl
              go_simp
              refine (belowX Du hn 4 (by omega) (by omega)).mono ?_
              rintro x u' ⟨r, rfl, ra, rb, rg, rD⟩
              exact ⟨_, (by simp [upd, dstF, e2]), LeD.mk rg rD, ⟨r, rfl, ra, rb⟩⟩
            · simp only [List.getElem?_toArray, List.getElem?_cons_succ, List.getElem?_cons_zero, Option.some.injEq] at ho
              subst ho
              refine ⟨by simp [Region.wanted], ?_⟩
              go_simp
              exact ⟨_, (by simp [upd, dstF]), LeD.rf _ _ _ _ _ _, rfl⟩
            · simp only [List.getElem?_toArray, List.getElem?_cons_succ, List.getElem?_cons_zero, Option.some.injEq] at ho
              subst ho
              refine ⟨by simp [Region.wanted], ?_⟩
              have e4 : Y 63 = .pointer (some ⟨d, 0, none⟩) := hE ⟨4, .data⟩ (by simp) rfl
              go_simp
              refine (belowX Du hn 2 (by omega) (by omega)).mono ?_
              rintro x u' ⟨r, rfl, ra, rb, rg, rD⟩
              exact ⟨_, (by simp [upd, dstF, e4]), LeD.mk rg rD, ⟨r, rfl, ra, rb⟩⟩
            · simp only [List.getElem?_toArray, List.getElem?_cons_succ, List.getElem?_cons_zero, Option.some.injEq] at ho
              subst ho
              refine ⟨by simp [Region.wanted], ?_⟩
              obtain ⟨r, e5, ra, rb⟩ : ∃ r : Int, Y 64 = .int .i64 r ∧ 0 ≤ r ∧ r < 2 := hE ⟨5, .data⟩ (by simp) rfl
              have hw : IntKind.i64.wrap (1 + r) = 1 + r := by rw [IntKind.wrap_i64]; omega
              go_simp
              exact ⟨_, (by simp [upd, dstF, e5]), LeD.rf _ _ _ _ _ _, ⟨r, rfl, ra, rb⟩⟩
            · simp only [List.getElem?_toArray, List.getElem?_cons_succ, List.getElem?_cons_zero, Option.some.injEq] at ho
              subst ho
              refine ⟨by simp [Region.wanted], ?_⟩
              have e1 : Y 60 = .int .i64 r2 := hE ⟨1, .data⟩ (by simp) rfl
              obtain ⟨ra, e3, ra0, ra1⟩ : ∃ r : Int, Y 62 = .int .i64 r ∧ 0 ≤ r ∧ r < 4 := hE ⟨3, .data⟩ (by simp) rfl
              obtain ⟨rb, e6, rb0, rb1⟩ : ∃ r : Int, Y 65 = .int .i64 (1 + r) ∧ 0 ≤ r ∧ r < 2 := hE ⟨6, .data⟩ (by simp) rfl
              go_simp
              exact ⟨_, (by simp [upd, dstF, e1, e3, e6]), LeD.rf _ _ _ _ _ _, ⟨ra, rb, rfl⟩⟩
            · omega
          · intro o Y u ho hF hX
            simp only [List.getElem?_toArray, List.getElem?_cons_succ, List.getElem?_cons_zero, Option.some.injEq] at ho
            subst ho
            have Du := hF.2 HD9.out
            obtain ⟨kE, kZ⟩ := KB9.out u (grown_trans (Fr.drew u9).wide hF.1)
            obtain ⟨fa, fb, e7⟩ : ∃ a b : Int, Y 66 = .agg #[.int .i64 22, .int .i64 r2, .int .i64 0, .int .i64 0, .int .i64 a, .int .i64 (1 + b), .int .i64 0, .int .i64 0] := hX 7 (by omega)
            clear hX
            obtain ⟨y0, y1, y2, y3, y4, y5, y6, y7⟩ := kE.at
            simp only at y0 y1 y2 y3 y4 y5 y6 y7
            have yf := fun i => kE.free i
            refine ⟨by simp [Region.wanted], ?_⟩
            go_simp
            have k8 := put8 u E (.int .i64 22) (.int .i64 r2) (.int .i64 0) (.int .i64 0) (.int .i64 fa) (.int .i64 (1 + fb)) (.int .i64 0) (.int .i64 0)
            have kE8 := kE.put8 ⟨22, r2, 0, 0, fa, 1 + fb, 0, 0⟩
            simp only at kE8
            have kZ8 := kZ.keep k8 (fun e => by cases e; have := HZ.out; omega)
            have D8 := Du.past k8 ⟨by have := HZ.out; omega, by have := HZ.out; omega⟩ hb
            obtain ⟨U2, hU2⟩ : ∃ U, U = ((((((((u.setCell ⟨E, 0, none⟩ (.int .i64 22)).setCell ⟨E, 1, none⟩ (.int .i64 r2)).setCell ⟨E, 2, none⟩ (.int .i64 0)).setCell ⟨E, 3, none⟩ (.int .i64 0)).setCell ⟨E, 4, none⟩ (.int .i64 fa)).setCell ⟨E, 5, none⟩ (.int .i64 (1 + fb))).setCell ⟨E, 6, none⟩ (.int .i64 0)).setCell ⟨E, 7, none⟩ (.int .i64 0)) := ⟨_, rfl⟩
            rw [← hU2] at kE8 kZ8 D8 ⊢
            clear hU2 y0 y1 y2 y3 y4 y5 y6 y7 yf k8 kE kZ Du hF KB9 HD9
            obtain ⟨y0, y1, y2, y3, y4, y5, y6, y7⟩ := EvB.at kE8
            simp only at y0 y1 y2 y3 y4 y5 y6 y7
            have yf := fun i => EvB.free kE8 i
            obtain ⟨p0, p1, p2, p3, p4, p5, p6, p7⟩ := EvB.at kZ8
            simp only at p0 p1 p2 p3 p4 p5 p6 p7
            have pf := fun i => EvB.free kZ8 i
            go_wp2_with fail
            refine bodyPost_ret (v := .agg #[.int .i64 22, .int .i64 r2, .int .i64 0, .int .i64 0, .int .i64 fa, .int .i64 (1 + fb), .int .i64 0, .int .i64 0]) (by simp [results, Tryz.results70, go_sem, p0, p1, p2, p3, p4, p5, p6, p7]) rfl ⟨⟨22, r2, 0, 0, fa, 1 + fb, 0, 0⟩, rfl, ?_⟩
            exact D8.past (put8 U2 A (.int .i64 22) (.int .i64 r2) (.int .i64 0) (.int .i64 0) (.int .i64 fa) (.int .i64 (1 + fb)) (.int .i64 0) (.int .i64 0)) ⟨by have := HZ.out; omega, by have := HZ.out; omega⟩ hb
        · have hb9 : (r9 == 0) = false := by simpa using h9
          go_wp2_with fail
          refine bodyPost_ret (v := .agg #[.int .i64 15, .int .i64 r2, .int .i64 kb, .int .i64 0, .int .i64 0, .int .i64 0, .int .i64 0, .int .i64 0]) (by simp [results, Tryz.results70, go_sem, p0, p1, p2, p3, p4, p5, p6, p7]) rfl ⟨⟨15, r2, kb, 0, 0, 0, 0, 0⟩, rfl, ?_⟩
          exact (D9).past (put8 u9 A (.int .i64 15) (.int .i64 r2) (.int .i64 kb) (.int .i64 0) (.int .i64 0) (.int .i64 0) (.int .i64 0) (.int .i64 0)) ⟨by have := HZ.out; omega, by have := HZ.out; omega⟩ hb
      have hb15 : (K == 15) = false := by simp [h15]
      go_wp2_with fail
      refine bodyPost_ret (v := .agg #[.int .i64 K, .int .i64 r2, .int .i64 kb, .int .i64 0, .int .i64 0, .int .i64 0, .int .i64 0, .int .i64 0]) (by simp [results, Tryz.results70, go_sem, p0, p1, p2, p3, p4, p5, p6, p7]) rfl ⟨⟨K, r2, kb, 0, 0, 0, 0, 0⟩, rfl, ?_⟩
      exact (D8).past (put8 U A (.int .i64 K) (.int .i64 r2) (.int .i64 kb) (.int .i64 0) (.int .i64 0) (.int .i64 0) (.int .i64 0) (.int .i64 0)) ⟨by have := HZ.out; omega, by have := HZ.out; omega⟩ hb
end Go.Proofs.YthehhiccfnhinaaGreatDoor
/-
  The specification's copies.
-/
namespace Go.Proofs.YthehhiccfnhinaaGreatDoor
open Go.RowKit

theorem ownS_empty (w : World) : OwnS (w.alloc (.cells #[] 2)) w.heap.size (.slice (some ⟨w.heap.size, 0, none⟩) 0 0) [] :=
  ⟨w.heap.size, 0, rfl, ⟨by simp, .inr ⟨w.heap.size, 0, #[], rfl, Nat.le_refl _, heap_alloc_new w _, Nat.le_refl _, by unfold maxLen; omega, rfl, by simp⟩⟩, by simp, by simp⟩

set_option maxHeartbeats 400000 in
theorem l1Copy_any (ao : Option Addr) (n c : Nat) (xs : List Int) (w : World) (hn : xs.length = n) (hc : ao = none → c = 0) (h : Reads w ao xs) :
    Calls Tryz.prog 149 #[.slice ao n c] w fun e w' => ∃ v, e = .returned v ∧ OwnS w' w.heap.size v xs ∧ Fr w w' := by
  have ho := ownS_empty w
  have f0 := Fr.alloc w (.cells #[] 2)
  have hr := h.fr f0
  have hl := h.len
  go_enter Tryz.func149, Tryz.ntmps149
  go_wp2_with (at_builtin; refine appI2 _ rfl _ _ rfl w.heap.size _ [] xs rfl ho _ _ _ rfl hn hc hr (by simpa using hl) (by simp) ?_; intro v1 w1 hv1 hg1 hat1)
  go_wp2_with fail
  go_ret
  exact ⟨v1, rfl, hv1, f0.then hg1 (fun j hj => by cases hj; exact Nat.le_refl _)⟩
end Go.Proofs.YthehhiccfnhinaaGreatDoor
/-
  The specification's copy of a scene: its first statement.
-/
namespace Go.Proofs.YthehhiccfnhinaaGreatDoor
open Go.RowKit

/-- 'append' of a whole list to a new one that is empty. -/
theorem op_append_new {α : Type} (L : Lay α) {o : Oper} {a : Act} {w : World} {K : Act → World → Prop} {Q : Exit → Act → World → Prop} (s x : Operand) (T : TypeId) (z : Value) (bytes : Nat)
    (ho : o.op = .call { callee := .builtin .append, args := #[s, x], argTypes := #[T, T] })
    (hT : Tryz.prog.underlying T = some (.slice L.ty)) (hI : (Tryz.prog.info? L.ty).map (fun i => (i.zero, i.size, i.bytes)) = some (some z, L.sz, bytes)) (hzs : z.cells.size = L.sz) (hby : bytes ≤ 1000)
    (base k : Nat) (hk : base ≤ k) (hrow : w.heap[k]? = some (.cells #[] L.ty (0, 0))) (hs : a.eval s = .slice (some ⟨k, 0, none⟩) 0 0)
    (ao : Option Addr) (n c : Nat) (ys : List α) (hn : n = ys.length) (hx : a.eval x = .slice ao n c) (hr : ReadsG L w ao ys) (hbase : base ≤ w.heap.size)
    (h : ∀ v' w', OwnG L w' base v' ys → Fr w w' → K (a.put o.dst v') w') : o.wp Tryz.prog a w K Q := by
  obtain ⟨i0, hi, hz0, hz1, hz2⟩ := info_parts hI
  subst hn
  have hl := hr.len
  have hb : (0 + ys.length) * bytes ≤ 140737488355328 := by
    have := Nat.mul_le_mul (show 0 + ys.length ≤ 16777216 by omega) hby
    omega
  have hown : w.ownsRow base L.ty L.sz (.slice (some ⟨k, 0, none⟩) 0 0) 0 [] := ⟨by simp, .inr ⟨k, 0, #[], rfl, hk, hrow, Nat.le_refl _, by unfold maxLen; omega, by simp, by simp⟩⟩
  by_cases hys : ys = []
  · subst hys
    cases ao with
    | none =>
      have hrun : (Builtin.append_ #[T, T] o.type #[.slice (some ⟨k, 0, none⟩) 0 0, .slice none 0 c]).run Tryz.prog w = .ok (.slice (some ⟨k, 0, none⟩) 0 0) w := by
        simp [Builtin.append_, run_underlying hT, sizeOf, typeInfo, hi, Builtin.lenOf, Builtin.firstCells, storeCells]
      unfold Oper.wp
      simp only [List.length_nil] at hx
      simp [execOp, ho, resolve, invoke, builtin, hs, hx, hrun, Result.andThen]
      exact h _ _ ⟨k, 0, rfl, hown, by simp⟩ (Fr.refl _)
    | some ad =>
      have hrun := run_append_room_cells (P := Tryz.prog) w T o.type L.ty i0 hT hi k 0 0 0 ad 0 c [] (by simp) (by simp) (by simp) (Nat.le_refl _) (by simp) (by simp)
      have e0 : ∀ j, w.setCells k j [] = w := fun j => rfl
      unfold Oper.wp
      simp only [List.length_nil] at hx
      simp [execOp, ho, resolve, invoke, builtin, hs, hx, hrun, Result.andThen]
      rw [e0]
      exact h _ _ ⟨k, 0, rfl, hown, by simp⟩ (Fr.refl _)
  · have hpos : 0 < ys.length := List.length_pos_iff.2 hys
    obtain ⟨b, off, rfl, -⟩ := hr.at_ 0 hpos
    obtain ⟨v', w', hrun, r1, r2⟩ := run_append_arg_grows (P := Tryz.prog) w T o.type L.ty i0 z L.sz bytes hT hi hz0 hz1 hz2 hzs L.pos ⟨k, 0, none⟩ 0 0 [] (by simp) (by simp) ⟨b, off, none⟩ ys.length c (ys.flatMap L.cs) (flatG_len L _) (news_of_reads hr) (by omega) (by unfold maxLen; omega) hb
    have hK := h v' w' (by
      rw [Nat.zero_add, List.nil_append] at r1
      rcases r1.2 with ⟨_, e⟩ | ⟨g', cap', cur, e', hg, r⟩
      · omega
      · subst e'
        exact ⟨g', cap', rfl, ⟨r1.1, .inr ⟨g', cap', cur, rfl, by omega, r⟩⟩, hl⟩) r2
    unfold Oper.wp
    simp [execOp, ho, resolve, invoke, builtin, hs, hx, hrun, Result.andThen]
    exact hK
/-- 'append' of one element to a list that is nil or owned. -/
theorem appGN {α : Type} (L : Lay α) (w : World) {ops : Array Oper} {rest : List Oper} {o : Oper} {a : Act} {Q : Exit → Act → World → Prop} (hgd : o.guard = none) (s x : Operand) (T : TypeId) (z : Value) (bytes : Nat)
    (ho : o.op = .call { callee := .builtin .append, args := #[s, x], argTypes := #[T, T] })
    (hT : Tryz.prog.underlying T = some (.slice L.ty)) (hI : (Tryz.prog.info? L.ty).map (fun i => (i.zero, i.size, i.bytes)) = some (some z, L.sz, bytes)) (hzs : z.cells.size = L.sz) (hby : bytes ≤ 1000)
    (base : Nat) (v : Value) (xs : List α) (e : α) (hs : a.eval s = v) (hown : w.ownsRow base L.ty L.sz v xs.length (xs.flatMap L.cs))
    (b : Nat) (c : Nat) (hx : a.eval x = .slice (some ⟨b, 0, none⟩) 1 c) (hnew : ∀ k, k < L.sz → w.cell? ⟨b, k, none⟩ = (L.cs e)[k]?)
    (hlen : xs.length ≤ 16777215) (hbase : base ≤ w.heap.size)
    (h : ∀ g' cap' w', w'.ownsRow base L.ty L.sz (.slice (some ⟨g', 0, none⟩) (xs ++ [e]).length cap') (xs ++ [e]).length ((xs ++ [e]).flatMap L.cs) → w.grownBy w' v.ownBlock → (some g' = v.ownBlock ∨ g' = w.heap.size) → wpList Tryz.prog ops Q rest (a.put o.dst (.slice (some ⟨g', 0, none⟩) (xs ++ [e]).length cap')) w') : wpList Tryz.prog ops Q (o :: rest) a w := by
  obtain ⟨i0, hi, hz0, hz1, hz2⟩ := info_parts hI
  have hb : (xs.length + 1) * bytes ≤ 140737488355328 := by
    have := Nat.mul_le_mul (show xs.length + 1 ≤ 16777216 by omega) hby
    omega
  refine wpList_append_own_at w hgd s x T ho base L.ty i0 z L.sz bytes hT hi hz0 hz1 hz2 hzs L.pos _ _ _ hs hown ⟨b, 0, none⟩ 1 c (L.cs e) hx (by rw [L.len, Nat.one_mul]) ?_ (L.one e) (by unfold maxLen; omega) hb hbase ?_
  · intro j u hu
    rw [Addr.add_lit]
    have hj : j < L.sz := by
      have := (List.getElem?_eq_some_iff.1 hu).1
      rwa [L.len] at this
    rw [Nat.zero_add, hnew j hj, hu]
  · intro v' w' hv hg hnz hat
    rcases hv.2 with ⟨e', _⟩ | ⟨g', cap', cur, e', r⟩
    · have := (hnz.1 e').2
      simp at this
    · subst e'
      have hl : (xs ++ [e]).length = xs.length + 1 := by simp
      refine cast (by rw [hl]) (h g' cap' w' (by rw [hl]; simpa [List.flatMap_append] using hv) hg (by simpa [Value.ownBlock] using hat))
theorem newL3 {w : World} {b : Nat} {l : Lv} (h : w.heap[b]? = some (.cells #[.int .i64 l.o, .int .i64 l.wr, .slice l.ro l.rn l.rc] 82 (0, 0))) : ∀ k, k < layL.sz → w.cell? ⟨b, k, none⟩ = (layL.cs l)[k]? := by
  intro k hk
  rw [cell_of_row w b k _ _ _ h]
  exact List.getElem?_toArray
theorem rows_neC {w : World} {a b : Nat} {c d : Array Value} {s t : TypeId} (h : w.heap[a]? = some (.cells c s (0, 0))) (h' : w.heap[b]? = some (.cells d t (0, 0))) (hne : s ≠ t) : a ≠ b := by
  intro e
  subst e
  rw [h] at h'
  simp only [Option.some.injEq, Obj.cells.injEq] at h'
  exact hne h'.2.1
theorem own_frG {w w' : World} {base e size n : Nat} {v : Value} {xs : List Value} (h : w.ownsRow base e size v n xs) (f : Fr w w') : w'.ownsRow base e size v n xs := by
  refine h.kept f ?_
  cases hq : v.ownBlock with
  | none => exact .inl rfl
  | some j => exact .inr (by simp)
theorem own_readsN {α : Type} {L : Lay α} {w : World} {base c : Nat} {lo : Option Addr} {xs : List α} (h : w.ownsRow base L.ty L.sz (.slice lo xs.length c) xs.length (xs.flatMap L.cs)) (hl : xs.length ≤ 16777216) : ReadsG L w lo xs := by
  rcases h.2 with ⟨e, h0⟩ | ⟨g, cap, cur, e, r⟩
  · have : xs = [] := List.eq_nil_of_length_eq_zero h0
    subst this
    exact ReadsG.nil _ _ _
  · simp only [Value.slice.injEq] at e
    obtain ⟨rfl, -, -⟩ := e
    exact own_readsG h hl
theorem own_rowC {w : World} {base e size g n cap : Nat} {xs : List Value} (h : w.ownsRow base e size (.slice (some ⟨g, 0, none⟩) n cap) n xs) : ∃ cur, w.heap[g]? = some (.cells cur e (0, 0)) := by
  rcases h.2 with ⟨q, _⟩ | ⟨g', c', cur, q, _, hg, _⟩
  · simp at q
  · simp only [Value.slice.injEq, Option.some.injEq, Addr.mk.injEq, and_true] at q
    obtain ⟨rfl, -⟩ := q
    exact ⟨cur, hg⟩
end Go.Proofs.YthehhiccfnhinaaGreatDoor
