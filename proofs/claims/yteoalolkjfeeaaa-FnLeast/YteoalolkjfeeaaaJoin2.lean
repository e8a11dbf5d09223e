/-
  Chapter 1: the walks of JoinedClocks: the specification's by l1Join, the program's by its variadic joinOf; and that both come to the same list.
-/
import Derived.Test.YteoalolkjfeeaaaJoin
namespace Go.Proofs.Yteoalolkjfeeaaa
open Go.RowKit

/-- What JoinedClocks answers. -/
def jcL (xs ys : List Int) : List Int := if ckB xs = true ∧ ckB ys = true then tr (jl xs ys 16) else []

theorem jcL_yes {xs ys : List Int} (h : ckB xs = true) (h' : ckB ys = true) : jcL xs ys = tr (jl xs ys 16) := if_pos ⟨h, h'⟩
theorem jcL_n1 {xs ys : List Int} (h : ckB xs = false) : jcL xs ys = [] := if_neg (by simp [h])
theorem jcL_n2 {xs ys : List Int} (h : ckB ys = false) : jcL xs ys = [] := if_neg (by simp [h])

theorem joined_spec (ao bo : Option Addr) (n m c d : Nat) (xs ys : List Int) (w : World) (hn : xs.length = n) (hm : ys.length = m) (h : Reads w ao xs) (h' : Reads w bo ys) :
    Calls Try.prog 28 #[.slice ao n c, .slice bo m d] w fun e w' => ∃ v, e = .returned v ∧ OwnS w' w.heap.size v (jcL xs ys) ∧ Fr w w' := by
  subst hn hm
  cases hk : ckB xs
  · rw [jcL_n1 hk]
    go_enter Try.func28, Try.ntmps28
    go_wp2_with fail
    refine (clockOk_spec _ _ _ xs _ rfl h).mono ?_
    rintro e w1 ⟨rfl, rfl⟩
    go_wp2_with fail
    go_ret
    exact ⟨_, rfl, own_empty _ _ (Nat.le_refl _), Fr.alloc _ _⟩
  · cases hk' : ckB ys
    · rw [jcL_n2 hk']
      go_enter Try.func28, Try.ntmps28
      go_wp2_with fail
      refine (clockOk_spec _ _ _ xs _ rfl h).mono ?_
      rintro e w1 ⟨rfl, rfl⟩
      go_wp2_with fail
      refine (clockOk_spec _ _ _ ys _ rfl h').mono ?_
      rintro e w1 ⟨rfl, rfl⟩
      go_wp2_with fail
      go_ret
      exact ⟨_, rfl, own_empty _ _ (Nat.le_refl _), Fr.alloc _ _⟩
    · rw [jcL_yes hk hk']
      go_enter Try.func28, Try.ntmps28
      go_wp2_with fail
      refine (clockOk_spec _ _ _ xs _ rfl h).mono ?_
      rintro e w1 ⟨rfl, rfl⟩
      go_wp2_with fail
      refine (clockOk_spec _ _ _ ys _ rfl h').mono ?_
      rintro e w1 ⟨rfl, rfl⟩
      go_wp2_with fail
      refine (l1Join_any _ _ _ _ _ _ xs ys _ rfl rfl h h').mono ?_
      rintro e w2 ⟨v, rfl, ov, fv⟩
      go_wp2_with fail
      go_ret
      exact ⟨v, rfl, ov, fv⟩

/-- One list taken into another one, as joinOf does it: the greater one where both have a number, else the one that is there. -/
def jn (a b : List Int) : List Int := (List.range (max a.length b.length)).map fun i => if a.length ≤ i then b.getD i 0 else if b.length ≤ i then a.getD i 0 else max (a.getD i 0) (b.getD i 0)

theorem jn_length (a b : List Int) : (jn a b).length = max a.length b.length := by simp [jn]
theorem jn_at (a b : List Int) (i : Nat) (h : i < max a.length b.length) : (jn a b)[i]? = some (if a.length ≤ i then b.getD i 0 else if b.length ≤ i then a.getD i 0 else max (a.getD i 0) (b.getD i 0)) := by
  simp only [jn, List.getElem?_map, List.getElem?_range h, Option.map_some]
theorem jn_none (a b : List Int) (i : Nat) (h : max a.length b.length ≤ i) : (jn a b)[i]? = none := List.getElem?_eq_none (by rw [jn_length]; exact h)

theorem getD_take {c : List Int} {q i : Nat} (h : i < q) : (c.take q).getD i 0 = c.getD i 0 := by
  simp [List.getD, h]

theorem jn_app (a c : List Int) (q : Nat) (hq : q < c.length) (ha : a.length ≤ q) : jn a (c.take (q + 1)) = jn a (c.take q) ++ [c[q]] := by
  apply List.ext_getElem?
  intro i
  have l1 : (c.take (q + 1)).length = q + 1 := by simp; omega
  have l2 : (c.take q).length = q := by simp; omega
  have l3 : (jn a (c.take q)).length = q := by rw [jn_length, l2]; omega
  by_cases hi : i < q
  · rw [List.getElem?_append_left (by omega), jn_at _ _ _ (by omega), jn_at _ _ _ (by omega), l1, l2, getD_take (by omega), getD_take hi]
    by_cases h1 : a.length ≤ i
    · rw [if_pos h1, if_pos h1]
    · rw [if_neg h1, if_neg h1, if_neg (by omega), if_neg (by omega)]
  · by_cases e : i = q
    · subst e
      rw [jn_at _ _ _ (by omega), if_pos (by omega), getD_take (by omega), List.getElem?_append_right (by omega), l3, getD_at hq]
      simp
    · rw [jn_none _ _ _ (by omega), List.getElem?_eq_none (by simp; omega)]

theorem jn_set (a c : List Int) (q : Nat) (hq : q < c.length) (ha : q < a.length) : jn a (c.take (q + 1)) = (jn a (c.take q)).set q (max (a.getD q 0) c[q]) := by
  apply List.ext_getElem?
  intro i
  have l1 : (c.take (q + 1)).length = q + 1 := by simp; omega
  have l2 : (c.take q).length = q := by simp; omega
  have l3 : (jn a (c.take q)).length = a.length := by rw [jn_length, l2]; omega
  rw [List.getElem?_set]
  by_cases e : q = i
  · subst e
    rw [if_pos rfl, if_pos (by omega), jn_at _ _ _ (by omega), if_neg (by omega), if_neg (by omega), getD_take (by omega), getD_at hq]
  · rw [if_neg e]
    by_cases hi : i < a.length
    · rw [jn_at _ _ _ (by omega), jn_at _ _ _ (by omega)]
      simp only [if_neg (show ¬ a.length ≤ i by omega), l1, l2]
      by_cases h1 : i < q
      · rw [if_neg (by omega), if_neg (by omega), getD_take (by omega), getD_take h1]
      · rw [if_pos (by omega), if_pos (by omega)]
    · rw [jn_none _ _ _ (by omega), jn_none _ _ _ (by omega)]

theorem jn_at_old (a c : List Int) (q : Nat) (hq : q < c.length) (ha : q < a.length) : (jn a (c.take q))[q]? = some (a.getD q 0) := by
  have l2 : (c.take q).length = q := by simp; omega
  rw [jn_at _ _ _ (by omega), if_neg (by omega), if_pos (by omega)]

theorem jn_zero (a c : List Int) : jn a (c.take 0) = a := by
  apply List.ext_getElem?
  intro i
  by_cases hi : i < a.length
  · rw [jn_at _ _ _ (by simp; omega), if_neg (by omega), if_pos (by simp), getD_at hi, List.getElem?_eq_getElem hi]
  · rw [jn_none _ _ _ (by simp; omega), List.getElem?_eq_none (by omega)]

theorem jn_left (c : List Int) : jn [] c = c := by
  apply List.ext_getElem?
  intro i
  by_cases hi : i < c.length
  · rw [jn_at _ _ _ (by simp; omega), if_pos (by simp), getD_at hi, List.getElem?_eq_getElem hi]
  · rw [jn_none _ _ _ (by simp; omega), List.getElem?_eq_none (by omega)]

theorem jn_bd {a c : List Int} (ha : ∀ x ∈ a, I64 x) (hc : ∀ x ∈ c, I64 x) : ∀ x ∈ jn a c, I64 x := by
  have key : ∀ (l : List Int), (∀ x ∈ l, I64 x) → ∀ i, I64 (l.getD i 0) := by
    intro l hl i
    by_cases hi : i < l.length
    · rw [getD_at hi]; exact hl _ (List.getElem_mem hi)
    · rw [getD_past (by omega)]; exact ⟨by decide, by decide⟩
  intro x hx
  simp only [jn, List.mem_map] at hx
  obtain ⟨i, _, rfl⟩ := hx
  split
  · exact key c hc i
  · split
    · exact key a ha i
    · exact (key a ha i).max (key c hc i)

/-- What a list of lists in memory is: each a slice that reads as its numbers. -/
structure ReadsSS (w : World) (gc : Nat) (L : List (Option Addr × Nat × List Int)) : Prop where
  cell : ∀ j (h : j < L.length), w.cell? ⟨gc, j, none⟩ = some (.slice L[j].1 L[j].2.2.length L[j].2.1)
  reads : ∀ j (h : j < L.length), Reads w L[j].1 L[j].2.2

/-- The first k of them joined. -/
def jnAll (L : List (Option Addr × Nat × List Int)) (k : Nat) : List Int := (L.take k).foldl (fun a c => jn a c.2.2) []

theorem jnAll_succ (L : List (Option Addr × Nat × List Int)) (k : Nat) (h : k < L.length) : jnAll L (k + 1) = jn (jnAll L k) L[k].2.2 := by
  simp only [jnAll, List.take_succ_eq_append_getElem h, List.foldl_append, List.foldl_cons, List.foldl_nil]

set_option maxHeartbeats 1000000 in
theorem joinOf_any (gc n cap : Nat) (L : List (Option Addr × Nat × List Int)) (w : World) (hn : L.length = n) (hnn : n ≤ 1000) (h : ReadsSS w gc L) :
    Calls Try.prog 37 #[.slice (some ⟨gc, 0, none⟩) n cap] w fun e w' => ∃ v, e = .returned v ∧ OwnS w' w.heap.size v (jnAll L L.length) ∧ Fr w w' := by
  subst hn
  go_enter Try.func37, Try.ntmps37
  go_wp2_with fail
  go_loopw [3, 11] (fun v i wr => ∃ k : Nat, k ≤ L.length ∧ i = .int .i64 k ∧ OwnS wr w.heap.size v (jnAll L k) ∧ Fr w wr) (fun _ i _ => L.length - (intOf i).toNat)
  case atStart => exact ⟨0, by omega, rfl, own_empty w _ (Nat.le_refl _), Fr.alloc _ _⟩
  case round =>
    rename_i v _
    obtain ⟨k, hk, rfl, ho, hf⟩ := hrel
    by_cases hlt : k < L.length
    · have hcell := hf.cell (h.cell k hlt)
      have hrd := h.reads k hlt
      have hs := jnAll_succ L k hlt
      obtain ⟨acc, hacc⟩ : ∃ acc, acc = jnAll L k := ⟨_, rfl⟩
      obtain ⟨⟨ao, cp, c⟩, hc⟩ : ∃ x, x = L[k] := ⟨_, rfl⟩
      rw [← hc] at hcell hrd hs
      rw [← hacc] at hs ho
      have HS : Hid (jnAll L (k + 1) = jn acc c) := hs
      clear hc hacc hs
      simp only at hcell hrd
      have hcl := hrd.len
      go_wp2_with fail
      go_loopw [3, 17] (fun v i wr => ∃ q : Nat, q ≤ c.length ∧ i = .int .i64 q ∧ OwnS wr w.heap.size v (jn acc (c.take q)) ∧ Fr w wr) (fun _ i _ => c.length - (intOf i).toNat)
      case atStart => exact ⟨0, by omega, rfl, by rw [jn_zero]; exact ho, hf⟩
      case round =>
        obtain ⟨q, hq, rfl, ho2, hf2⟩ := hrel
        have hs2 := hf2.size
        have hol := ho2.len
        have hjl := jn_length acc (c.take q)
        have htl : (c.take q).length = q := by simp; omega
        rw [htl] at hjl
        by_cases hql : q < c.length
        · obtain ⟨b, off, rfl, hcc⟩ := hrd.at_ q hql
          have hck := hf2.cell (hcc q hql)
          rw [getD_at hql] at hck
          have hbd := hrd.bd _ (List.getElem_mem hql)
          obtain ⟨z, hz⟩ : ∃ z, z = c[q] := ⟨_, rfl⟩
          obtain ⟨g, cap2, rfl, hoo⟩ := ho2
          by_cases ha : acc.length ≤ q
          · have ja := jn_app acc c q hql ha
            rw [← hz] at hck ja hbd
            have HJ : Hid (jn acc (c.take (q + 1)) = jn acc (c.take q) ++ [z]) := ja
            have hnn : (jn acc (c.take q)).length = q := by omega
            have hm := reads_one wr z hbd
            have hown : OwnS wr w.heap.size (.slice (some ⟨g, 0, none⟩) (jn acc (c.take q)).length cap2) (jn acc (c.take q)) := ⟨g, cap2, rfl, hoo⟩
            obtain ⟨J, hJ⟩ : ∃ J, J = jn acc (c.take q) := ⟨_, rfl⟩
            rw [← hJ] at hown hnn hol
            simp only [← hJ]
            have HJ2 : Hid (jn acc (c.take (q + 1)) = J ++ [z]) := by rw [hJ]; exact HJ
            clear ja HJ hz hJ hcc hoo hjl htl
            rw [hnn] at hown
            simp only [hnn]
            have hb : ((q : Int) == (q : Int)) = true := beq_self_eq_true _
            go_wp2_with (at_builtin; refine appI _ rfl _ _ rfl w.heap.size _ J [z] rfl (hown.fr (Fr.alloc _ _)) _ _ _ rfl rfl (by simp) hm (by simp; omega) (by simp; omega) ?_; intro v1 w4 hv1 hg1)
            go_roundw
            case rel => exact ⟨q + 1, by omega, by go_num, by rw [HJ2.out]; exact hv1, (hf2.trans (Fr.alloc _ _)).then hg1 hown.blk⟩
            case measure => simp [intOf]; omega
          · have ja := jn_set acc c q hql (by omega)
            have jo := jn_at_old acc c q hql (by omega)
            rw [← hz] at hck ja hbd
            have hq1 : q < (jn acc (c.take q)).length := by omega
            obtain ⟨J, hJ⟩ : ∃ J, J = jn acc (c.take q) := ⟨_, rfl⟩
            rw [← hJ] at hoo ja jo hq1 hol
            simp only [← hJ]
            obtain ⟨y, hy⟩ : ∃ y, y = acc.getD q 0 := ⟨_, rfl⟩
            rw [← hy] at ja jo
            have HJ : Hid (jn acc (c.take (q + 1)) = J.set q (max y z)) := ja
            have hby : I64 y := hoo.2.2 y (List.mem_of_getElem? jo)
            have hbm := hby.max hbd
            have hce := hoo.1.cellAt q (by omega)
            rw [List.getElem?_map, jo] at hce
            simp only [Option.map_some] at hce
            have hfz := hoo.1.frozenAt q
            have hst := hoo.1.stored q (.int .i64 (max y z))
            have hJl : q < J.length := hq1
            have hb : ((q : Int) == (J.length : Int)) = false := beq_eq_false_iff_ne.2 (by omega)
            clear ja jo hz hJ hcc hjl htl hy
            go_wp2_with fail
            go_roundw
            case rel =>
              have em : (if y < z then z else y) = max y z := by split <;> omega
              rw [em]
              refine ⟨q + 1, by omega, by go_num, ?_, hf2.then hst.2 (by intro j hj; simp only [Option.some.injEq] at hj; subst hj; exact (hoo.1.lt _ rfl).1)⟩
              rw [HJ.out]
              refine ⟨g, cap2, by simp, ?_, by simpa using hol, fun x hx => ?_⟩
              · have e : (J.set q (max y z)).map (Value.int .i64) = (J.map (Value.int .i64)).set q (.int .i64 (max y z)) := by rw [List.map_set]
                rw [e, List.length_set]
                exact hst.1
              · rcases List.mem_or_eq_of_mem_set hx with hx | rfl
                · exact hoo.2.2 x hx
                · exact hbm
            case measure => simp [intOf]; omega
        · have e : q = c.length := by omega
          subst e
          rw [List.take_length, ← HS.out] at ho2
          go_wp2_with fail
          go_roundw
          case rel => exact ⟨k + 1, by omega, by go_num, ho2, hf2⟩
          case measure => simp [intOf]; omega
    · have e : k = L.length := by omega
      subst e
      go_wp2_with fail
      go_ret
      exact ⟨_, rfl, ho, hf⟩

/-! The two ways of joining come to the same list. -/
theorem tr_zeros (l : List Int) (m : Nat) : tr (l ++ List.replicate m 0) = tr l := by
  induction m with
  | zero => simp
  | succ m ih => rw [List.replicate_succ', ← List.append_assoc, tr_zero, ih]

theorem tr_self (l : List Int) (h : l.length = 0 ∨ l.getD (l.length - 1) 0 ≠ 0) : tr l = l := by
  by_cases h0 : l = []
  · subst h0; rfl
  · have e : l = l.dropLast ++ [l.getLast h0] := (List.dropLast_concat_getLast h0).symm
    have hp : 0 < l.length := List.length_pos_iff.2 h0
    have hl : l.getLast h0 ≠ 0 := by
      rcases h with h | h
      · omega
      · rwa [getD_at (by omega), ← List.getLast_eq_getElem h0] at h
    rw [e]
    exact tr_more _ _ hl

theorem jn_clocks (xs ys : List Int) (hx : ckB xs = true) (hy : ckB ys = true) : tr (jl xs ys 16) = jn xs ys := by
  have h1 := ckB_true hx
  have h2 := ckB_true hy
  have hl : (jn xs ys).length ≤ 16 := by rw [jn_length]; omega
  have hat : ∀ i, i < max xs.length ys.length → (jn xs ys)[i]? = some (max (xs.getD i 0) (ys.getD i 0)) := by
    intro i hi
    rw [jn_at _ _ _ hi]
    have n1 := (getD_nonneg hx i).1
    have n2 := (getD_nonneg hy i).1
    by_cases e1 : xs.length ≤ i
    · rw [if_pos e1, getD_past e1]; congr 1; omega
    · rw [if_neg e1]
      by_cases e2 : ys.length ≤ i
      · rw [if_pos e2, getD_past e2]; congr 1; omega
      · rw [if_neg e2]
  have e : jl xs ys 16 = jn xs ys ++ List.replicate (16 - (jn xs ys).length) 0 := by
    apply List.ext_getElem?
    intro i
    by_cases hi : i < (jn xs ys).length
    · rw [List.getElem?_append_left hi, hat i (by rwa [jn_length] at hi), jl, List.getElem?_map, List.getElem?_range (by omega)]
      rfl
    · rw [List.getElem?_append_right (by omega), List.getElem?_replicate, jl, List.getElem?_map]
      rw [jn_length] at hi
      by_cases h16 : i < 16
      · rw [List.getElem?_range h16, if_pos (by rw [jn_length]; omega), Option.map_some, getD_past (by omega), getD_past (by omega)]
        rfl
      · rw [List.getElem?_eq_none (by simp; omega), if_neg (by rw [jn_length] at hl ⊢; omega)]
        rfl
  rw [e, tr_zeros, tr_self]
  by_cases h0 : (jn xs ys).length = 0
  · exact .inl h0
  · right
    have hlast := hat ((jn xs ys).length - 1) (by rw [jn_length] at h0 ⊢; omega)
    rw [List.getD_eq_getElem?_getD, hlast, Option.getD_some, jn_length]
    have n1 := (getD_nonneg hx (max xs.length ys.length - 1)).1
    have n2 := (getD_nonneg hy (max xs.length ys.length - 1)).1
    rw [jn_length] at h0
    by_cases hc : ys.length ≤ xs.length
    · have := h1.2.2 (by omega)
      rw [Nat.max_eq_left hc] at n1 n2 ⊢
      omega
    · have := h2.2.2 (by omega)
      rw [Nat.max_eq_right (by omega)] at n1 n2 ⊢
      omega

theorem readsSS_two {w : World} {ao bo : Option Addr} {c d : Nat} {xs ys : List Int} (h : Reads w ao xs) (h' : Reads w bo ys) :
    ReadsSS (w.alloc (.cells #[.slice ao xs.length c, .slice bo ys.length d] 24)) w.heap.size [(ao, c, xs), (bo, d, ys)] := by
  refine ⟨fun j hj => ?_, fun j hj => ?_⟩
  · rw [cell_of_row _ _ _ _ _ _ (heap_alloc_new w _)]
    match j, hj with
    | 0, _ => rfl
    | 1, _ => rfl
  · match j, hj with
    | 0, _ => exact h.fr (Fr.alloc _ _)
    | 1, _ => exact h'.fr (Fr.alloc _ _)

theorem readsSS_one {w : World} {ao : Option Addr} {c : Nat} {xs : List Int} (h : Reads w ao xs) :
    ReadsSS (w.alloc (.cells #[.slice ao xs.length c] 24)) w.heap.size [(ao, c, xs)] := by
  refine ⟨fun j hj => ?_, fun j hj => ?_⟩
  · rw [cell_of_row _ _ _ _ _ _ (heap_alloc_new w _)]
    match j, hj with
    | 0, _ => rfl
  · match j, hj with
    | 0, _ => exact h.fr (Fr.alloc _ _)

theorem joined_impl (ao bo : Option Addr) (n m c d : Nat) (xs ys : List Int) (w : World) (hn : xs.length = n) (hm : ys.length = m) (h : Reads w ao xs) (h' : Reads w bo ys) :
    Calls Try.prog 15 #[.slice ao n c, .slice bo m d] w fun e w' => ∃ v, e = .returned v ∧ OwnS w' w.heap.size v (jcL xs ys) ∧ Fr w w' := by
  subst hn hm
  cases hk : ckB xs
  · rw [jcL_n1 hk]
    go_enter Try.func15, Try.ntmps15
    go_wp2_with fail
    refine (clockOk_impl _ _ _ xs _ rfl h).mono ?_
    rintro e w1 ⟨rfl, rfl⟩
    go_wp2_with fail
    go_ret
    exact ⟨_, rfl, own_empty _ _ (Nat.le_refl _), Fr.alloc _ _⟩
  · cases hk' : ckB ys
    · rw [jcL_n2 hk']
      go_enter Try.func15, Try.ntmps15
      go_wp2_with fail
      refine (clockOk_impl _ _ _ xs _ rfl h).mono ?_
      rintro e w1 ⟨rfl, rfl⟩
      go_wp2_with fail
      refine (clockOk_impl _ _ _ ys _ rfl h').mono ?_
      rintro e w1 ⟨rfl, rfl⟩
      go_wp2_with fail
      go_ret
      exact ⟨_, rfl, own_empty _ _ (Nat.le_refl _), Fr.alloc _ _⟩
    · have e : jcL xs ys = jnAll [(ao, c, xs), (bo, d, ys)] 2 := by
        rw [jcL_yes hk hk', jn_clocks xs ys hk hk']
        simp [jnAll, jn_left]
      rw [e]
      clear e
      go_enter Try.func15, Try.ntmps15
      go_wp2_with fail
      refine (clockOk_impl _ _ _ xs _ rfl h).mono ?_
      rintro e w1 ⟨rfl, rfl⟩
      go_wp2_with fail
      refine (clockOk_impl _ _ _ ys _ rfl h').mono ?_
      rintro e w2 ⟨rfl, rfl⟩
      go_wp2_with fail
      refine (joinOf_any _ _ _ [(ao, c, xs), (bo, d, ys)] _ rfl (by simp) (readsSS_two h h')).mono ?_
      rintro e w3 ⟨v, rfl, ov, fv⟩
      go_wp2_with fail
      go_ret
      exact ⟨v, rfl, ov.lower (by simp), (Fr.alloc _ _).trans fv⟩

/-- The function number f joins xs and ys to J, in new memory. -/
def JoinC (f : Nat) (xs ys J : List Int) : Prop := ∀ (ao bo : Option Addr) (n m c d : Nat) (w : World), xs.length = n → ys.length = m → Reads w ao xs → Reads w bo ys →
    Calls Try.prog f #[.slice ao n c, .slice bo m d] w fun e w' => ∃ v, e = .returned v ∧ OwnS w' w.heap.size v J ∧ Fr w w'
theorem joined_both (xs ys : List Int) : ∃ J, JoinC 28 xs ys J ∧ JoinC 15 xs ys J :=
  ⟨jcL xs ys, fun ao bo n m c d w hn hm h h' => joined_spec ao bo n m c d xs ys w hn hm h h', fun ao bo n m c d w hn hm h h' => joined_impl ao bo n m c d xs ys w hn hm h h'⟩
end Go.Proofs.Yteoalolkjfeeaaa
