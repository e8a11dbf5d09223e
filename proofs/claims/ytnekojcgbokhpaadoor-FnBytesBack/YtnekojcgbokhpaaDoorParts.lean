/-
  The program's list of an event's parts: pointers to its fields.
-/
import Derived.Test.YtnekojcgbokhpaaDoorEvs
import Derived.Test.YtnekojcgbokhpaaDoorEvOk
import Derived.Test.YtnekojcgbokhpaaDoorEvTo
import Derived.Maps.AppendAt
import Derived.BigRegion
namespace Go.Proofs.YtnekojcgbokhpaaDoor
open Go.RowKit

theorem Tryd.info107 : (Tryd.prog.info? 107).map (fun i => (i.zero, i.size, i.bytes)) = some (some (.pointer none), 1, 8) := by kernel_rfl

/-- Pointers to the places os of the block b. -/
def ptrs (b : Nat) (os : List Nat) : List Value := os.map fun o => .pointer (some ⟨b, o, none⟩)

/-- A slice of pointers that a call owns. -/
def OwnP (w : World) (base : Nat) (v : Value) (xs : List Value) : Prop :=
  ∃ g cap, v = .slice (some ⟨g, 0, none⟩) xs.length cap ∧ w.ownsRow base 107 1 (.slice (some ⟨g, 0, none⟩) xs.length cap) xs.length xs
theorem OwnP.fr {w w' : World} {base : Nat} {v : Value} {xs : List Value} (h : OwnP w base v xs) (k : Fr w w') : OwnP w' base v xs := by
  obtain ⟨g, cap, rfl, ho⟩ := h
  exact ⟨g, cap, rfl, ho.kept k (by simp [Value.ownBlock])⟩
theorem OwnP.blk {w : World} {base : Nat} {v : Value} {xs : List Value} (h : OwnP w base v xs) : ∀ j, v.ownBlock = some j → base ≤ j ∧ j < w.heap.size := by
  obtain ⟨g, cap, rfl, ho⟩ := h
  intro j hj
  exact ho.lt j hj

theorem appP (w : World) {ops : Array Oper} {rest : List Oper} {o : Oper} {a : Act} {Q : Exit → Act → World → Prop} (hgd : o.guard = none) (s x : Operand)
    (ho : o.op = .call { callee := .builtin .append, args := #[s, x], argTypes := #[104, 104] })
    (base : Nat) (v : Value) (xs : List Value) (p : Option Addr) (hs : a.eval s = v) (hown : OwnP w base v xs)
    (b : Nat) (c : Nat) (hx : a.eval x = .slice (some ⟨b, 0, none⟩) 1 c) (hnew : w.cell? ⟨b, 0, none⟩ = some (.pointer p))
    (hlen : xs.length ≤ 4294967295) (hbase : base ≤ w.heap.size)
    (h : ∀ v' w', OwnP w' base v' (xs ++ [.pointer p]) → w.grownBy w' v.ownBlock → (v'.ownBlock = v.ownBlock ∨ v'.ownBlock = some w.heap.size) → wpList Tryd.prog ops Q rest (a.put o.dst v') w') : wpList Tryd.prog ops Q (o :: rest) a w := by
  obtain ⟨i0, hi, hz0, hz1, hz2⟩ := info_parts Tryd.info107
  obtain ⟨g, cap, rfl, ho'⟩ := hown
  refine wpList_append_own_at w hgd s x 104 ho base 107 i0 (.pointer none) 1 8 Tryd.underlying104 hi hz0 hz1 hz2 rfl (by decide) _ _ _ hs ho' ⟨b, 0, none⟩ 1 c [.pointer p] hx (by simp) ?_ (by intro u hu; simp at hu; subst hu; rfl) (by unfold maxLen; omega) (by omega) hbase ?_
  · intro j u hu
    cases j with
    | zero => simp at hu; subst hu; rw [Addr.add_lit]; exact hnew
    | succ j => simp at hu
  · intro v' w' hv hg hnz hat
    refine h v' w' ?_ hg hat
    rcases hv.2 with ⟨e, _⟩ | ⟨g', cap', cur, e, r⟩
    · have := (hnz.1 e).1
      simp at this
    · subst e
      exact ⟨g', cap', by simp, by simpa using hv⟩

/-- The places of the first i fields that a Kind has, behind Gor's. -/
def offK (k : Int) (i : Nat) : List Nat := 1 :: ((List.range i).filter fun j => hasB k (2 ^ j)).map (· + 2)
theorem offK_yes (k : Int) (i : Nat) (h : hasB k (2 ^ i) = true) : offK k (i + 1) = offK k i ++ [i + 2] := by
  simp [offK, List.range_succ, List.filter_append, h]
theorem offK_no (k : Int) (i : Nat) (h : hasB k (2 ^ i) = false) : offK k (i + 1) = offK k i := by
  simp [offK, List.range_succ, List.filter_append, h]
theorem offK_len (k : Int) (i : Nat) : (offK k i).length ≤ i + 1 := by
  have := List.length_filter_le (fun j => hasB k (2 ^ j)) (List.range i)
  simp [offK] at this ⊢
  omega
theorem offK_all (k : Int) : offK k 6 = offs k := by
  rw [offK, offs, offF, List.range_eq_range']
/-- The program asks by a shift. -/
theorem shift_has (n : Nat) (h : n < 22) (k : Nat) (hk : k < 6) : (bits .and .i64 (fldN n / 2 ^ k) 1 == 1) = hasB ((n : Int) + 1) (2 ^ k) := by
  rw [hasB, fldV_at n h]
  exact (by decide +kernel : ∀ m, m < 22 → ∀ k, k < 6 → (bits .and .i64 (fldN m / 2 ^ k) 1 == 1) = (((fldN m).tdiv (2 ^ k)).tmod 2 == 1)) n h k hk
theorem ptrs_one (b : Nat) (l : List Nat) (o : Nat) : ptrs b (l ++ [o]) = ptrs b l ++ [.pointer (some ⟨b, o, none⟩)] := by simp [ptrs]
theorem six_at (w : World) (b j : Nat) (h : j < 6) : (w.alloc (.cells #[.pointer (some ⟨b, 2, none⟩), .pointer (some ⟨b, 3, none⟩), .pointer (some ⟨b, 4, none⟩), .pointer (some ⟨b, 5, none⟩), .pointer (some ⟨b, 6, none⟩), .pointer (some ⟨b, 7, none⟩)] 107)).cell? ⟨w.heap.size, j, none⟩ = some (.pointer (some ⟨b, j + 2, none⟩)) := by
  rw [cell_of_row _ _ _ _ _ _ (heap_alloc_new w _)]
  rcases (by omega : j = 0 ∨ j = 1 ∨ j = 2 ∨ j = 3 ∨ j = 4 ∨ j = 5) with rfl | rfl | rfl | rfl | rfl | rfl <;> rfl
theorem ownP_one (w : World) (p : Option Addr) : OwnP (w.alloc (.cells #[.pointer p] 107)) w.heap.size (.slice (some ⟨w.heap.size, 0, none⟩) 1 1) [.pointer p] :=
  ⟨w.heap.size, 1, rfl, ⟨by simp, .inr ⟨w.heap.size, 1, _, rfl, Nat.le_refl _, heap_alloc_new w _, Nat.le_refl _, by unfold maxLen; omega, by simp, by simp⟩⟩⟩

set_option maxHeartbeats 2000000 in
theorem partsOf_any (b : Nat) (n : Nat) (hn : n < 22) (w : World) (hs : Shapes w) (hk : w.cell? ⟨b, 0, none⟩ = some (.int .i64 ((n : Int) + 1))) :
    Calls Tryd.prog 65 #[.pointer (some ⟨b, 0, none⟩)] w fun x w' => ∃ v, x = .returned v ∧ OwnP w' w.heap.size v (ptrs b (offs ((n : Int) + 1))) ∧ Fr w w' := by
  have cF := fun w hs => implFields_any ((n : Int) + 1) w hs
  rw [fldV_at n hn] at cF
  obtain ⟨z, hz⟩ : ∃ z, z = fldN n := ⟨_, rfl⟩
  simp only [← hz] at cF
  have HZ : Hid (z = fldN n) := hz
  have hzr : 0 ≤ z ∧ z ≤ 60 := by rw [hz]; exact fldN_in n
  clear hz
  obtain ⟨z0, z1⟩ := hzr
  have f1 := Fr.alloc w (.cells #[.pointer (some ⟨b, 1, none⟩)] 107)
  have hk1 := f1.cell hk
  go_enter Tryd.func65, Tryd.ntmps65
  go_wp2_with fail
  refine (cF _ (hs.fr f1)).mono ?_
  rintro e w1 ⟨rfl, rfl⟩
  go_wp2_with fail
  go_region
  all_goals (try go_wp2_with fail)
  have es : (w.alloc (.cells #[.pointer (some ⟨b, 1, none⟩)] 107)).heap.size = w.heap.size + 1 := by simp
  have h6 := six_at (w.alloc (.cells #[.pointer (some ⟨b, 1, none⟩)] 107)) b
  rw [es] at h6
  have fA := (Fr.alloc (w.alloc (.cells #[.pointer (some ⟨b, 1, none⟩)] 107)) (.cells #[.pointer (some ⟨b, 2, none⟩), .pointer (some ⟨b, 3, none⟩), .pointer (some ⟨b, 4, none⟩), .pointer (some ⟨b, 5, none⟩), .pointer (some ⟨b, 6, none⟩), .pointer (some ⟨b, 7, none⟩)] 107)).trans (Fr.drew _)
  have hP := (ownP_one w (some ⟨b, 1, none⟩)).fr fA
  go_loopw [3, 36] (fun u i wr => ∃ k : Nat, k ≤ 6 ∧ i = .int .i64 k ∧ OwnP wr w.heap.size u (ptrs b (offK ((n : Int) + 1) k)) ∧ u.ownBlock ≠ some (w.heap.size + 1) ∧ (∀ j, j < 6 → wr.cell? ⟨w.heap.size + 1, j, none⟩ = some (.pointer (some ⟨b, j + 2, none⟩))) ∧ w.heap.size + 1 < wr.heap.size ∧ Fr w wr) (fun _ i _ => 6 - (intOf i).toNat)
  case atStart => exact ⟨0, by omega, rfl, hP, by simp [Value.ownBlock], h6, by simp, f1.trans fA⟩
  case round =>
    obtain ⟨k, hk6, rfl, ho, hne, hc, hsz, hf⟩ := hrel
    clear hP h6 fA es hk1
    by_cases hlt : k < 6
    · have hck := hc k hlt
      have hm : (wr.alloc (.cells #[.pointer (some ⟨b, k + 2, none⟩)] 107)).cell? ⟨wr.heap.size, 0, none⟩ = some (.pointer (some ⟨b, k + 2, none⟩)) := by simp
      have hle : (ptrs b (offK ((n : Int) + 1) k)).length ≤ 4294967295 := by have := offK_len ((n : Int) + 1) k; simp [ptrs]; omega
      have hs0 := hf.size
      go_wp2_with (at_builtin; refine appP _ rfl _ _ rfl w.heap.size _ _ (some ⟨b, k + 2, none⟩) rfl (ho.fr (Fr.alloc _ _)) _ _ rfl hm hle (by simp; omega) ?_; intro v1 w4 hv1 hg1 hat)
      · have hq : (bits .and .i64 (z / 2 ^ k) 1 == 1) = true := by assumption
        rw [HZ.out, shift_has n hn k hlt] at hq
        have fa := Fr.alloc wr (.cells #[.pointer (some ⟨b, k + 2, none⟩)] 107)
        have hbk := ho.blk
        refine ⟨⟨k + 1, by omega, by go_num, by rw [offK_yes _ k hq, ptrs_one]; exact hv1, ?_, fun j hj => hg1.cell (fa.cell (hc j hj)) (fun q => hne q.symm), by have := hg1.size; simp at this; omega, (hf.trans fa).then hg1 (fun j hj => (hbk j hj).1)⟩, ?_⟩
        · rcases hat with hat | hat
          · rw [hat]; exact hne
          · rw [hat]; simp; omega
        · simp only [intOf]; omega
      · have hq : (bits .and .i64 (z / 2 ^ k) 1 == 1) = false := by assumption
        rw [HZ.out, shift_has n hn k hlt] at hq
        refine ⟨⟨k + 1, by omega, by go_num, by rw [offK_no _ k hq]; exact ho, hne, hc, hsz, hf⟩, ?_⟩
        simp only [intOf]; omega
    · have e6 : k = 6 := by omega
      rw [e6, offK_all] at ho
      clear e6
      go_wp2_with fail
      go_ret
      exact ⟨_, rfl, ho, hf⟩
end Go.Proofs.YtnekojcgbokhpaaDoor
