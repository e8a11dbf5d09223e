/-
  Chapter 1: the walks of Ticked, of the program and of its specification.
-/
import Derived.Test.YteoalolkjfeeaaaJoin2
namespace Go.Proofs.Yteoalolkjfeeaaa
open Go.RowKit

/-- How long a slice is, for a loop's measure. -/
def lenOfV : Value → Nat | .slice _ n _ => n | _ => 0

/-- With noughts behind, so that there is a place k. -/
def pad (xs : List Int) (k : Nat) : List Int := xs ++ List.replicate (k + 1 - xs.length) 0

theorem pad_length (xs : List Int) (k : Nat) : (pad xs k).length = max xs.length (k + 1) := by simp [pad]; omega
theorem pad_at (xs : List Int) (k : Nat) : (pad xs k)[k]? = some (xs.getD k 0) := by
  by_cases h : k < xs.length
  · rw [pad, List.getElem?_append_left h, getD_at h, List.getElem?_eq_getElem h]
  · rw [pad, List.getElem?_append_right (by omega), List.getElem?_replicate, if_pos (by omega), getD_past (by omega)]

theorem OwnS.stored {w : World} {base g cap : Nat} {xs : List Int} (h : OwnI w base (.slice (some ⟨g, 0, none⟩) xs.length cap) xs) (j : Nat) (n : Int) (hn : I64 n) :
    OwnI (w.setCell ⟨g, j, none⟩ (.int .i64 n)) base (.slice (some ⟨g, 0, none⟩) (xs.set j n).length cap) (xs.set j n) ∧ w.grownBy (w.setCell ⟨g, j, none⟩ (.int .i64 n)) (some g) := by
  have hst := h.1.stored j (.int .i64 n)
  refine ⟨⟨?_, by simpa using h.2.1, fun x hx => ?_⟩, hst.2⟩
  · have e : (xs.set j n).map (Value.int .i64) = (xs.map (Value.int .i64)).set j (.int .i64 n) := by rw [List.map_set]
    rw [e, List.length_set]
    exact hst.1
  · rcases List.mem_or_eq_of_mem_set hx with hx | rfl
    · exact h.2.2 x hx
    · exact hn

theorem own_row_blk {w : World} {base g cap : Nat} {xs : List Int} (h : OwnI w base (.slice (some ⟨g, 0, none⟩) xs.length cap) xs) : ∀ j, some g = some j → base ≤ j := by
  intro j hj
  simp only [Option.some.injEq] at hj
  subst hj
  exact (h.1.lt _ rfl).1

set_option maxHeartbeats 400000 in
theorem l1Put_any (ao : Option Addr) (n cap k : Nat) (xs : List Int) (z : Int) (w : World) (hn : xs.length = n) (hc : ao = none → cap = 0) (hk : k ≤ 1000000) (hz : I64 z) (hl : n ≤ 1000000) (h : Reads w ao xs) :
    Calls Try.prog 47 #[.slice ao n cap, .int .i64 k, .int .i64 z] w fun e w' => ∃ v, e = .returned v ∧ OwnS w' w.heap.size v (tr ((pad xs k).set k z)) ∧ Fr w w' := by
  subst hn
  have hd := h.fr (Fr.alloc w (.cells #[] 2))
  go_enter Try.func47, Try.ntmps47
  go_wp2_with (at_builtin; refine appI _ rfl _ _ rfl w.heap.size _ [] xs rfl (own_empty w _ (Nat.le_refl _)) _ _ _ rfl rfl hc hd (by simp; omega) (by simp) ?_; intro v1 w1 hv1 hg1)
  have hf1 : Fr w w1 := (Fr.alloc w _).then hg1 (own_empty w w.heap.size (Nat.le_refl _)).blk
  clear hg1 hd
  rw [List.nil_append] at hv1
  go_loopw [7] (fun v wr => ∃ j : Nat, xs.length + j ≤ max xs.length (k + 1) ∧ OwnS wr w.heap.size v (xs ++ List.replicate j 0) ∧ Fr w wr) (fun v _ => k + 1 - lenOfV v)
  case atStart => exact ⟨0, by omega, by simpa using hv1, hf1⟩
  case round =>
    obtain ⟨j, hj, ho, hf⟩ := hrel
    have hs := hf.size
    have hlj : (xs ++ List.replicate j 0).length = xs.length + j := by simp
    by_cases hlt : xs.length + j ≤ k
    · have hm := reads_one wr 0 ⟨by decide, by decide⟩
      have hown := ho
      obtain ⟨g, cap2, rfl, hoo⟩ := ho
      obtain ⟨J, hJ⟩ : ∃ J, J = xs ++ List.replicate j 0 := ⟨_, rfl⟩
      rw [← hJ] at hown hlj
      simp only [← hJ]
      have HJ : Hid (J ++ [0] = xs ++ List.replicate (j + 1) 0) := by show J ++ [0] = _; rw [hJ, List.append_assoc, List.replicate_succ']
      clear hJ hoo hv1
      rw [hlj] at hown
      simp only [hlj]
      go_wp2_with (at_builtin; refine appI _ rfl _ _ rfl w.heap.size _ J [0] rfl (hown.fr (Fr.alloc _ _)) _ _ _ rfl rfl (by simp) hm (by rw [hlj]; simp; omega) (by simp; omega) ?_; intro v2 w4 hv2 hg2)
      go_roundw
      case rel => exact ⟨j + 1, by omega, by rw [← HJ.out]; exact hv2, (hf.trans (Fr.alloc _ _)).then hg2 hown.blk⟩
      case measure =>
        obtain ⟨g3, cap3, rfl, _⟩ := hv2
        simp [lenOfV, hlj]; omega
    · have ej : xs ++ List.replicate j 0 = pad xs k := by
        rw [pad]; congr 2; omega
      rw [ej] at ho hlj
      have hat := pad_at xs k
      obtain ⟨g, cap2, rfl, hoo⟩ := ho
      have hpl := pad_length xs k
      obtain ⟨J, hJ⟩ : ∃ J, J = pad xs k := ⟨_, rfl⟩
      rw [← hJ] at hoo hlj hat hpl
      simp only [← hJ]
      have HJ : Hid (J = pad xs k) := hJ
      have hkJ : k < J.length := by omega
      have hce := hoo.1.cellAt k (by omega)
      rw [List.getElem?_map, hat] at hce
      simp only [Option.map_some] at hce
      have hfz := hoo.1.frozenAt k
      have hst := OwnS.stored hoo k z hz
      obtain ⟨old, hold⟩ : ∃ old, old = xs.getD k 0 := ⟨_, rfl⟩
      rw [← hold] at hce
      have hb := own_row_blk hoo
      have hll : (J.set k z).length = J.length := by simp
      have hst1 := hst.1
      have hst2 := hst.2
      rw [hll] at hst1
      have hkl : ¬ (J.length : Int) ≤ (k : Int) := by omega
      clear hJ hlj hat hold hpl hoo hv1 hlt ej hst
      go_wp2_with fail
      refine (l1Trim_any g _ cap2 w.heap.size _ _ hll hst1).mono ?_
      rintro e w5 ⟨v5, rfl, ov, fv⟩
      go_wp2_with fail
      go_ret
      have hf5 := hf.then hst2 hb
      refine ⟨v5, rfl, ?_, hf5.trans fv⟩
      rw [← HJ.out]
      exact ov.lower hf5.size

/-- What Ticked answers. -/
def tdL (xs : List Int) (g : Int) : List Int := if ckB xs = false then [] else if inB 0 15 g = true ∧ ofL xs g ≠ 281474976710655 then (pad xs g.toNat).set g.toNat (ofL xs g + 1) else xs
def tdB (xs : List Int) (g : Int) : Bool := ckB xs && (inB 0 15 g && !decide (ofL xs g = 281474976710655))

theorem tr_tick (xs : List Int) (k : Nat) (hx : ckB xs = true) : tr ((pad xs k).set k (xs.getD k 0 + 1)) = (pad xs k).set k (xs.getD k 0 + 1) := by
  apply tr_self
  right
  have hp := (getD_nonneg hx k).1
  rw [List.length_set, pad_length, List.getD_eq_getElem?_getD, List.getElem?_set]
  by_cases e : k = max xs.length (k + 1) - 1
  · rw [if_pos e, if_pos (by rw [pad_length]; omega), Option.getD_some]; omega
  · rw [if_neg e]
    have hlt : k + 1 < xs.length := by omega
    rw [Nat.max_eq_left (by omega), pad, List.getElem?_append_left (by omega)]
    have := (ckB_true hx).2.2 (by omega)
    rwa [List.getD_eq_getElem?_getD] at this

set_option maxHeartbeats 400000 in
theorem ticked_spec (ao : Option Addr) (n cap : Nat) (xs : List Int) (g : Int) (w : World) (hn : xs.length = n) (hc : ao = none → cap = 0) (h : Reads w ao xs) :
    Calls Try.prog 32 #[.slice ao n cap, .int .i64 g] w fun e w' => ∃ v, e = .returned (.tuple #[v, .bool (tdB xs g)]) ∧ OwnS w' w.heap.size v (tdL xs g) ∧ Fr w w' := by
  subst hn
  have hl := h.len
  have hd := h.fr (Fr.alloc w (.cells #[] 2))
  cases hk : ckB xs
  · have e1 : tdL xs g = [] := if_pos hk
    have e2 : tdB xs g = false := by rw [tdB, hk, Bool.false_and]
    rw [e1, e2]
    clear e1 e2
    go_enter Try.func32, Try.ntmps32
    go_wp2_with fail
    refine (clockOk_spec _ _ _ xs _ rfl h).mono ?_
    rintro e w1 ⟨rfl, rfl⟩
    go_wp2_with fail
    go_ret2
    exact ⟨_, rfl, own_empty _ _ (Nat.le_refl _), Fr.alloc _ _⟩
  · cases hg : inB 0 15 g
    · have e1 : tdL xs g = xs := by rw [tdL, if_neg (by simp [hk]), if_neg (by simp [hg])]
      have e2 : tdB xs g = false := by rw [tdB, hg, Bool.false_and, Bool.and_false]
      rw [e1, e2]
      clear e1 e2
      go_enter Try.func32, Try.ntmps32
      go_wp2_with fail
      refine (clockOk_spec _ _ _ xs _ rfl h).mono ?_
      rintro e w1 ⟨rfl, rfl⟩
      go_wp2_with fail
      refine (l1In_any _ _ _ _).mono ?_
      rintro e w2 ⟨rfl, rfl⟩
      go_wp2_with (at_builtin; refine appI _ rfl _ _ rfl w2.heap.size _ [] xs rfl (own_empty w2 _ (Nat.le_refl _)) _ _ _ rfl rfl hc hd (by simp; omega) (by simp) ?_; intro v1 w1 hv1 hg1)
      go_ret2
      exact ⟨_, rfl, hv1, (Fr.alloc _ _).then hg1 (own_empty w2 w2.heap.size (Nat.le_refl _)).blk⟩
    · have hof := l1Of_any ao xs.length cap xs g w rfl h
      have hgb := inB_true hg
      obtain ⟨k, rfl⟩ := Int.eq_ofNat_of_zero_le hgb.1
      have hk15 : k ≤ 15 := by omega
      rw [ofL_nat] at hof
      have hnn := getD_nonneg hk k
      by_cases hmt : xs.getD k 0 = 281474976710655
      · have e1 : tdL xs k = xs := by rw [tdL, if_neg (by simp [hk]), if_neg (fun e => e.2 (by rw [ofL_nat]; exact hmt))]
        have e2 : tdB xs k = false := by rw [tdB, ofL_nat, hmt]; simp
        rw [e1, e2]
        rw [hmt] at hof
        clear e1 e2 hmt hnn hgb
        go_enter Try.func32, Try.ntmps32
        go_wp2_with fail
        refine (clockOk_spec _ _ _ xs _ rfl h).mono ?_
        rintro e w1 ⟨rfl, rfl⟩
        go_wp2_with fail
        refine (l1In_any _ _ _ _).mono ?_
        rintro e w2 ⟨rfl, rfl⟩
        go_wp2_with fail
        refine (hof).mono ?_
        rintro e w3 ⟨rfl, rfl⟩
        go_wp2_with (at_builtin; refine appI _ rfl _ _ rfl w3.heap.size _ [] xs rfl (own_empty w3 _ (Nat.le_refl _)) _ _ _ rfl rfl hc hd (by simp; omega) (by simp) ?_; intro v1 w1 hv1 hg1)
        go_ret2
        exact ⟨_, rfl, hv1, (Fr.alloc _ _).then hg1 (own_empty w3 w3.heap.size (Nat.le_refl _)).blk⟩
      · have e1 : tdL xs k = tr ((pad xs k).set k (xs.getD k 0 + 1)) := by
          rw [tr_tick xs k hk, tdL, if_neg (by simp [hk]), if_pos ⟨hg, by rw [ofL_nat]; exact hmt⟩, ofL_nat, Int.toNat_natCast]
        have e2 : tdB xs k = true := by rw [tdB, hk, hg, ofL_nat, decide_eq_false hmt]; rfl
        have h16 := (ckB_true hk).1
        rw [e1, e2]
        obtain ⟨z, hz⟩ : ∃ z, z = xs.getD k 0 := ⟨_, rfl⟩
        rw [← hz] at hof hnn hmt ⊢
        have hb : (z == 281474976710655) = false := beq_eq_false_iff_ne.2 hmt
        obtain ⟨n1, n2⟩ := hnn
        clear e1 e2 hmt hgb hz
        go_enter Try.func32, Try.ntmps32
        go_wp2_with fail
        refine (clockOk_spec _ _ _ xs _ rfl h).mono ?_
        rintro e w1 ⟨rfl, rfl⟩
        go_wp2_with fail
        refine (l1In_any _ _ _ _).mono ?_
        rintro e w2 ⟨rfl, rfl⟩
        go_wp2_with fail
        refine (hof).mono ?_
        rintro e w3 ⟨rfl, rfl⟩
        go_wp2_with fail
        refine (hof).mono ?_
        rintro e w4 ⟨rfl, rfl⟩
        go_wp2_with fail
        refine (l1Put_any ao xs.length cap k xs (z + 1) _ rfl hc (by omega) ⟨by omega, by omega⟩ (by omega) h).mono ?_
        rintro e w5 ⟨v5, rfl, ov, fv⟩
        go_wp2_with fail
        go_ret2
        exact ⟨_, rfl, ov, fv⟩

set_option maxHeartbeats 1000000 in
theorem ticked_impl (ao : Option Addr) (n cap : Nat) (xs : List Int) (g : Int) (w : World) (hn : xs.length = n) (h : Reads w ao xs) :
    Calls Try.prog 17 #[.slice ao n cap, .int .i64 g] w fun e w' => ∃ v, e = .returned (.tuple #[v, .bool (tdB xs g)]) ∧ OwnS w' w.heap.size v (tdL xs g) ∧ Fr w w' := by
  subst hn
  have hl := h.len
  cases hk : ckB xs
  · have e1 : tdL xs g = [] := if_pos hk
    have e2 : tdB xs g = false := by rw [tdB, hk, Bool.false_and]
    rw [e1, e2]
    clear e1 e2
    go_enter Try.func17, Try.ntmps17
    go_wp2_with fail
    refine (clockOk_impl _ _ _ xs _ rfl h).mono ?_
    rintro e w1 ⟨rfl, rfl⟩
    go_wp2_with fail
    go_ret2
    exact ⟨_, rfl, own_empty _ _ (Nat.le_refl _), Fr.alloc _ _⟩
  · have ej : jnAll [(ao, cap, xs)] [(ao, cap, xs)].length = xs := by simp [jnAll, jn_left]
    have hjo := joinOf_any w.heap.size 1 1 [(ao, cap, xs)] _ rfl (by simp) (readsSS_one h (c := cap))
    rw [ej] at hjo
    clear ej
    cases hg : inB 0 15 g
    · have e1 : tdL xs g = xs := by rw [tdL, if_neg (by simp [hk]), if_neg (by simp [hg])]
      have e2 : tdB xs g = false := by rw [tdB, hg, Bool.false_and, Bool.and_false]
      rw [e1, e2]
      clear e1 e2
      go_enter Try.func17, Try.ntmps17
      go_wp2_with fail
      refine (clockOk_impl _ _ _ xs _ rfl h).mono ?_
      rintro e w1 ⟨rfl, rfl⟩
      go_wp2_with fail
      refine (hjo).mono ?_
      rintro e w2 ⟨v, rfl, ov, fv⟩
      go_wp2_with fail
      refine (gorIn_any _ _).mono ?_
      rintro e w3 ⟨rfl, rfl⟩
      go_wp2_with fail
      go_ret2
      exact ⟨_, rfl, ov.lower (by simp), (Fr.alloc _ _).trans fv⟩
    · have hgb := inB_true hg
      obtain ⟨k, rfl⟩ := Int.eq_ofNat_of_zero_le hgb.1
      have hk15 : k ≤ 15 := by omega
      have hof := fun w' hh => tickOf_impl ao xs.length cap xs (k : Int) w' rfl hh
      rw [tkL_yes hk, ofL_nat] at hof
      have hnn := getD_nonneg hk k
      by_cases hmt : xs.getD k 0 = 281474976710655
      · have e1 : tdL xs k = xs := by rw [tdL, if_neg (by simp [hk]), if_neg (fun e => e.2 (by rw [ofL_nat]; exact hmt))]
        have e2 : tdB xs k = false := by rw [tdB, ofL_nat, hmt]; simp
        rw [e1, e2]
        rw [hmt] at hof
        clear e1 e2 hmt hnn hgb
        go_enter Try.func17, Try.ntmps17
        go_wp2_with fail
        refine (clockOk_impl _ _ _ xs _ rfl h).mono ?_
        rintro e w1 ⟨rfl, rfl⟩
        go_wp2_with fail
        refine (hjo).mono ?_
        rintro e w2 ⟨v, rfl, ov, fv⟩
        go_wp2_with fail
        refine (gorIn_any _ _).mono ?_
        rintro e w3 ⟨rfl, rfl⟩
        go_wp2_with fail
        refine (hof _ ((h.fr (Fr.alloc _ _)).fr fv)).mono ?_
        rintro e w4 ⟨rfl, rfl⟩
        go_wp2_with fail
        go_ret2
        exact ⟨_, rfl, ov.lower (by simp), (Fr.alloc _ _).trans fv⟩
      · have e1 : tdL xs k = (pad xs k).set k (xs.getD k 0 + 1) := by
          rw [tdL, if_neg (by simp [hk]), if_pos ⟨hg, by rw [ofL_nat]; exact hmt⟩, ofL_nat, Int.toNat_natCast]
        have e2 : tdB xs k = true := by rw [tdB, hk, hg, ofL_nat, decide_eq_false hmt]; rfl
        have h16 := (ckB_true hk).1
        have hpa := pad_at xs k
        rw [e1, e2]
        obtain ⟨z, hz⟩ : ∃ z, z = xs.getD k 0 := ⟨_, rfl⟩
        rw [← hz] at hof hnn hmt hpa ⊢
        have hb : (z == 281474976710655) = false := beq_eq_false_iff_ne.2 hmt
        obtain ⟨n1, n2⟩ := hnn
        clear e1 e2 hmt hgb hz
        go_enter Try.func17, Try.ntmps17
        go_wp2_with fail
        refine (clockOk_impl _ _ _ xs _ rfl h).mono ?_
        rintro e w1 ⟨rfl, rfl⟩
        go_wp2_with fail
        refine (hjo).mono ?_
        rintro e w2 ⟨v, rfl, ov, fv⟩
        go_wp2_with fail
        refine (gorIn_any _ _).mono ?_
        rintro e w3 ⟨rfl, rfl⟩
        go_wp2_with fail
        refine (hof _ ((h.fr (Fr.alloc _ _)).fr fv)).mono ?_
        rintro e w4 ⟨rfl, rfl⟩
        have fa := (Fr.alloc w1 (.cells #[.slice ao xs.length cap] 24)).trans fv
        have ov' := ov.lower (show w1.heap.size ≤ _ by simp)
        clear hjo hof fv ov h
        go_wp2_with fail
        go_loopw [6] (fun v wr => ∃ j : Nat, xs.length + j ≤ max xs.length (k + 1) ∧ OwnS wr w1.heap.size v (xs ++ List.replicate j 0) ∧ Fr w1 wr) (fun v _ => k + 1 - lenOfV v)
        case atStart => exact ⟨0, by omega, by simpa using ov', fa⟩
        case round =>
          obtain ⟨j, hj, ho, hf⟩ := hrel
          have hs := hf.size
          have hlj : (xs ++ List.replicate j 0).length = xs.length + j := by simp
          by_cases hlt : xs.length + j ≤ k
          · have hm := reads_one wr 0 ⟨by decide, by decide⟩
            have hown := ho
            obtain ⟨g, cap2, rfl, hoo⟩ := ho
            obtain ⟨J, hJ⟩ : ∃ J, J = xs ++ List.replicate j 0 := ⟨_, rfl⟩
            rw [← hJ] at hown hlj
            simp only [← hJ]
            have HJ : Hid (J ++ [0] = xs ++ List.replicate (j + 1) 0) := by show J ++ [0] = _; rw [hJ, List.append_assoc, List.replicate_succ']
            clear hJ hoo ov' fa
            rw [hlj] at hown
            simp only [hlj]
            go_wp2_with (at_builtin; refine appI _ rfl _ _ rfl w1.heap.size _ J [0] rfl (hown.fr (Fr.alloc _ _)) _ _ _ rfl rfl (by simp) hm (by rw [hlj]; simp; omega) (by simp; omega) ?_; intro v2 w9 hv2 hg2)
            go_roundw
            case rel => exact ⟨j + 1, by omega, by rw [← HJ.out]; exact hv2, (hf.trans (Fr.alloc _ _)).then hg2 hown.blk⟩
            case measure =>
              obtain ⟨g3, cap3, rfl, _⟩ := hv2
              simp [lenOfV, hlj]; omega
          · have ej : xs ++ List.replicate j 0 = pad xs k := by
              rw [pad]; congr 2; omega
            rw [ej] at ho hlj
            obtain ⟨g, cap2, rfl, hoo⟩ := ho
            have hpl := pad_length xs k
            obtain ⟨J, hJ⟩ : ∃ J, J = pad xs k := ⟨_, rfl⟩
            rw [← hJ] at hoo hlj hpa hpl
            simp only [← hJ]
            have HJ : Hid (J = pad xs k) := hJ
            have hkJ : k < J.length := by omega
            have hce := hoo.1.cellAt k (by omega)
            rw [List.getElem?_map, hpa] at hce
            simp only [Option.map_some] at hce
            have hfz := hoo.1.frozenAt k
            have hst := OwnS.stored hoo k (z + 1) ⟨by omega, by omega⟩
            have hb2 := own_row_blk hoo
            have hkl : ¬ (J.length : Int) ≤ (k : Int) := by omega
            have hll : (J.set k (z + 1)).length = J.length := by simp
            have hst1 := hst.1
            have hst2 := hst.2
            have HST : Hid (OwnI (wr.setCell ⟨g, k, none⟩ (.int .i64 (z + 1))) w1.heap.size (.slice (some ⟨g, 0, none⟩) (J.set k (z + 1)).length cap2) (J.set k (z + 1))) := hst1
            clear hJ hlj hpa hpl hoo ov' fa hlt ej hst hst1
            go_wp2_with fail
            go_ret2
            refine ⟨_, rfl, ?_, hf.then hst2 hb2⟩
            rw [← HJ.out]
            exact ⟨g, cap2, by rw [hll]; rfl, HST.out⟩

/-- The function number f ticks xs at g: the list J, in new memory, and the flag B. -/
def TickC (f : Nat) (xs : List Int) (g : Int) (J : List Int) (B : Bool) : Prop := ∀ (ao : Option Addr) (n cap : Nat) (w : World), xs.length = n → (ao = none → cap = 0) → Reads w ao xs →
    Calls Try.prog f #[.slice ao n cap, .int .i64 g] w fun e w' => ∃ v, e = .returned (.tuple #[v, .bool B]) ∧ OwnS w' w.heap.size v J ∧ Fr w w'
theorem ticked_both (xs : List Int) (g : Int) : ∃ J B, TickC 32 xs g J B ∧ TickC 17 xs g J B :=
  ⟨tdL xs g, tdB xs g, fun ao n cap w hn hc h => ticked_spec ao n cap xs g w hn hc h, fun ao n cap w hn _ h => ticked_impl ao n cap xs g w hn h⟩
end Go.Proofs.Yteoalolkjfeeaaa
