/-
  Pack AH: ScRise.
-/
import Derived.Test.YtcofhmikdkkigaaGreatDoorPfAF
namespace Go.Proofs.YtcofhmikdkkigaaGreatDoor
open Go.RowKit

theorem itself_any (x : Int) (w : World) :
    Calls Tryz.prog 70 #[.int .i64 x] w fun e w' => e = .returned (.int .i64 x) ∧ w' = w := by
  go_enter Tryz.func70, Tryz.ntmps70
  go_wp2
  go_ret
  exact ⟨rfl, rfl⟩
theorem lockNumber_any (l : Lv) (w : World) :
    Calls Tryz.prog 96 #[.agg #[.int .i64 l.o, .int .i64 l.wr, .slice l.ro l.rn l.rc]] w fun e w' => e = .returned (.int .i64 l.o) ∧ Fr w w' := by
  obtain ⟨o, wr, ro, rn, rc⟩ := l
  simp only
  go_enter Tryz.func96, Tryz.ntmps96
  go_wp2
  go_ret
  exact ⟨rfl, Fr.alloc _ _⟩
theorem chanNumber_any (l : Ch) (w : World) :
    Calls Tryz.prog 98 #[.agg #[.int .i64 l.o, .int .i64 l.cap, .int .i64 l.sent, .int .i64 l.got, .bool l.cl]] w fun e w' => e = .returned (.int .i64 l.o) ∧ Fr w w' := by
  obtain ⟨o, cap, sent, got, cl⟩ := l
  simp only
  go_enter Tryz.func98, Tryz.ntmps98
  go_wp2
  go_ret
  exact ⟨rfl, Fr.alloc _ _⟩
theorem countNumber_any (l : Ct) (w : World) :
    Calls Tryz.prog 100 #[.agg #[.int .i64 l.o, .int .i64 l.n]] w fun e w' => e = .returned (.int .i64 l.o) ∧ Fr w w' := by
  obtain ⟨o, n⟩ := l
  simp only
  go_enter Tryz.func100, Tryz.ntmps100
  go_wp2
  go_ret
  exact ⟨rfl, Fr.alloc _ _⟩

def upFrom (most : Int) : Int → List Int → Bool
  | _, [] => true
  | last, x :: xs => decide (last < x) && decide (x ≤ most) && upFrom most x xs
theorem upFrom_yes {most last : Int} {xs : List Int} {k : Nat} (hk : k < xs.length) (h1 : last < xs[k]) (h2 : xs[k] ≤ most) : upFrom most last (xs.drop k) = upFrom most xs[k] (xs.drop (k + 1)) := by
  rw [List.drop_eq_getElem_cons hk, upFrom, decide_eq_true h1, decide_eq_true h2]
  rfl
theorem upFrom_no {most last : Int} {xs : List Int} {k : Nat} (hk : k < xs.length) (h : xs[k] ≤ last ∨ most < xs[k]) : upFrom most last (xs.drop k) = false := by
  rw [List.drop_eq_getElem_cons hk, upFrom]
  rcases h with h | h
  · rw [decide_eq_false (by omega)]; rfl
  · rw [decide_eq_false (show ¬ xs[k] ≤ most by omega), Bool.and_false, Bool.false_and]

set_option maxHeartbeats 1000000 in
theorem risesI_any (ao : Option Addr) (n c : Nat) (xs : List Int) (most : Int) (w : World) (hn : xs.length = n) (hl : xs.length ≤ 1048576) (h : Reads w ao xs) :
    Calls Tryz.prog 69 #[.slice ao n c, .func (.func 70) #[] #[], .int .i64 most] w fun e w' => e = .returned (.bool (upFrom most (-1) xs)) ∧ w' = w := by
  subst hn
  obtain ⟨R, hR⟩ : ∃ R, R = upFrom most (-1) xs := ⟨_, rfl⟩
  rw [← hR]
  have HR : Hid (R = upFrom most (-1) xs) := hR
  clear hR
  go_enter Tryz.func69, Tryz.ntmps69
  go_wp2_with fail
  go_loopw [7, 13] (fun q i wr => ∃ (k : Nat) (last : Int), k ≤ xs.length ∧ i = .int .i64 k ∧ q = .int .i64 last ∧ Hid (R = upFrom most last (xs.drop k)) ∧ wr = w) (fun _ i _ => xs.length - (intOf i).toNat)
  case atStart => exact ⟨0, -1, Nat.zero_le _, rfl, rfl, HR, rfl⟩
  case round =>
    clear HR
    obtain ⟨k, last, hk, rfl, rfl, HR, rfl⟩ := hrel
    by_cases hlt : k < xs.length
    · obtain ⟨b, off, rfl, hc⟩ := h.at_ k hlt
      have hck := hc k hlt
      rw [getD_at hlt] at hck
      have HY : Hid (last < xs[k] → xs[k] ≤ most → R = upFrom most xs[k] (xs.drop (k + 1))) := fun h1 h2 => HR.out.trans (upFrom_yes hlt h1 h2)
      have HF : Hid (xs[k] ≤ last ∨ most < xs[k] → R = false) := fun h1 => HR.out.trans (upFrom_no hlt h1)
      obtain ⟨z, hz⟩ : ∃ z, z = xs[k] := ⟨_, rfl⟩
      rw [← hz] at hck HY HF
      clear hz hc HR
      go_wp2_with fail
      refine (itself_any _ _).mono ?_
      rintro e y ⟨rfl, rfl⟩
      by_cases h1 : z ≤ last
      · have HN : Hid (R = false) := HF.out (.inl h1)
        go_wp2_with fail
        go_ret
        exact ⟨ret_bool HN.out.symm, rfl⟩
      · by_cases h2 : most < z
        · have HN : Hid (R = false) := HF.out (.inr h2)
          have h1' : last < z := by omega
          clear h1
          go_wp2_with fail
          go_ret
          exact ⟨ret_bool HN.out.symm, rfl⟩
        · have h1' : last < z := by omega
          have h2' : z ≤ most := by omega
          have HN : Hid (R = upFrom most z (xs.drop (k + 1))) := HY.out h1' h2'
          clear h1 h2
          go_wp2_with fail
          go_roundw
          case rel => exact ⟨k + 1, z, by omega, by go_num, rfl, HN, trivial⟩
          case measure => simp [intOf]; omega
    · have HN : Hid (R = true) := by
        have h1 := HR.out
        rw [List.drop_eq_nil_of_le (by omega)] at h1
        exact h1
      go_wp2_with fail
      go_ret
      exact ⟨ret_bool HN.out.symm, rfl⟩

set_option maxHeartbeats 1000000 in
theorem risesN_any (ao : Option Addr) (n c : Nat) (es : List Ct) (most : Int) (w : World) (hn : es.length = n) (hl : es.length ≤ 1048576) (h : ReadsG layN w ao es) :
    Calls Tryz.prog 126 #[.slice ao n c, .func (.func 100) #[] #[], .int .i64 most] w fun e w' => e = .returned (.bool (upFrom most (-1) (es.map Ct.o))) ∧ Fr w w' := by
  subst hn
  obtain ⟨xs, hx⟩ : ∃ xs, xs = es.map Ct.o := ⟨_, rfl⟩
  have HX : Hid (xs = es.map Ct.o) := hx
  rw [← hx]
  clear hx
  obtain ⟨R, hR⟩ : ∃ R, R = upFrom most (-1) xs := ⟨_, rfl⟩
  rw [← hR]
  have HR : Hid (R = upFrom most (-1) xs) := hR
  clear hR
  go_enter Tryz.func126, Tryz.ntmps126
  go_wp2_with fail
  go_loopw [7, 13] (fun q i wr => ∃ (k : Nat) (last : Int), k ≤ es.length ∧ i = .int .i64 k ∧ q = .int .i64 last ∧ Hid (R = upFrom most last (xs.drop k)) ∧ Fr w wr) (fun _ i _ => es.length - (intOf i).toNat)
  case atStart => exact ⟨0, -1, Nat.zero_le _, rfl, rfl, HR, Fr.refl w⟩
  case round =>
    clear HR
    obtain ⟨k, last, hk, rfl, rfl, HR, hf⟩ := hrel
    by_cases hlt : k < es.length
    · obtain ⟨b, off, rfl, d0, d1⟩ := ct_at (h.fr hf) k hlt
      have hlx : k < xs.length := by rw [HX.out]; simpa using hlt
      have hkz : xs[k] = es[k].o := by simp only [HX.out, List.getElem_map]
      have HY : Hid (last < es[k].o → es[k].o ≤ most → R = upFrom most es[k].o (xs.drop (k + 1))) := fun h1 h2 => HR.out.trans (by rw [← hkz] at h1 h2 ⊢; exact upFrom_yes hlx h1 h2)
      have HF : Hid (es[k].o ≤ last ∨ most < es[k].o → R = false) := fun h1 => HR.out.trans (by rw [← hkz] at h1; exact upFrom_no hlx h1)
      obtain ⟨e, he⟩ : ∃ e, e = es[k] := ⟨_, rfl⟩
      rw [← he] at HY HF
      simp only [← he] at d0 d1
      clear he hkz hlx HR
      obtain ⟨z, n2⟩ := e
      simp only at d0 d1 HY HF
      go_wp2_with fail
      refine (countNumber_any ⟨z, n2⟩ _).mono ?_
      rintro e y ⟨rfl, fy⟩
      have hf2 := (hf.trans (Fr.alloc wr (.cells #[.int .i64 z, .int .i64 n2] 92))).trans fy
      clear d0 d1 fy
      simp only
      by_cases h1 : z ≤ last
      · have HN : Hid (R = false) := HF.out (.inl h1)
        go_wp2_with fail
        go_ret
        exact ⟨ret_bool HN.out.symm, hf2⟩
      · by_cases h2 : most < z
        · have HN : Hid (R = false) := HF.out (.inr h2)
          have h1' : last < z := by omega
          clear h1
          go_wp2_with fail
          go_ret
          exact ⟨ret_bool HN.out.symm, hf2⟩
        · have h1' : last < z := by omega
          have h2' : z ≤ most := by omega
          have HN : Hid (R = upFrom most z (xs.drop (k + 1))) := HY.out h1' h2'
          clear h1 h2
          go_wp2_with fail
          go_roundw
          case rel => exact ⟨k + 1, z, by omega, by go_num, rfl, HN, hf2⟩
          case measure => simp [intOf]; omega
    · have HN : Hid (R = true) := by
        have h1 := HR.out
        rw [List.drop_eq_nil_of_le (by rw [HX.out]; simp; omega)] at h1
        exact h1
      go_wp2_with fail
      go_ret
      exact ⟨ret_bool HN.out.symm, hf⟩

set_option maxHeartbeats 1000000 in
theorem risesC_any (ao : Option Addr) (n c : Nat) (es : List Ch) (most : Int) (w : World) (hn : es.length = n) (hl : es.length ≤ 1048576) (h : ReadsG layC w ao es) :
    Calls Tryz.prog 125 #[.slice ao n c, .func (.func 98) #[] #[], .int .i64 most] w fun e w' => e = .returned (.bool (upFrom most (-1) (es.map Ch.o))) ∧ Fr w w' := by
  subst hn
  obtain ⟨xs, hx⟩ : ∃ xs, xs = es.map Ch.o := ⟨_, rfl⟩
  have HX : Hid (xs = es.map Ch.o) := hx
  rw [← hx]
  clear hx
  obtain ⟨R, hR⟩ : ∃ R, R = upFrom most (-1) xs := ⟨_, rfl⟩
  rw [← hR]
  have HR : Hid (R = upFrom most (-1) xs) := hR
  clear hR
  go_enter Tryz.func125, Tryz.ntmps125
  go_wp2_with fail
  go_loopw [7, 13] (fun q i wr => ∃ (k : Nat) (last : Int), k ≤ es.length ∧ i = .int .i64 k ∧ q = .int .i64 last ∧ Hid (R = upFrom most last (xs.drop k)) ∧ Fr w wr) (fun _ i _ => es.length - (intOf i).toNat)
  case atStart => exact ⟨0, -1, Nat.zero_le _, rfl, rfl, HR, Fr.refl w⟩
  case round =>
    clear HR
    obtain ⟨k, last, hk, rfl, rfl, HR, hf⟩ := hrel
    by_cases hlt : k < es.length
    · obtain ⟨b, off, rfl, d0, d1, d2, d3, d4⟩ := ch_at (h.fr hf) k hlt
      have hlx : k < xs.length := by rw [HX.out]; simpa using hlt
      have hkz : xs[k] = es[k].o := by simp only [HX.out, List.getElem_map]
      have HY : Hid (last < es[k].o → es[k].o ≤ most → R = upFrom most es[k].o (xs.drop (k + 1))) := fun h1 h2 => HR.out.trans (by rw [← hkz] at h1 h2 ⊢; exact upFrom_yes hlx h1 h2)
      have HF : Hid (es[k].o ≤ last ∨ most < es[k].o → R = false) := fun h1 => HR.out.trans (by rw [← hkz] at h1; exact upFrom_no hlx h1)
      obtain ⟨e, he⟩ : ∃ e, e = es[k] := ⟨_, rfl⟩
      rw [← he] at HY HF
      simp only [← he] at d0 d1 d2 d3 d4
      clear he hkz hlx HR
      obtain ⟨z, cap, sent, got, cl⟩ := e
      simp only at d0 d1 d2 d3 d4 HY HF
      go_wp2_with fail
      refine (chanNumber_any ⟨z, cap, sent, got, cl⟩ _).mono ?_
      rintro e y ⟨rfl, fy⟩
      have hf2 := (hf.trans (Fr.alloc wr (.cells #[.int .i64 z, .int .i64 cap, .int .i64 sent, .int .i64 got, .bool cl] 89))).trans fy
      clear d0 d1 d2 d3 d4 fy
      simp only
      by_cases h1 : z ≤ last
      · have HN : Hid (R = false) := HF.out (.inl h1)
        go_wp2_with fail
        go_ret
        exact ⟨ret_bool HN.out.symm, hf2⟩
      · by_cases h2 : most < z
        · have HN : Hid (R = false) := HF.out (.inr h2)
          have h1' : last < z := by omega
          clear h1
          go_wp2_with fail
          go_ret
          exact ⟨ret_bool HN.out.symm, hf2⟩
        · have h1' : last < z := by omega
          have h2' : z ≤ most := by omega
          have HN : Hid (R = upFrom most z (xs.drop (k + 1))) := HY.out h1' h2'
          clear h1 h2
          go_wp2_with fail
          go_roundw
          case rel => exact ⟨k + 1, z, by omega, by go_num, rfl, HN, hf2⟩
          case measure => simp [intOf]; omega
    · have HN : Hid (R = true) := by
        have h1 := HR.out
        rw [List.drop_eq_nil_of_le (by rw [HX.out]; simp; omega)] at h1
        exact h1
      go_wp2_with fail
      go_ret
      exact ⟨ret_bool HN.out.symm, hf⟩

set_option maxHeartbeats 1000000 in
theorem risesL_any (ao : Option Addr) (n c : Nat) (es : List Lv) (most : Int) (w : World) (hn : es.length = n) (hl : es.length ≤ 1048576) (h : ReadsG layL w ao es) :
    Calls Tryz.prog 124 #[.slice ao n c, .func (.func 96) #[] #[], .int .i64 most] w fun e w' => e = .returned (.bool (upFrom most (-1) (es.map Lv.o))) ∧ Fr w w' := by
  subst hn
  obtain ⟨xs, hx⟩ : ∃ xs, xs = es.map Lv.o := ⟨_, rfl⟩
  have HX : Hid (xs = es.map Lv.o) := hx
  rw [← hx]
  clear hx
  obtain ⟨R, hR⟩ : ∃ R, R = upFrom most (-1) xs := ⟨_, rfl⟩
  rw [← hR]
  have HR : Hid (R = upFrom most (-1) xs) := hR
  clear hR
  go_enter Tryz.func124, Tryz.ntmps124
  go_wp2_with fail
  go_loopw [7, 13] (fun q i wr => ∃ (k : Nat) (last : Int), k ≤ es.length ∧ i = .int .i64 k ∧ q = .int .i64 last ∧ Hid (R = upFrom most last (xs.drop k)) ∧ Fr w wr) (fun _ i _ => es.length - (intOf i).toNat)
  case atStart => exact ⟨0, -1, Nat.zero_le _, rfl, rfl, HR, Fr.refl w⟩
  case round =>
    clear HR
    obtain ⟨k, last, hk, rfl, rfl, HR, hf⟩ := hrel
    by_cases hlt : k < es.length
    · obtain ⟨b, off, rfl, d0, d1, d2⟩ := lv_at (h.fr hf) k hlt
      have hlx : k < xs.length := by rw [HX.out]; simpa using hlt
      have hkz : xs[k] = es[k].o := by simp only [HX.out, List.getElem_map]
      have HY : Hid (last < es[k].o → es[k].o ≤ most → R = upFrom most es[k].o (xs.drop (k + 1))) := fun h1 h2 => HR.out.trans (by rw [← hkz] at h1 h2 ⊢; exact upFrom_yes hlx h1 h2)
      have HF : Hid (es[k].o ≤ last ∨ most < es[k].o → R = false) := fun h1 => HR.out.trans (by rw [← hkz] at h1; exact upFrom_no hlx h1)
      obtain ⟨e, he⟩ : ∃ e, e = es[k] := ⟨_, rfl⟩
      rw [← he] at HY HF
      simp only [← he] at d0 d1 d2
      clear he hkz hlx HR
      obtain ⟨z, wt, ro, rn, rc⟩ := e
      simp only at d0 d1 d2 HY HF
      go_wp2_with fail
      refine (lockNumber_any ⟨z, wt, ro, rn, rc⟩ _).mono ?_
      rintro e y ⟨rfl, fy⟩
      have hf2 := (hf.trans (Fr.alloc wr (.cells #[.int .i64 z, .int .i64 wt, .slice ro rn rc] 86))).trans fy
      clear d0 d1 d2 fy
      simp only
      by_cases h1 : z ≤ last
      · have HN : Hid (R = false) := HF.out (.inl h1)
        go_wp2_with fail
        go_ret
        exact ⟨ret_bool HN.out.symm, hf2⟩
      · by_cases h2 : most < z
        · have HN : Hid (R = false) := HF.out (.inr h2)
          have h1' : last < z := by omega
          clear h1
          go_wp2_with fail
          go_ret
          exact ⟨ret_bool HN.out.symm, hf2⟩
        · have h1' : last < z := by omega
          have h2' : z ≤ most := by omega
          have HN : Hid (R = upFrom most z (xs.drop (k + 1))) := HY.out h1' h2'
          clear h1 h2
          go_wp2_with fail
          go_roundw
          case rel => exact ⟨k + 1, z, by omega, by go_num, rfl, HN, hf2⟩
          case measure => simp [intOf]; omega
    · have HN : Hid (R = true) := by
        have h1 := HR.out
        rw [List.drop_eq_nil_of_le (by rw [HX.out]; simp; omega)] at h1
        exact h1
      go_wp2_with fail
      go_ret
      exact ⟨ret_bool HN.out.symm, hf⟩
end Go.Proofs.YtcofhmikdkkigaaGreatDoor
