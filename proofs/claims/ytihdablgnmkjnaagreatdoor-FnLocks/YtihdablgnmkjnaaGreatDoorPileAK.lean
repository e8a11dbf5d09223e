/-
  The program's small words on scenes: within, the numbers of things, risesTo.
-/
import Derived.Test.YtihdablgnmkjnaaGreatDoorPileAD
import Derived.Test.YtihdablgnmkjnaaGreatDoorPileAJ
import Derived.Carry
import Derived.Deep.RegionHeld3
import Derived.Test.YtihdablgnmkjnaaGreatDoorPileAE
namespace Go.Proofs.YtihdablgnmkjnaaGreatDoor
open Go.RowKit

theorem within_any (x lo hi : Int) (w : World) :
    Calls Tryz.prog 54 #[.int .i64 x, .int .i64 lo, .int .i64 hi] w fun e w' => e = .returned (.bool (inB lo hi x)) ∧ w' = w := by
  by_cases h : lo ≤ x
  · by_cases h2 : x ≤ hi
    · rw [inB_mk h h2]
      go_enter Tryz.func54, Tryz.ntmps54
      go_wp2
      go_ret
      exact ⟨rfl, rfl⟩
    · rw [inB_not (by omega)]
      go_enter Tryz.func54, Tryz.ntmps54
      go_wp2
      go_ret
      exact ⟨rfl, rfl⟩
  · rw [inB_not (by omega)]
    go_enter Tryz.func54, Tryz.ntmps54
    go_wp2
    go_ret
    exact ⟨rfl, rfl⟩
theorem itself_any (x : Int) (w : World) :
    Calls Tryz.prog 59 #[.int .i64 x] w fun e w' => e = .returned (.int .i64 x) ∧ w' = w := by
  go_enter Tryz.func59, Tryz.ntmps59
  go_wp2
  go_ret
  exact ⟨rfl, rfl⟩
theorem lockNumber_any (l : Lv) (w : World) :
    Calls Tryz.prog 98 #[.agg #[.int .i64 l.o, .int .i64 l.wr, .slice l.ro l.rn l.rc]] w fun e w' => e = .returned (.int .i64 l.o) ∧ Fr w w' := by
  obtain ⟨o, wr, ro, rn, rc⟩ := l
  simp only
  go_enter Tryz.func98, Tryz.ntmps98
  go_wp2
  go_ret
  exact ⟨rfl, Fr.alloc _ _⟩
theorem chanNumber_any (l : Ch) (w : World) :
    Calls Tryz.prog 100 #[.agg #[.int .i64 l.o, .int .i64 l.cap, .int .i64 l.sent, .int .i64 l.got, .bool l.cl]] w fun e w' => e = .returned (.int .i64 l.o) ∧ Fr w w' := by
  obtain ⟨o, cap, sent, got, cl⟩ := l
  simp only
  go_enter Tryz.func100, Tryz.ntmps100
  go_wp2
  go_ret
  exact ⟨rfl, Fr.alloc _ _⟩
theorem countNumber_any (l : Ct) (w : World) :
    Calls Tryz.prog 102 #[.agg #[.int .i64 l.o, .int .i64 l.n]] w fun e w' => e = .returned (.int .i64 l.o) ∧ Fr w w' := by
  obtain ⟨o, n⟩ := l
  simp only
  go_enter Tryz.func102, Tryz.ntmps102
  go_wp2
  go_ret
  exact ⟨rfl, Fr.alloc _ _⟩

/-- Do the numbers rise from last on, up to most? -/
def upFrom (most : Int) : Int → List Int → Bool
  | _, [] => true
  | last, x :: xs => decide (last < x) && decide (x ≤ most) && upFrom most x xs
theorem upFrom_yes {most last : Int} {xs : List Int} {k : Nat} (hk : k < xs.length) (h1 : last < xs[k]) (h2 : xs[k] ≤ most) : upFrom most last (xs.drop k) = upFrom most xs[k] (xs.drop (k + 1)) := by
  rw [List.drop_eq_getElem_cons hk, upFrom, decide_eq_true h1, decide_eq_true h2]
  rfl
theorem upFrom_no {most last : Int} {xs : List Int} {k : Nat} (hk : k < xs.length) (h : xs[k] ≤ last ∨ most < xs[k]) : upFrom most last (xs.drop k) = false := by
  rw [List.drop_eq_getElem_cons hk, upFrom]
  rcases h with h | h
  · rw [decide_eq_false (by omega)]; rfl
  · rw [decide_eq_false (show ¬ xs[k] ≤ most by omega), Bool.and_false, Bool.false_and]

set_option maxHeartbeats 1000000 in
theorem risesI_any (ao : Option Addr) (n c : Nat) (xs : List Int) (most : Int) (w : World) (hn : xs.length = n) (hl : xs.length ≤ 1048576) (h : Reads w ao xs) :
    Calls Tryz.prog 58 #[.slice ao n c, .func (.func 59) #[] #[], .int .i64 most] w fun e w' => e = .returned (.bool (upFrom most (-1) xs)) ∧ w' = w := by
  subst hn
  obtain ⟨R, hR⟩ : ∃ R, R = upFrom most (-1) xs := ⟨_, rfl⟩
  rw [← hR]
  have HR : Hid (R = upFrom most (-1) xs) := hR
  clear hR
  go_enter Tryz.func58, Tryz.ntmps58
  go_wp2_with fail
  go_loopw [7, 13] (fun q i wr => ∃ (k : Nat) (last : Int), k ≤ xs.length ∧ i = .int .i64 k ∧ q = .int .i64 last ∧ Hid (R = upFrom most last (xs.drop k)) ∧ wr = w) (fun _ i _ => xs.length - (intOf i).toNat)
  case atStart => exact ⟨0, -1, Nat.zero_le _, rfl, rfl, HR, rfl⟩
  case round =>
    clear HR
    obtain ⟨k, last, hk, rfl, rfl, HR, rfl⟩ := hrel
    by_cases hlt : k < xs.length
    · obtain ⟨b, off, rfl, hc⟩ := h.at_ k hlt
      have hck := hc k hlt
      rw [getD_at hlt] at hck
      have HY : Hid (last < xs[k] → xs[k] ≤ most → R = upFrom most xs[k] (xs.drop (k + 1))) := fun h1 h2 => HR.out.trans (upFrom_yes hlt h1 h2)
      have HF : Hid (xs[k] ≤ last ∨ most < xs[k] → R = false) := fun h1 => HR.out.trans (upFrom_no hlt h1)
      obtain ⟨z, hz⟩ : ∃ z, z = xs[k] := ⟨_, rfl⟩
      rw [← hz] at hck HY HF
      clear hz hc HR
      go_wp2_with fail
      refine (itself_any _ _).mono ?_
      rintro e y ⟨rfl, rfl⟩
      by_cases h1 : z ≤ last
      · have HN : Hid (R = false) := HF.out (.inl h1)
        go_wp2_with fail
        go_ret
        exact ⟨ret_bool HN.out.symm, rfl⟩
      · by_cases h2 : most < z
        · have HN : Hid (R = false) := HF.out (.inr h2)
          have h1' : last < z := by omega
          clear h1
          go_wp2_with fail
          go_ret
          exact ⟨ret_bool HN.out.symm, rfl⟩
        · have h1' : last < z := by omega
          have h2' : z ≤ most := by omega
          have HN : Hid (R = upFrom most z (xs.drop (k + 1))) := HY.out h1' h2'
          clear h1 h2
          go_wp2_with fail
          go_roundw
          case rel => exact ⟨k + 1, z, by omega, by go_num, rfl, HN, trivial⟩
          case measure => simp [intOf]; omega
    · have HN : Hid (R = true) := by
        have h1 := HR.out
        rw [List.drop_eq_nil_of_le (by omega)] at h1
        exact h1
      go_wp2_with fail
      go_ret
      exact ⟨ret_bool HN.out.symm, rfl⟩

set_option maxHeartbeats 1000000 in
theorem risesN_any (ao : Option Addr) (n c : Nat) (es : List Ct) (most : Int) (w : World) (hn : es.length = n) (hl : es.length ≤ 1048576) (h : ReadsG layN w ao es) :
    Calls Tryz.prog 127 #[.slice ao n c, .func (.func 102) #[] #[], .int .i64 most] w fun e w' => e = .returned (.bool (upFrom most (-1) (es.map Ct.o))) ∧ Fr w w' := by
  subst hn
  obtain ⟨xs, hx⟩ : ∃ xs, xs = es.map Ct.o := ⟨_, rfl⟩
  have HX : Hid (xs = es.map Ct.o) := hx
  rw [← hx]
  clear hx
  obtain ⟨R, hR⟩ : ∃ R, R = upFrom most (-1) xs := ⟨_, rfl⟩
  rw [← hR]
  have HR : Hid (R = upFrom most (-1) xs) := hR
  clear hR
  go_enter Tryz.func127, Tryz.ntmps127
  go_wp2_with fail
  go_loopw [7, 13] (fun q i wr => ∃ (k : Nat) (last : Int), k ≤ es.length ∧ i = .int .i64 k ∧ q = .int .i64 last ∧ Hid (R = upFrom most last (xs.drop k)) ∧ Fr w wr) (fun _ i _ => es.length - (intOf i).toNat)
  case atStart => exact ⟨0, -1, Nat.zero_le _, rfl, rfl, HR, Fr.refl w⟩
  case round =>
    clear HR
    obtain ⟨k, last, hk, rfl, rfl, HR, hf⟩ := hrel
    by_cases hlt : k < es.length
    · obtain ⟨b, off, rfl, d0, d1⟩ := ct_at (h.fr hf) k hlt
      have hlx : k < xs.length := by rw [HX.out]; simpa using hlt
      have hkz : xs[k] = es[k].o := by simp only [HX.out, List.getElem_map]
      have HY : Hid (last < es[k].o → es[k].o ≤ most → R = upFrom most es[k].o (xs.drop (k + 1))) := fun h1 h2 => HR.out.trans (by rw [← hkz] at h1 h2 ⊢; exact upFrom_yes hlx h1 h2)
      have HF : Hid (es[k].o ≤ last ∨ most < es[k].o → R = false) := fun h1 => HR.out.trans (by rw [← hkz] at h1; exact upFrom_no hlx h1)
      obtain ⟨e, he⟩ : ∃ e, e = es[k] := ⟨_, rfl⟩
      rw [← he] at HY HF
      simp only [← he] at d0 d1
      clear he hkz hlx HR
      obtain ⟨z, n2⟩ := e
      simp only at d0 d1 HY HF
      go_wp2_with fail
      refine (countNumber_any ⟨z, n2⟩ _).mono ?_
      rintro e y ⟨rfl, fy⟩
      have hf2 := (hf.trans (Fr.alloc wr (.cells #[.int .i64 z, .int .i64 n2] 90))).trans fy
      clear d0 d1 fy
      simp only
      by_cases h1 : z ≤ last
      · have HN : Hid (R = false) := HF.out (.inl h1)
        go_wp2_with fail
        go_ret
        exact ⟨ret_bool HN.out.symm, hf2⟩
      · by_cases h2 : most < z
        · have HN : Hid (R = false) := HF.out (.inr h2)
          have h1' : last < z := by omega
          clear h1
          go_wp2_with fail
          go_ret
          exact ⟨ret_bool HN.out.symm, hf2⟩
        · have h1' : last < z := by omega
          have h2' : z ≤ most := by omega
          have HN : Hid (R = upFrom most z (xs.drop (k + 1))) := HY.out h1' h2'
          clear h1 h2
          go_wp2_with fail
          go_roundw
          case rel => exact ⟨k + 1, z, by omega, by go_num, rfl, HN, hf2⟩
          case measure => simp [intOf]; omega
    · have HN : Hid (R = true) := by
        have h1 := HR.out
        rw [List.drop_eq_nil_of_le (by rw [HX.out]; simp; omega)] at h1
        exact h1
      go_wp2_with fail
      go_ret
      exact ⟨ret_bool HN.out.symm, hf⟩

set_option maxHeartbeats 1000000 in
theorem risesC_any (ao : Option Addr) (n c : Nat) (es : List Ch) (most : Int) (w : World) (hn : es.length = n) (hl : es.length ≤ 1048576) (h : ReadsG layC w ao es) :
    Calls Tryz.prog 126 #[.slice ao n c, .func (.func 100) #[] #[], .int .i64 most] w fun e w' => e = .returned (.bool (upFrom most (-1) (es.map Ch.o))) ∧ Fr w w' := by
  subst hn
  obtain ⟨xs, hx⟩ : ∃ xs, xs = es.map Ch.o := ⟨_, rfl⟩
  have HX : Hid (xs = es.map Ch.o) := hx
  rw [← hx]
  clear hx
  obtain ⟨R, hR⟩ : ∃ R, R = upFrom most (-1) xs := ⟨_, rfl⟩
  rw [← hR]
  have HR : Hid (R = upFrom most (-1) xs) := hR
  clear hR
  go_enter Tryz.func126, Tryz.ntmps126
  go_wp2_with fail
  go_loopw [7, 13] (fun q i wr => ∃ (k : Nat) (last : Int), k ≤ es.length ∧ i = .int .i64 k ∧ q = .int .i64 last ∧ Hid (R = upFrom most last (xs.drop k)) ∧ Fr w wr) (fun _ i _ => es.length - (intOf i).toNat)
  case atStart => exact ⟨0, -1, Nat.zero_le _, rfl, rfl, HR, Fr.refl w⟩
  case round =>
    clear HR
    obtain ⟨k, last, hk, rfl, rfl, HR, hf⟩ := hrel
    by_cases hlt : k < es.length
    · obtain ⟨b, off, rfl, d0, d1, d2, d3, d4⟩ := ch_at (h.fr hf) k hlt
      have hlx : k < xs.length := by rw [HX.out]; simpa using hlt
      have hkz : xs[k] = es[k].o := by simp only [HX.out, List.getElem_map]
      have HY : Hid (last < es[k].o → es[k].o ≤ most → R = upFrom most es[k].o (xs.drop (k + 1))) := fun h1 h2 => HR.out.trans (by rw [← hkz] at h1 h2 ⊢; exact upFrom_yes hlx h1 h2)
      have HF : Hid (es[k].o ≤ last ∨ most < es[k].o → R = false) := fun h1 => HR.out.trans (by rw [← hkz] at h1; exact upFrom_no hlx h1)
      obtain ⟨e, he⟩ : ∃ e, e = es[k] := ⟨_, rfl⟩
      rw [← he] at HY HF
      simp only [← he] at d0 d1 d2 d3 d4
      clear he hkz hlx HR
      obtain ⟨z, cap, sent, got, cl⟩ := e
      simp only at d0 d1 d2 d3 d4 HY HF
      go_wp2_with fail
      refine (chanNumber_any ⟨z, cap, sent, got, cl⟩ _).mono ?_
      rintro e y ⟨rfl, fy⟩
      have hf2 := (hf.trans (Fr.alloc wr (.cells #[.int .i64 z, .int .i64 cap, .int .i64 sent, .int .i64 got, .bool cl] 87))).trans fy
      clear d0 d1 d2 d3 d4 fy
      simp only
      by_cases h1 : z ≤ last
      · have HN : Hid (R = false) := HF.out (.inl h1)
        go_wp2_with fail
        go_ret
        exact ⟨ret_bool HN.out.symm, hf2⟩
      · by_cases h2 : most < z
        · have HN : Hid (R = false) := HF.out (.inr h2)
          have h1' : last < z := by omega
          clear h1
          go_wp2_with fail
          go_ret
          exact ⟨ret_bool HN.out.symm, hf2⟩
        · have h1' : last < z := by omega
          have h2' : z ≤ most := by omega
          have HN : Hid (R = upFrom most z (xs.drop (k + 1))) := HY.out h1' h2'
          clear h1 h2
          go_wp2_with fail
          go_roundw
          case rel => exact ⟨k + 1, z, by omega, by go_num, rfl, HN, hf2⟩
          case measure => simp [intOf]; omega
    · have HN : Hid (R = true) := by
        have h1 := HR.out
        rw [List.drop_eq_nil_of_le (by rw [HX.out]; simp; omega)] at h1
        exact h1
      go_wp2_with fail
      go_ret
      exact ⟨ret_bool HN.out.symm, hf⟩

set_option maxHeartbeats 1000000 in
theorem risesL_any (ao : Option Addr) (n c : Nat) (es : List Lv) (most : Int) (w : World) (hn : es.length = n) (hl : es.length ≤ 1048576) (h : ReadsG layL w ao es) :
    Calls Tryz.prog 125 #[.slice ao n c, .func (.func 98) #[] #[], .int .i64 most] w fun e w' => e = .returned (.bool (upFrom most (-1) (es.map Lv.o))) ∧ Fr w w' := by
  subst hn
  obtain ⟨xs, hx⟩ : ∃ xs, xs = es.map Lv.o := ⟨_, rfl⟩
  have HX : Hid (xs = es.map Lv.o) := hx
  rw [← hx]
  clear hx
  obtain ⟨R, hR⟩ : ∃ R, R = upFrom most (-1) xs := ⟨_, rfl⟩
  rw [← hR]
  have HR : Hid (R = upFrom most (-1) xs) := hR
  clear hR
  go_enter Tryz.func125, Tryz.ntmps125
  go_wp2_with fail
  go_loopw [7, 13] (fun q i wr => ∃ (k : Nat) (last : Int), k ≤ es.length ∧ i = .int .i64 k ∧ q = .int .i64 last ∧ Hid (R = upFrom most last (xs.drop k)) ∧ Fr w wr) (fun _ i _ => es.length - (intOf i).toNat)
  case atStart => exact ⟨0, -1, Nat.zero_le _, rfl, rfl, HR, Fr.refl w⟩
  case round =>
    clear HR
    obtain ⟨k, last, hk, rfl, rfl, HR, hf⟩ := hrel
    by_cases hlt : k < es.length
    · obtain ⟨b, off, rfl, d0, d1, d2⟩ := lv_at (h.fr hf) k hlt
      have hlx : k < xs.length := by rw [HX.out]; simpa using hlt
      have hkz : xs[k] = es[k].o := by simp only [HX.out, List.getElem_map]
      have HY : Hid (last < es[k].o → es[k].o ≤ most → R = upFrom most es[k].o (xs.drop (k + 1))) := fun h1 h2 => HR.out.trans (by rw [← hkz] at h1 h2 ⊢; exact upFrom_yes hlx h1 h2)
      have HF : Hid (es[k].o ≤ last ∨ most < es[k].o → R = false) := fun h1 => HR.out.trans (by rw [← hkz] at h1; exact upFrom_no hlx h1)
      obtain ⟨e, he⟩ : ∃ e, e = es[k] := ⟨_, rfl⟩
      rw [← he] at HY HF
      simp only [← he] at d0 d1 d2
      clear he hkz hlx HR
      obtain ⟨z, wt, ro, rn, rc⟩ := e
      simp only at d0 d1 d2 HY HF
      go_wp2_with fail
      refine (lockNumber_any ⟨z, wt, ro, rn, rc⟩ _).mono ?_
      rintro e y ⟨rfl, fy⟩
      have hf2 := (hf.trans (Fr.alloc wr (.cells #[.int .i64 z, .int .i64 wt, .slice ro rn rc] 47))).trans fy
      clear d0 d1 d2 fy
      simp only
      by_cases h1 : z ≤ last
      · have HN : Hid (R = false) := HF.out (.inl h1)
        go_wp2_with fail
        go_ret
        exact ⟨ret_bool HN.out.symm, hf2⟩
      · by_cases h2 : most < z
        · have HN : Hid (R = false) := HF.out (.inr h2)
          have h1' : last < z := by omega
          clear h1
          go_wp2_with fail
          go_ret
          exact ⟨ret_bool HN.out.symm, hf2⟩
        · have h1' : last < z := by omega
          have h2' : z ≤ most := by omega
          have HN : Hid (R = upFrom most z (xs.drop (k + 1))) := HY.out h1' h2'
          clear h1 h2
          go_wp2_with fail
          go_roundw
          case rel => exact ⟨k + 1, z, by omega, by go_num, rfl, HN, hf2⟩
          case measure => simp [intOf]; omega
    · have HN : Hid (R = true) := by
        have h1 := HR.out
        rw [List.drop_eq_nil_of_le (by rw [HX.out]; simp; omega)] at h1
        exact h1
      go_wp2_with fail
      go_ret
      exact ⟨ret_bool HN.out.symm, hf⟩
end Go.Proofs.YtihdablgnmkjnaaGreatDoor
/-
  byNumber: a list's things in a map, by their numbers.
-/
namespace Go.Proofs.YtihdablgnmkjnaaGreatDoor
open Go.RowKit

/-- What the map holds. -/
def numF {α : Type} (num : α → Int) (val : α → Value) (xs : List α) : Int → Option Value := xs.foldl (fun f x => putM f (num x) (val x)) (fun _ => none)
theorem numF_snoc {α : Type} (num : α → Int) (val : α → Value) (xs : List α) (k : Nat) (hk : k < xs.length) : numF num val (xs.take (k + 1)) = putM (numF num val (xs.take k)) (num xs[k]) (val xs[k]) := by
  unfold numF
  rw [List.take_succ_eq_append_getElem hk, List.foldl_append]
  rfl

set_option maxHeartbeats 1000000 in
theorem byI_any (ao : Option Addr) (n c : Nat) (xs : List Int) (w : World) (hn : xs.length = n) (hl : xs.length ≤ 1048576) (h : Reads w ao xs) :
    Calls Tryz.prog 103 #[.slice ao n c, .func (.func 59) #[] #[]] w fun e w' => ∃ b, e = .returned (.map (some b)) ∧ w.heap.size ≤ b ∧ MapF w' b xs.length (numF id (fun x => .int .i64 x) xs) ∧ Fr w w' := by
  subst hn
  have hmk : ∀ u : World, Sem.run Tryz.prog (Instr.makeMap 139 none) u = .ok (.map (some u.heap.size)) (u.alloc (.map #[] 0)) := fun u => run_makeMap _ u
  go_enter Tryz.func103, Tryz.ntmps103
  go_wp2_with fail
  obtain ⟨B, hB⟩ : ∃ B, B = w.heap.size := ⟨_, rfl⟩
  have M0 := MapF.made w
  rw [← hB] at M0 ⊢
  have HB : Hid (w.heap.size ≤ B) := Nat.le_of_eq hB.symm
  clear hB
  go_loopw [11] (fun i wr => ∃ (k : Nat), k ≤ xs.length ∧ i = .int .i64 k ∧ MapF wr B k (numF id (fun x => .int .i64 x) (xs.take k)) ∧ Fr w wr) (fun i _ => xs.length - (intOf i).toNat)
  case atStart => exact ⟨0, Nat.zero_le _, rfl, by simpa [numF] using M0, Fr.alloc w _⟩
  case round =>
    clear M0
    obtain ⟨k, hk, rfl, M, hf⟩ := hrel
    by_cases hlt : k < xs.length
    · obtain ⟨b, off, rfl, hc⟩ := (h.fr hf).at_ k hlt
      have hck := hc k hlt
      rw [getD_at hlt] at hck
      have hz := h.bd xs[k] (List.getElem_mem hlt)
      have HS : Hid (numF id (fun x => .int .i64 x) (xs.take (k + 1)) = putM (numF id (fun x => .int .i64 x) (xs.take k)) xs[k] (.int .i64 xs[k])) := numF_snoc id (fun x => .int .i64 x) xs k hlt
      obtain ⟨F, hF⟩ : ∃ F, F = numF id (fun x => .int .i64 x) (xs.take k) := ⟨_, rfl⟩
      rw [← hF] at HS M
      clear hF
      obtain ⟨z, hzz⟩ : ∃ z, z = xs[k] := ⟨_, rfl⟩
      rw [← hzz] at hck HS hz
      clear hzz hc
      go_wp2_with fail
      refine (itself_any _ _).mono ?_
      rintro e y ⟨rfl, rfl⟩
      go_wp2_with (at_mapUpdate; refine wp_put rfl _ _ _ _ rfl Tryz.underlying139 B k F z (.int .i64 z) rfl rfl rfl M (by unfold maxLen; omega) hz ?_; intro w1 M1 g1)
      go_roundw
      case rel => exact ⟨k + 1, by omega, by go_num, by rw [HS.out]; exact M1, hf.then g1 (fun j hj => by cases hj; exact HB.out)⟩
      case measure => simp [intOf]; omega
    · have e : xs.take k = xs := List.take_of_length_le (by omega)
      have e2 : k = xs.length := by omega
      rw [e] at M
      have HM : Hid (MapF wr B xs.length (numF id (fun x => .int .i64 x) xs)) := by rw [e2] at M; exact M
      clear M e e2
      go_wp2_with fail
      go_ret
      exact ⟨B, rfl, HB.out, HM.out, hf⟩
set_option maxHeartbeats 1000000 in
theorem byN_any (ao : Option Addr) (n c : Nat) (xs : List Ct) (w : World) (hn : xs.length = n) (hl : xs.length ≤ 1048576) (h : ReadsG layN w ao xs) (hi : ∀ x ∈ xs, I64 x.o) :
    Calls Tryz.prog 101 #[.slice ao n c, .func (.func 102) #[] #[]] w fun e w' => ∃ b, e = .returned (.map (some b)) ∧ w.heap.size ≤ b ∧ MapF w' b xs.length (numF Ct.o (fun x => .agg #[.int .i64 x.o, .int .i64 x.n]) xs) ∧ Fr w w' := by
  subst hn
  have hmk : ∀ u : World, Sem.run Tryz.prog (Instr.makeMap 136 none) u = .ok (.map (some u.heap.size)) (u.alloc (.map #[] 0)) := fun u => run_makeMap _ u
  go_enter Tryz.func101, Tryz.ntmps101
  go_wp2_with fail
  obtain ⟨B, hB⟩ : ∃ B, B = w.heap.size := ⟨_, rfl⟩
  have M0 := MapF.made w
  rw [← hB] at M0 ⊢
  have HB : Hid (w.heap.size ≤ B) := Nat.le_of_eq hB.symm
  clear hB
  go_loopw [11] (fun i wr => ∃ (k : Nat), k ≤ xs.length ∧ i = .int .i64 k ∧ MapF wr B k (numF Ct.o (fun x => .agg #[.int .i64 x.o, .int .i64 x.n]) (xs.take k)) ∧ Fr w wr) (fun i _ => xs.length - (intOf i).toNat)
  case atStart => exact ⟨0, Nat.zero_le _, rfl, by simpa [numF] using M0, Fr.alloc w _⟩
  case round =>
    clear M0
    obtain ⟨k, hk, rfl, M, hf⟩ := hrel
    by_cases hlt : k < xs.length
    · obtain ⟨b, off, rfl, d0, d1⟩ := ct_at (h.fr hf) k hlt
      have hz := hi xs[k] (List.getElem_mem hlt)
      have HS : Hid (numF Ct.o (fun x => .agg #[.int .i64 x.o, .int .i64 x.n]) (xs.take (k + 1)) = putM (numF Ct.o (fun x => .agg #[.int .i64 x.o, .int .i64 x.n]) (xs.take k)) xs[k].o ((fun x => .agg #[.int .i64 x.o, .int .i64 x.n]) xs[k])) := numF_snoc Ct.o (fun x => .agg #[.int .i64 x.o, .int .i64 x.n]) xs k hlt
      obtain ⟨F, hF⟩ : ∃ F, F = numF Ct.o (fun x => .agg #[.int .i64 x.o, .int .i64 x.n]) (xs.take k) := ⟨_, rfl⟩
      rw [← hF] at HS M
      clear hF
      obtain ⟨e, he⟩ : ∃ e, e = xs[k] := ⟨_, rfl⟩
      rw [← he] at HS hz
      simp only [← he] at d0 d1
      clear he
      obtain ⟨z, n2⟩ := e
      simp only at d0 d1 HS hz
      have hne : ¬ (some wr.heap.size = some B) := fun q => by have := M.lt; simp only [Option.some.injEq] at q; omega
      have f1 := Fr.alloc wr (.cells #[.int .i64 z, .int .i64 n2] 90)
      have kC : ∀ u row, (wr.alloc (.cells #[.int .i64 z, .int .i64 n2] 90)).grownBy u row → ¬ (some wr.heap.size = row) → u.cell? ⟨wr.heap.size, 0, none⟩ = some (.int .i64 z) ∧ u.cell? ⟨wr.heap.size, 1, none⟩ = some (.int .i64 n2) := fun u row g q => ⟨g.cell (v := .int .i64 z) (by simp [go_sem]) q, g.cell (v := .int .i64 n2) (by simp [go_sem]) q⟩
      have M := M.fr f1
      have hf := hf.trans f1
      clear f1
      go_wp2_with fail
      obtain ⟨C, hC⟩ : ∃ C, C = wr.heap.size := ⟨_, rfl⟩
      obtain ⟨W, hW⟩ : ∃ W, W = wr.alloc (.cells #[.int .i64 z, .int .i64 n2] 90) := ⟨_, rfl⟩
      rw [← hC] at hne kC ⊢
      rw [← hW] at M hf kC ⊢
      clear hC hW d0 d1
      obtain ⟨y0, y1⟩ := kC W none (Fr.refl W) (by simp)
      go_region_held3 (fun u => u.cell? ⟨C, 0, none⟩ = some (.int .i64 z) ∧ u.cell? ⟨C, 1, none⟩ = some (.int .i64 n2)) (go_keep)
        (first | (go_at_call 102; refine (countNumber_any ⟨z, n2⟩ _).mono ?_; rintro x u3 ⟨rfl, f3⟩; have g3 := (Fr.drew W).trans f3; obtain ⟨p0, p1⟩ := kC u3 none g3 (by simp); obtain ⟨w1, hrun, M1, g1⟩ := (M.fr g3).put Tryz.underlying136 (by unfold maxLen; omega) hz (.agg #[.int .i64 z, .int .i64 n2]); obtain ⟨q0, q1⟩ := kC w1 (some B) (grown_trans g3.wide g1) hne))
      go_wp2_with fail
      go_roundw
      case rel => exact ⟨k + 1, by omega, by go_num, by rw [HS.out]; exact M1, (hf.trans g3).then g1 (fun j hj => by cases hj; exact HB.out)⟩
      case measure => simp [intOf]; omega
    · have e : xs.take k = xs := List.take_of_length_le (by omega)
      have e2 : k = xs.length := by omega
      rw [e] at M
      have HM : Hid (MapF wr B xs.length (numF Ct.o (fun x => .agg #[.int .i64 x.o, .int .i64 x.n]) xs)) := by rw [e2] at M; exact M
      clear M e e2
      go_wp2_with fail
      go_ret
      exact ⟨B, rfl, HB.out, HM.out, hf⟩

set_option maxHeartbeats 1000000 in
theorem byC_any (ao : Option Addr) (n c : Nat) (xs : List Ch) (w : World) (hn : xs.length = n) (hl : xs.length ≤ 1048576) (h : ReadsG layC w ao xs) (hi : ∀ x ∈ xs, I64 x.o) :
    Calls Tryz.prog 99 #[.slice ao n c, .func (.func 100) #[] #[]] w fun e w' => ∃ b, e = .returned (.map (some b)) ∧ w.heap.size ≤ b ∧ MapF w' b xs.length (numF Ch.o (fun x => .agg #[.int .i64 x.o, .int .i64 x.cap, .int .i64 x.sent, .int .i64 x.got, .bool x.cl]) xs) ∧ Fr w w' := by
  subst hn
  have hmk : ∀ u : World, Sem.run Tryz.prog (Instr.makeMap 133 none) u = .ok (.map (some u.heap.size)) (u.alloc (.map #[] 0)) := fun u => run_makeMap _ u
  go_enter Tryz.func99, Tryz.ntmps99
  go_wp2_with fail
  obtain ⟨B, hB⟩ : ∃ B, B = w.heap.size := ⟨_, rfl⟩
  have M0 := MapF.made w
  rw [← hB] at M0 ⊢
  have HB : Hid (w.heap.size ≤ B) := Nat.le_of_eq hB.symm
  clear hB
  go_loopw [11] (fun i wr => ∃ (k : Nat), k ≤ xs.length ∧ i = .int .i64 k ∧ MapF wr B k (numF Ch.o (fun x => .agg #[.int .i64 x.o, .int .i64 x.cap, .int .i64 x.sent, .int .i64 x.got, .bool x.cl]) (xs.take k)) ∧ Fr w wr) (fun i _ => xs.length - (intOf i).toNat)
  case atStart => exact ⟨0, Nat.zero_le _, rfl, by simpa [numF] using M0, Fr.alloc w _⟩
  case round =>
    clear M0
    obtain ⟨k, hk, rfl, M, hf⟩ := hrel
    by_cases hlt : k < xs.length
    · obtain ⟨b, off, rfl, d0, d1, d2, d3, d4⟩ := ch_at (h.fr hf) k hlt
      have hz := hi xs[k] (List.getElem_mem hlt)
      have HS : Hid (numF Ch.o (fun x => .agg #[.int .i64 x.o, .int .i64 x.cap, .int .i64 x.sent, .int .i64 x.got, .bool x.cl]) (xs.take (k + 1)) = putM (numF Ch.o (fun x => .agg #[.int .i64 x.o, .int .i64 x.cap, .int .i64 x.sent, .int .i64 x.got, .bool x.cl]) (xs.take k)) xs[k].o ((fun x => .agg #[.int .i64 x.o, .int .i64 x.cap, .int .i64 x.sent, .int .i64 x.got, .bool x.cl]) xs[k])) := numF_snoc Ch.o (fun x => .agg #[.int .i64 x.o, .int .i64 x.cap, .int .i64 x.sent, .int .i64 x.got, .bool x.cl]) xs k hlt
      obtain ⟨F, hF⟩ : ∃ F, F = numF Ch.o (fun x => .agg #[.int .i64 x.o, .int .i64 x.cap, .int .i64 x.sent, .int .i64 x.got, .bool x.cl]) (xs.take k) := ⟨_, rfl⟩
      rw [← hF] at HS M
      clear hF
      obtain ⟨e, he⟩ : ∃ e, e = xs[k] := ⟨_, rfl⟩
      rw [← he] at HS hz
      simp only [← he] at d0 d1 d2 d3 d4
      clear he
      obtain ⟨z, cap, sent, got, cl⟩ := e
      simp only at d0 d1 d2 d3 d4 HS hz
      have hne : ¬ (some wr.heap.size = some B) := fun q => by have := M.lt; simp only [Option.some.injEq] at q; omega
      have f1 := Fr.alloc wr (.cells #[.int .i64 z, .int .i64 cap, .int .i64 sent, .int .i64 got, .bool cl] 87)
      have kC : ∀ u row, (wr.alloc (.cells #[.int .i64 z, .int .i64 cap, .int .i64 sent, .int .i64 got, .bool cl] 87)).grownBy u row → ¬ (some wr.heap.size = row) → u.cell? ⟨wr.heap.size, 0, none⟩ = some (.int .i64 z) ∧ u.cell? ⟨wr.heap.size, 1, none⟩ = some (.int .i64 cap) ∧ u.cell? ⟨wr.heap.size, 2, none⟩ = some (.int .i64 sent) ∧ u.cell? ⟨wr.heap.size, 3, none⟩ = some (.int .i64 got) ∧ u.cell? ⟨wr.heap.size, 4, none⟩ = some (.bool cl) := fun u row g q => ⟨g.cell (v := .int .i64 z) (by simp [go_sem]) q, g.cell (v := .int .i64 cap) (by simp [go_sem]) q, g.cell (v := .int .i64 sent) (by simp [go_sem]) q, g.cell (v := .int .i64 got) (by simp [go_sem]) q, g.cell (v := .bool cl) (by simp [go_sem]) q⟩
      have M := M.fr f1
      have hf := hf.trans f1
      clear f1
      go_wp2_with fail
      obtain ⟨C, hC⟩ : ∃ C, C = wr.heap.size := ⟨_, rfl⟩
      obtain ⟨W, hW⟩ : ∃ W, W = wr.alloc (.cells #[.int .i64 z, .int .i64 cap, .int .i64 sent, .int .i64 got, .bool cl] 87) := ⟨_, rfl⟩
      rw [← hC] at hne kC ⊢
      rw [← hW] at M hf kC ⊢
      clear hC hW d0 d1 d2 d3 d4
      obtain ⟨y0, y1, y2, y3, y4⟩ := kC W none (Fr.refl W) (by simp)
      go_region_held3 (fun u => u.cell? ⟨C, 0, none⟩ = some (.int .i64 z) ∧ u.cell? ⟨C, 1, none⟩ = some (.int .i64 cap) ∧ u.cell? ⟨C, 2, none⟩ = some (.int .i64 sent) ∧ u.cell? ⟨C, 3, none⟩ = some (.int .i64 got) ∧ u.cell? ⟨C, 4, none⟩ = some (.bool cl)) (go_keep)
        (first | (go_at_call 100; refine (chanNumber_any ⟨z, cap, sent, got, cl⟩ _).mono ?_; rintro x u3 ⟨rfl, f3⟩; have g3 := (Fr.drew W).trans f3; obtain ⟨p0, p1, p2, p3, p4⟩ := kC u3 none g3 (by simp); obtain ⟨w1, hrun, M1, g1⟩ := (M.fr g3).put Tryz.underlying133 (by unfold maxLen; omega) hz (.agg #[.int .i64 z, .int .i64 cap, .int .i64 sent, .int .i64 got, .bool cl]); obtain ⟨q0, q1, q2, q3, q4⟩ := kC w1 (some B) (grown_trans g3.wide g1) hne))
      go_wp2_with fail
      go_roundw
      case rel => exact ⟨k + 1, by omega, by go_num, by rw [HS.out]; exact M1, (hf.trans g3).then g1 (fun j hj => by cases hj; exact HB.out)⟩
      case measure => simp [intOf]; omega
    · have e : xs.take k = xs := List.take_of_length_le (by omega)
      have e2 : k = xs.length := by omega
      rw [e] at M
      have HM : Hid (MapF wr B xs.length (numF Ch.o (fun x => .agg #[.int .i64 x.o, .int .i64 x.cap, .int .i64 x.sent, .int .i64 x.got, .bool x.cl]) xs)) := by rw [e2] at M; exact M
      clear M e e2
      go_wp2_with fail
      go_ret
      exact ⟨B, rfl, HB.out, HM.out, hf⟩

set_option maxHeartbeats 1000000 in
theorem byL_any (ao : Option Addr) (n c : Nat) (xs : List Lv) (w : World) (hn : xs.length = n) (hl : xs.length ≤ 1048576) (h : ReadsG layL w ao xs) (hi : ∀ x ∈ xs, I64 x.o) :
    Calls Tryz.prog 97 #[.slice ao n c, .func (.func 98) #[] #[]] w fun e w' => ∃ b, e = .returned (.map (some b)) ∧ w.heap.size ≤ b ∧ MapF w' b xs.length (numF Lv.o (fun x => .agg #[.int .i64 x.o, .int .i64 x.wr, .slice x.ro x.rn x.rc]) xs) ∧ Fr w w' := by
  subst hn
  have hmk : ∀ u : World, Sem.run Tryz.prog (Instr.makeMap 130 none) u = .ok (.map (some u.heap.size)) (u.alloc (.map #[] 0)) := fun u => run_makeMap _ u
  go_enter Tryz.func97, Tryz.ntmps97
  go_wp2_with fail
  obtain ⟨B, hB⟩ : ∃ B, B = w.heap.size := ⟨_, rfl⟩
  have M0 := MapF.made w
  rw [← hB] at M0 ⊢
  have HB : Hid (w.heap.size ≤ B) := Nat.le_of_eq hB.symm
  clear hB
  go_loopw [11] (fun i wr => ∃ (k : Nat), k ≤ xs.length ∧ i = .int .i64 k ∧ MapF wr B k (numF Lv.o (fun x => .agg #[.int .i64 x.o, .int .i64 x.wr, .slice x.ro x.rn x.rc]) (xs.take k)) ∧ Fr w wr) (fun i _ => xs.length - (intOf i).toNat)
  case atStart => exact ⟨0, Nat.zero_le _, rfl, by simpa [numF] using M0, Fr.alloc w _⟩
  case round =>
    clear M0
    obtain ⟨k, hk, rfl, M, hf⟩ := hrel
    by_cases hlt : k < xs.length
    · obtain ⟨b, off, rfl, d0, d1, d2⟩ := lv_at (h.fr hf) k hlt
      have hz := hi xs[k] (List.getElem_mem hlt)
      have HS : Hid (numF Lv.o (fun x => .agg #[.int .i64 x.o, .int .i64 x.wr, .slice x.ro x.rn x.rc]) (xs.take (k + 1)) = putM (numF Lv.o (fun x => .agg #[.int .i64 x.o, .int .i64 x.wr, .slice x.ro x.rn x.rc]) (xs.take k)) xs[k].o ((fun x => .agg #[.int .i64 x.o, .int .i64 x.wr, .slice x.ro x.rn x.rc]) xs[k])) := numF_snoc Lv.o (fun x => .agg #[.int .i64 x.o, .int .i64 x.wr, .slice x.ro x.rn x.rc]) xs k hlt
      obtain ⟨F, hF⟩ : ∃ F, F = numF Lv.o (fun x => .agg #[.int .i64 x.o, .int .i64 x.wr, .slice x.ro x.rn x.rc]) (xs.take k) := ⟨_, rfl⟩
      rw [← hF] at HS M
      clear hF
      obtain ⟨e, he⟩ : ∃ e, e = xs[k] := ⟨_, rfl⟩
      rw [← he] at HS hz
      simp only [← he] at d0 d1 d2
      clear he
      obtain ⟨z, wr2, ro, rn, rc⟩ := e
      simp only at d0 d1 d2 HS hz
      have hne : ¬ (some wr.heap.size = some B) := fun q => by have := M.lt; simp only [Option.some.injEq] at q; omega
      have f1 := Fr.alloc wr (.cells #[.int .i64 z, .int .i64 wr2, .slice ro rn rc] 47)
      have kC : ∀ u row, (wr.alloc (.cells #[.int .i64 z, .int .i64 wr2, .slice ro rn rc] 47)).grownBy u row → ¬ (some wr.heap.size = row) → u.cell? ⟨wr.heap.size, 0, none⟩ = some (.int .i64 z) ∧ u.cell? ⟨wr.heap.size, 1, none⟩ = some (.int .i64 wr2) ∧ u.cell? ⟨wr.heap.size, 2, none⟩ = some (.slice ro rn rc) := fun u row g q => ⟨g.cell (v := .int .i64 z) (by simp [go_sem]) q, g.cell (v := .int .i64 wr2) (by simp [go_sem]) q, g.cell (v := .slice ro rn rc) (by simp [go_sem]) q⟩
      have M := M.fr f1
      have hf := hf.trans f1
      clear f1
      go_wp2_with fail
      obtain ⟨C, hC⟩ : ∃ C, C = wr.heap.size := ⟨_, rfl⟩
      obtain ⟨W, hW⟩ : ∃ W, W = wr.alloc (.cells #[.int .i64 z, .int .i64 wr2, .slice ro rn rc] 47) := ⟨_, rfl⟩
      rw [← hC] at hne kC ⊢
      rw [← hW] at M hf kC ⊢
      clear hC hW d0 d1 d2
      obtain ⟨y0, y1, y2⟩ := kC W none (Fr.refl W) (by simp)
      go_region_held3 (fun u => u.cell? ⟨C, 0, none⟩ = some (.int .i64 z) ∧ u.cell? ⟨C, 1, none⟩ = some (.int .i64 wr2) ∧ u.cell? ⟨C, 2, none⟩ = some (.slice ro rn rc)) (go_keep)
        (first | (go_at_call 98; refine (lockNumber_any ⟨z, wr2, ro, rn, rc⟩ _).mono ?_; rintro x u3 ⟨rfl, f3⟩; have g3 := (Fr.drew W).trans f3; obtain ⟨p0, p1, p2⟩ := kC u3 none g3 (by simp); obtain ⟨w1, hrun, M1, g1⟩ := (M.fr g3).put Tryz.underlying130 (by unfold maxLen; omega) hz (.agg #[.int .i64 z, .int .i64 wr2, .slice ro rn rc]); obtain ⟨q0, q1, q2⟩ := kC w1 (some B) (grown_trans g3.wide g1) hne))
      go_wp2_with fail
      go_roundw
      case rel => exact ⟨k + 1, by omega, by go_num, by rw [HS.out]; exact M1, (hf.trans g3).then g1 (fun j hj => by cases hj; exact HB.out)⟩
      case measure => simp [intOf]; omega
    · have e : xs.take k = xs := List.take_of_length_le (by omega)
      have e2 : k = xs.length := by omega
      rw [e] at M
      have HM : Hid (MapF wr B xs.length (numF Lv.o (fun x => .agg #[.int .i64 x.o, .int .i64 x.wr, .slice x.ro x.rn x.rc]) xs)) := by rw [e2] at M; exact M
      clear M e e2
      go_wp2_with fail
      go_ret
      exact ⟨B, rfl, HB.out, HM.out, hf⟩
end Go.Proofs.YtihdablgnmkjnaaGreatDoor
/-
  boardOf: a scene's board.
-/
namespace Go.Proofs.YtihdablgnmkjnaaGreatDoor
open Go.RowKit

def valL (x : Lv) : Value := .agg #[.int .i64 x.o, .int .i64 x.wr, .slice x.ro x.rn x.rc]
def valC (x : Ch) : Value := .agg #[.int .i64 x.o, .int .i64 x.cap, .int .i64 x.sent, .int .i64 x.got, .bool x.cl]
def valN (x : Ct) : Value := .agg #[.int .i64 x.o, .int .i64 x.n]
def valI (x : Int) : Value := .int .i64 x

/-- Block b is a board: the goroutines' number, four maps. -/
structure Board (w : World) (b : Nat) (g : Int) (b1 b2 b3 b4 n1 n2 n3 n4 : Nat) (fl fc fn fo : Int → Option Value) : Prop where
  row : w.heap[b]? = some (.cells #[.int .i64 g, .map (some b1), .map (some b2), .map (some b3), .map (some b4)] 142 (0, 0))
  c0 : w.cell? ⟨b, 0, none⟩ = some (.int .i64 g)
  c1 : w.cell? ⟨b, 1, none⟩ = some (.map (some b1))
  c2 : w.cell? ⟨b, 2, none⟩ = some (.map (some b2))
  c3 : w.cell? ⟨b, 3, none⟩ = some (.map (some b3))
  c4 : w.cell? ⟨b, 4, none⟩ = some (.map (some b4))
  m1 : MapF w b1 n1 fl
  m2 : MapF w b2 n2 fc
  m3 : MapF w b3 n3 fn
  m4 : MapF w b4 n4 fo
theorem Board.fr {w w' : World} {b : Nat} {g : Int} {b1 b2 b3 b4 n1 n2 n3 n4 : Nat} {fl fc fn fo : Int → Option Value} (h : Board w b g b1 b2 b3 b4 n1 n2 n3 n4 fl fc fn fo) (k : Fr w w') : Board w' b g b1 b2 b3 b4 n1 n2 n3 n4 fl fc fn fo :=
  ⟨(k.block b (Array.getElem?_eq_some_iff.1 h.row).1 (by simp)).trans h.row, k.cell h.c0, k.cell h.c1, k.cell h.c2, k.cell h.c3, k.cell h.c4, h.m1.fr k, h.m2.fr k, h.m3.fr k, h.m4.fr k⟩

set_option maxHeartbeats 2000000 in
theorem boardOf_any {B : Nat → Prop} (s : Sv) (m : Scn) (lvs : List Lv) (w : World) (h : ScR B w s m) (r1 : ReadsG layL w s.lo lvs) (e1 : s.ll = lvs.length) (l1 : LksR B w lvs m.ls) :
    Calls Tryz.prog 40 #[.agg #[.int .i64 s.g, .slice s.lo s.ll s.lc, .slice s.co s.cl s.cc, .slice s.no s.nl s.nc, .slice s.oo s.ol s.oc]] w fun e w' => ∃ b b1 b2 b3 b4, e = .returned (.pointer (some ⟨b, 0, none⟩)) ∧ (w.heap.size ≤ b1 ∧ b1 < b2 ∧ b2 < b3 ∧ b3 < b4 ∧ b4 < b) ∧ Board w' b m.g b1 b2 b3 b4 lvs.length m.cs.length m.gs.length m.os.length (numF Lv.o valL lvs) (numF Ch.o valC m.cs) (numF Ct.o valN m.gs) (numF id valI m.os) ∧ Fr w w' := by
  have fW := Fr.alloc w (.cells #[.int .i64 s.g, .slice s.lo s.ll s.lc, .slice s.co s.cl s.cc, .slice s.no s.nl s.nc, .slice s.oo s.ol s.oc] 29)
  have k1 := ScK.new w s
  have hl1 : lvs.length ≤ 1048576 := by rw [l1.len]; exact h.sl
  have cL := fun u (f : Fr w u) => byL_any s.lo s.ll s.lc lvs u e1.symm hl1 (r1.fr f) (fun x hx => by
    obtain ⟨j, hj, rfl⟩ := List.mem_iff_getElem.1 hx
    have q := l1.at_ j hj (by rw [← l1.len]; exact hj)
    rw [q.o]; exact q.io)
  have cC := fun u (f : Fr w u) => byC_any s.co s.cl s.cc m.cs u h.cl.symm h.sc (h.chs.fr f) (fun x hx => (h.ic x hx).1)
  have cN := fun u (f : Fr w u) => byN_any s.no s.nl s.nc m.gs u h.nl.symm h.sn (h.cts.fr f) (fun x hx => (h.inn x hx).1)
  have cO := fun u (f : Fr w u) => byI_any s.oo s.ol s.oc m.os u h.ol.symm h.so (h.ons.fr f)
  have HG : Hid (s.g = m.g) := h.g
  have eL : numF Lv.o (fun x => .agg #[.int .i64 x.o, .int .i64 x.wr, .slice x.ro x.rn x.rc]) lvs = numF Lv.o valL lvs := rfl
  have eC : numF Ch.o (fun x => .agg #[.int .i64 x.o, .int .i64 x.cap, .int .i64 x.sent, .int .i64 x.got, .bool x.cl]) m.cs = numF Ch.o valC m.cs := rfl
  have eN : numF Ct.o (fun x => .agg #[.int .i64 x.o, .int .i64 x.n]) m.gs = numF Ct.o valN m.gs := rfl
  have eO : numF id (fun x => .int .i64 x) m.os = numF id valI m.os := rfl
  simp only [eL] at cL
  simp only [eC] at cC
  simp only [eN] at cN
  simp only [eO] at cO
  clear eL eC eN eO
  obtain ⟨FL, hFL⟩ : ∃ F, F = numF Lv.o valL lvs := ⟨_, rfl⟩
  obtain ⟨FC, hFC⟩ : ∃ F, F = numF Ch.o valC m.cs := ⟨_, rfl⟩
  obtain ⟨FN, hFN⟩ : ∃ F, F = numF Ct.o valN m.gs := ⟨_, rfl⟩
  obtain ⟨FO, hFO⟩ : ∃ F, F = numF id valI m.os := ⟨_, rfl⟩
  obtain ⟨N1, hN1⟩ : ∃ F, F = lvs.length := ⟨_, rfl⟩
  obtain ⟨N2, hN2⟩ : ∃ F, F = m.cs.length := ⟨_, rfl⟩
  obtain ⟨N3, hN3⟩ : ∃ F, F = m.gs.length := ⟨_, rfl⟩
  obtain ⟨N4, hN4⟩ : ∃ F, F = m.os.length := ⟨_, rfl⟩
  simp only [← hFL, ← hN1] at cL ⊢
  simp only [← hFC, ← hN2] at cC ⊢
  simp only [← hFN, ← hN3] at cN ⊢
  simp only [← hFO, ← hN4] at cO ⊢
  rw [← HG.out]
  clear hFL hFC hFN hFO hN1 hN2 hN3 hN4 h r1 e1 l1 hl1 HG
  obtain ⟨sg, lo, ll, lc, co, cl, cc, no, nl, nc, oo, ol, oc⟩ := s
  simp only at fW k1 cL cC cN cO ⊢
  go_enter Tryz.func40, Tryz.ntmps40
  go_wp2_with fail
  obtain ⟨W, hW⟩ : ∃ W, W = w.alloc (.cells #[.int .i64 sg, .slice lo ll lc, .slice co cl cc, .slice no nl nc, .slice oo ol oc] 29) := ⟨_, rfl⟩
  rw [← hW] at fW k1 ⊢
  clear hW
  have HQ : Hid (∀ u, Fr W u → ScB u w.heap.size ⟨sg, lo, ll, lc, co, cl, cc, no, nl, nc, oo, ol, oc⟩) := fun u f => (k1.fr f).at
  have fD : Fr w W.drew := fW.trans (Fr.drew W)
  obtain ⟨s0, s1, s2, s3, s4⟩ := k1.at
  simp only at s0 s1 s2 s3 s4
  clear k1
  go_region_held3 (fun u => u.cell? ⟨w.heap.size, 0, none⟩ = some (.int .i64 sg) ∧ u.cell? ⟨w.heap.size, 1, none⟩ = some (.slice lo ll lc) ∧ u.cell? ⟨w.heap.size, 2, none⟩ = some (.slice co cl cc) ∧ u.cell? ⟨w.heap.size, 3, none⟩ = some (.slice no nl nc) ∧ u.cell? ⟨w.heap.size, 4, none⟩ = some (.slice oo ol oc)) (go_keep)
    (first | (go_at_call 97; refine (cL _ fD).mono ?_; rintro x u1 ⟨b1, rfl, z1, M1, f1⟩; have g1 := (Fr.drew W).trans f1; obtain ⟨p0, p1, p2, p3, p4⟩ := HQ.out _ g1; simp only at p0 p1 p2 p3 p4) | (go_at_call 99; refine (cC _ (fW.trans g1)).mono ?_; rintro x u2 ⟨b2, rfl, z2, M2, f2⟩; have g2 := g1.trans f2; obtain ⟨q0, q1, q2, q3, q4⟩ := HQ.out _ g2; simp only at q0 q1 q2 q3 q4) | (go_at_call 101; refine (cN _ (fW.trans g2)).mono ?_; rintro x u3 ⟨b3, rfl, z3, M3, f3⟩; have g3 := g2.trans f3; obtain ⟨t0, t1, t2, t3, t4⟩ := HQ.out _ g3; simp only at t0 t1 t2 t3 t4) | (go_at_call 103; refine (cO _ (fW.trans g3)).mono ?_; rintro x u4 ⟨b4, rfl, z4, M4, f4⟩; have g4 := g3.trans f4; obtain ⟨v0, v1, v2, v3, v4⟩ := HQ.out _ g4; simp only at v0 v1 v2 v3 v4))
  go_wp2_with fail
  go_ret
  have fE := Fr.alloc u4 (.cells #[.int .i64 sg, .map (some b1), .map (some b2), .map (some b3), .map (some b4)] 142)
  have y1 := fD.size
  have y2 := f1.size
  have y3 := f2.size
  have y4 := f3.size
  have y5 := f4.size
  have y6 := M1.lt
  have y7 := M2.lt
  have y8 := M3.lt
  have y9 := M4.lt
  exact ⟨u4.heap.size, b1, b2, b3, b4, rfl, ⟨by omega, by omega, by omega, by omega, by omega⟩, { row := heap_alloc_new u4 _, c0 := by simp [go_sem], c1 := by simp [go_sem], c2 := by simp [go_sem], c3 := by simp [go_sem], c4 := by simp [go_sem], m1 := M1.fr (f2.trans (f3.trans (f4.trans fE))), m2 := M2.fr (f3.trans (f4.trans fE)), m3 := M3.fr (f4.trans fE), m4 := M4.fr fE }, (fW.trans g4).trans fE⟩
end Go.Proofs.YtihdablgnmkjnaaGreatDoor
/-
  What a map by numbers holds.
-/
namespace Go.Proofs.YtihdablgnmkjnaaGreatDoor
open Go.RowKit

theorem numF_fold {α : Type} (num : α → Int) (val : α → Value) (o : Int) : ∀ (xs : List α) (f : Int → Option Value), (xs.foldl (fun f x => putM f (num x) (val x)) f) o = ((xs.reverse.find? (fun x => num x == o)).map val).or (f o)
  | [], f => rfl
  | x :: xs, f => by
    rw [List.foldl_cons, numF_fold num val o xs, List.reverse_cons, List.find?_append]
    cases h : xs.reverse.find? (fun x => num x == o) with
    | some y => rfl
    | none =>
      by_cases e : num x = o
      · simp [putM, e]
      · have e2 : ¬ o = num x := fun q => e q.symm
        simp [putM, e, e2]
theorem numF_at {α : Type} (num : α → Int) (val : α → Value) (xs : List α) (o : Int) : numF num val xs o = (xs.reverse.find? (fun x => num x == o)).map val := by
  rw [numF, numF_fold]
  simp
/-- Where no two have one number, the last is the first. -/
theorem find_rev {α : Type} (num : α → Int) (o : Int) (xs : List α) (h : xs.Pairwise (fun a b => num a < num b)) : xs.reverse.find? (fun x => num x == o) = xs.find? (fun x => num x == o) := by
  induction xs with
  | nil => rfl
  | cons x xs ih =>
    obtain ⟨h1, h2⟩ := List.pairwise_cons.1 h
    rw [List.reverse_cons, List.find?_append, ih h2, List.find?_cons]
    by_cases e : num x = o
    · have : xs.find? (fun x => num x == o) = none := List.find?_eq_none.2 fun y hy => by
        have := h1 y hy
        simp
        omega
      simp [this, e]
    · have e2 : (num x == o) = false := by simpa using e
      simp [e2]
theorem numF_up {α : Type} (num : α → Int) (val : α → Value) (xs : List α) (o : Int) (h : xs.Pairwise (fun a b => num a < num b)) : numF num val xs o = (xs.find? (fun x => num x == o)).map val := by
  rw [numF_at, find_rev num o xs h]
/-- Numbers that rise are apart. -/
theorem up_pair {α : Type} (num : α → Int) (most : Int) : ∀ (xs : List α) (last : Int), upFrom most last (xs.map num) = true → (∀ x ∈ xs, last < num x) ∧ xs.Pairwise (fun a b => num a < num b)
  | [], _, _ => ⟨by simp, List.Pairwise.nil⟩
  | x :: xs, last, h => by
    rw [List.map_cons, upFrom] at h
    simp only [Bool.and_eq_true, decide_eq_true_eq] at h
    obtain ⟨⟨h1, _⟩, h3⟩ := h
    obtain ⟨i1, i2⟩ := up_pair num most xs (num x) h3
    refine ⟨fun y hy => ?_, List.pairwise_cons.2 ⟨i1, i2⟩⟩
    rcases List.mem_cons.1 hy with rfl | hy
    · exact h1
    · have := i1 y hy
      omega
end Go.Proofs.YtihdablgnmkjnaaGreatDoor
/-
  The program's locksOk, chansOk, groupsOk and SceneOk.
-/
namespace Go.Proofs.YtihdablgnmkjnaaGreatDoor
open Go.RowKit

/-- A lock as the program asks: a writer and no readers, or readers that rise and no writer. -/
def lk2 (g : Int) (l : Lk) : Bool := (decide (l.rd.length = 0) && inB 0 (g - 1) l.wr) || (decide (0 < l.rd.length) && (l.wr == -1) && upFrom (g - 1) (-1) l.rd)
def ch2 (c : Ch) : Bool := inB 0 8 c.cap && inB 0 1000000 c.sent && inB 0 c.sent c.got && decide (c.sent - c.got ≤ c.cap)
theorem all_take {α : Type} {p : α → Bool} {xs : List α} (h : ∀ j (hj : j < xs.length), p xs[j] = true) : xs.all p = true := by
  rw [List.all_eq_true]
  intro x hx
  obtain ⟨j, hj, rfl⟩ := List.mem_iff_getElem.1 hx
  exact h j hj
theorem all_bad {α : Type} {p : α → Bool} {xs : List α} {k : Nat} (hk : k < xs.length) (h : p xs[k] = false) : xs.all p = false := by
  rw [List.all_eq_false]
  exact ⟨xs[k], List.getElem_mem hk, by simp [h]⟩
theorem upto_good {α : Type} {p : α → Bool} {xs : List α} {k : Nat} (h : ∀ j (hj : j < xs.length), j < k → p xs[j] = true) (hk : k < xs.length) (he : p xs[k] = true) : ∀ j (hj : j < xs.length), j < k + 1 → p xs[j] = true := by
  intro j hj hjk
  by_cases e : j = k
  · subst e; exact he
  · exact h j hj (by omega)

set_option maxHeartbeats 1000000 in
theorem groupsOk_any (ao : Option Addr) (n c : Nat) (es : List Ct) (w : World) (hn : es.length = n) (hl : es.length ≤ 1048576) (h : ReadsG layN w ao es) :
    Calls Tryz.prog 57 #[.slice ao n c] w fun e w' => e = .returned (.bool (es.all (fun c => inB 1 1000000 c.n) && upFrom 15 (-1) (es.map Ct.o))) ∧ Fr w w' := by
  subst hn
  have cR := fun u (f : Fr w u) => risesN_any ao es.length c es 15 u rfl hl (h.fr f)
  obtain ⟨U, hU⟩ : ∃ U, U = upFrom 15 (-1) (es.map Ct.o) := ⟨_, rfl⟩
  simp only [← hU] at cR ⊢
  clear hU
  obtain ⟨R, hR⟩ : ∃ R, R = (es.all (fun c => inB 1 1000000 c.n) && U) := ⟨_, rfl⟩
  rw [← hR]
  have HR : Hid (R = (es.all (fun c => inB 1 1000000 c.n) && U)) := hR
  clear hR
  go_enter Tryz.func57, Tryz.ntmps57
  go_wp2_with fail
  go_loopw [7] (fun i wr => ∃ k : Nat, k ≤ es.length ∧ i = .int .i64 k ∧ Hid (∀ j (hj : j < es.length), j < k → inB 1 1000000 es[j].n = true) ∧ Fr w wr) (fun i _ => es.length - (intOf i).toNat)
  case atStart => exact ⟨0, Nat.zero_le _, rfl, fun j hj hk => by omega, Fr.refl w⟩
  case round =>
    obtain ⟨k, hk, rfl, HA, hf⟩ := hrel
    by_cases hlt : k < es.length
    · obtain ⟨b, off, rfl, d0, d1⟩ := ct_at (h.fr hf) k hlt
      have HB : Hid (inB 1 1000000 es[k].n = false → R = false) := fun q => by rw [HR.out, all_bad (p := fun c : Ct => inB 1 1000000 c.n) hlt q]; rfl
      have HG : Hid (inB 1 1000000 es[k].n = true → ∀ j (hj : j < es.length), j < k + 1 → inB 1 1000000 es[j].n = true) := fun q => upto_good (p := fun c : Ct => inB 1 1000000 c.n) HA.out hlt q
      obtain ⟨e, he⟩ : ∃ e, e = es[k] := ⟨_, rfl⟩
      rw [← he] at HB HG
      simp only [← he] at d0 d1
      clear he
      obtain ⟨eo, en⟩ := e
      simp only at d0 d1 HB HG
      have f2 := hf.trans (Fr.alloc wr (.cells #[.int .i64 eo, .int .i64 en] 90))
      go_wp2_with fail
      refine (within_any _ _ _ _).mono ?_
      rintro e y ⟨rfl, rfl⟩
      clear d0 d1
      cases hg : inB 1 1000000 en
      · have HN : Hid (R = false) := HB.out hg
        go_wp2_with fail
        go_ret
        exact ⟨ret_bool HN.out.symm, f2⟩
      · have HN : Hid (∀ j (hj : j < es.length), j < k + 1 → inB 1 1000000 es[j].n = true) := HG.out hg
        go_wp2_with fail
        go_roundw
        case rel => exact ⟨k + 1, by omega, by go_num, HN, f2⟩
        case measure => simp [intOf]; omega
    · have HN : Hid (U = R) := by
        show U = R
        rw [HR.out, all_take (p := fun c : Ct => inB 1 1000000 c.n) (fun j hj => HA.out j hj (by omega))]; rfl
      go_wp2_with fail
      refine (cR _ hf).mono ?_
      rintro e y ⟨rfl, fy⟩
      go_wp2_with fail
      go_ret
      exact ⟨ret_bool HN.out, hf.trans fy⟩

set_option maxHeartbeats 2000000 in
theorem chansOk_any (ao : Option Addr) (n c : Nat) (es : List Ch) (w : World) (hn : es.length = n) (hl : es.length ≤ 1048576) (h : ReadsG layC w ao es) :
    Calls Tryz.prog 56 #[.slice ao n c] w fun e w' => e = .returned (.bool (es.all ch2 && upFrom 15 (-1) (es.map Ch.o))) ∧ Fr w w' := by
  subst hn
  have cR := fun u (f : Fr w u) => risesC_any ao es.length c es 15 u rfl hl (h.fr f)
  obtain ⟨U, hU⟩ : ∃ U, U = upFrom 15 (-1) (es.map Ch.o) := ⟨_, rfl⟩
  simp only [← hU] at cR ⊢
  clear hU
  obtain ⟨R, hR⟩ : ∃ R, R = (es.all ch2 && U) := ⟨_, rfl⟩
  rw [← hR]
  have HR : Hid (R = (es.all ch2 && U)) := hR
  clear hR
  go_enter Tryz.func56, Tryz.ntmps56
  go_wp2_with fail
  go_loopw [7] (fun i wr => ∃ k : Nat, k ≤ es.length ∧ i = .int .i64 k ∧ Hid (∀ j (hj : j < es.length), j < k → ch2 es[j] = true) ∧ Fr w wr) (fun i _ => es.length - (intOf i).toNat)
  case atStart => exact ⟨0, Nat.zero_le _, rfl, fun j hj hk => by omega, Fr.refl w⟩
  case round =>
    obtain ⟨k, hk, rfl, HA, hf⟩ := hrel
    by_cases hlt : k < es.length
    · obtain ⟨b, off, rfl, d0, d1, d2, d3, d4⟩ := ch_at (h.fr hf) k hlt
      have HB : Hid (ch2 es[k] = false → R = false) := fun q => by rw [HR.out, all_bad hlt q]; rfl
      have HG : Hid (ch2 es[k] = true → ∀ j (hj : j < es.length), j < k + 1 → ch2 es[j] = true) := fun q => upto_good HA.out hlt q
      obtain ⟨e, he⟩ : ∃ e, e = es[k] := ⟨_, rfl⟩
      rw [← he] at HB HG
      simp only [← he] at d0 d1 d2 d3 d4
      clear he
      obtain ⟨eo, ec, es1, eg, el⟩ := e
      simp only at d0 d1 d2 d3 d4
      unfold ch2 at HB HG
      simp only at HB HG
      have f2 := hf.trans (Fr.alloc wr (.cells #[.int .i64 eo, .int .i64 ec, .int .i64 es1, .int .i64 eg, .bool el] 87))
      go_wp2_with fail
      refine (within_any _ _ _ _).mono ?_
      rintro e y ⟨rfl, rfl⟩
      clear d0 d1 d2 d3 d4
      cases h1 : inB 0 8 ec
      · have HN : Hid (R = false) := HB.out (by rw [h1]; rfl)
        go_wp2_with fail
        go_ret
        exact ⟨ret_bool HN.out.symm, f2⟩
      go_wp2_with fail
      refine (within_any _ _ _ _).mono ?_
      rintro e y ⟨rfl, rfl⟩
      cases h2 : inB 0 1000000 es1
      · have HN : Hid (R = false) := HB.out (by rw [h1, h2]; rfl)
        go_wp2_with fail
        go_ret
        exact ⟨ret_bool HN.out.symm, f2⟩
      go_wp2_with fail
      refine (within_any _ _ _ _).mono ?_
      rintro e y ⟨rfl, rfl⟩
      cases h3 : inB 0 es1 eg
      · have HN : Hid (R = false) := HB.out (by rw [h1, h2, h3]; rfl)
        go_wp2_with fail
        go_ret
        exact ⟨ret_bool HN.out.symm, f2⟩
      have b1 := inB_true h1
      have b2 := inB_true h2
      have b3 := inB_true h3
      have hwr : IntKind.i64.wrap (es1 - eg) = es1 - eg := by rw [IntKind.wrap_i64]; omega
      by_cases h4 : es1 - eg ≤ ec
      · have HN : Hid (∀ j (hj : j < es.length), j < k + 1 → ch2 es[j] = true) := HG.out (by rw [h1, h2, h3, decide_eq_true h4]; rfl)
        have hd : decide (ec < es1 - eg) = false := decide_eq_false (by omega)
        clear HB HG b1 b2 b3
        go_wp2_with fail
        go_roundw
        case rel => exact ⟨k + 1, by omega, by go_num, HN, f2⟩
        case measure => simp [intOf]; omega
      · have HN : Hid (R = false) := HB.out (by rw [h1, h2, h3, decide_eq_false h4]; rfl)
        have hd : decide (ec < es1 - eg) = true := decide_eq_true (by omega)
        have h4' : ec < es1 - eg := by omega
        clear HB HG b1 b2 b3 h4
        go_wp2_with fail
        go_ret
        exact ⟨ret_bool HN.out.symm, f2⟩
    · have HN : Hid (U = R) := by
        show U = R
        rw [HR.out, all_take (p := ch2) (fun j hj => HA.out j hj (by omega))]; rfl
      go_wp2_with fail
      refine (cR _ hf).mono ?_
      rintro e y ⟨rfl, fy⟩
      go_wp2_with fail
      go_ret
      exact ⟨ret_bool HN.out, hf.trans fy⟩
end Go.Proofs.YtihdablgnmkjnaaGreatDoor
