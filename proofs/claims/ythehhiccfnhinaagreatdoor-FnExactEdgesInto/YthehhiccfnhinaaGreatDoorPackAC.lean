/-
  Marks in lists of channels and of counts: written, and held.
-/
import Derived.Test.YthehhiccfnhinaaGreatDoorPackAB
import Derived.Test.YthehhiccfnhinaaGreatDoorPackAA
import Derived.Shelf.Spec.TrailingZeros
import Derived.BigRegion
import Derived.Laws.Bits128
namespace Go.Proofs.YthehhiccfnhinaaGreatDoor
open Go.RowKit

/-- One cell of one element is written. -/
theorem reads_cell {α : Type} {L : Lay α} {w : World} {g k q : Nat} {xs : List α} {e : α} {v : Value} (h : ReadsG L w (some ⟨g, 0, none⟩) xs) (hk : k < xs.length) (hq : q < L.sz) (he : L.cs e = (L.cs xs[k]).set q v) :
    ReadsG L (w.setCell ⟨g, k * L.sz + q, none⟩ v) (some ⟨g, 0, none⟩) (xs.set k e) := by
  refine ⟨by simpa using h.len, fun i hi => ⟨g, 0, rfl, fun j hj r hr => ?_⟩⟩
  obtain ⟨b, off, e0, hc⟩ := h.at_ k hk
  simp only [Option.some.injEq, Addr.mk.injEq, and_true] at e0
  obtain ⟨rfl, rfl⟩ := e0
  have hj' : j < xs.length := by simpa using hj
  have h0 := hc j hj' r hr
  have hlen := L.len xs[k]
  rw [Nat.zero_add] at h0 ⊢
  by_cases hjk : j = k
  · subst hjk
    rw [List.getElem_set_self, he]
    by_cases hrq : r = q
    · subst hrq
      have hs : (w.cell? ⟨g, j * L.sz + r, none⟩).isSome = true := by rw [h0, List.getElem?_eq_getElem (by omega)]; rfl
      rw [World.cell?_setCell_same' _ _ _ hs, List.getElem?_set_self (by omega)]
    · have hne : (⟨g, j * L.sz + q, none⟩ : Addr) ≠ ⟨g, j * L.sz + r, none⟩ := fun e => hrq (by injection e; omega)
      rw [World.cell?_setCell_other _ _ _ _ hne, h0, List.getElem?_set_ne (fun q2 => hrq q2.symm)]
  · have hmul : j * L.sz + r ≠ k * L.sz + q := by
      intro e1
      have p1 : (j * L.sz + r) / L.sz = j := by rw [Nat.mul_comm, Nat.mul_add_div L.pos, Nat.div_eq_of_lt hr, Nat.add_zero]
      have p2 : (k * L.sz + q) / L.sz = k := by rw [Nat.mul_comm, Nat.mul_add_div L.pos, Nat.div_eq_of_lt hq, Nat.add_zero]
      rw [e1, p2] at p1
      exact hjk p1.symm
    have hne : (⟨g, k * L.sz + q, none⟩ : Addr) ≠ ⟨g, j * L.sz + r, none⟩ := fun e => hmul (by injection e; omega)
    rw [World.cell?_setCell_other _ _ _ _ hne, h0, List.getElem_set_ne (fun e => hjk e.symm)]
theorem set_mid {α : Type} (A : List α) (x e : α) (B : List α) (k : Nat) (hk : A.length = k) : (A ++ x :: B).set k e = A ++ [e] ++ B := by
  subst hk
  simp
/-- The block is a row of cells. -/
def RowAt (w : World) (g : Nat) (T : TypeId) : Prop := ∃ cur, w.heap[g]? = some (.cells cur T (0, 0))
theorem RowAt.free {w : World} {g : Nat} {T : TypeId} (h : RowAt w g T) (i : Nat) : w.frozen? ⟨g, i, none⟩ = false := by
  obtain ⟨cur, hc⟩ := h
  exact frozen_of_row w g i _ _ hc
theorem RowAt.set {w : World} {g : Nat} {T : TypeId} (h : RowAt w g T) (i : Nat) (v : Value) : RowAt (w.setCell ⟨g, i, none⟩ v) g T := by
  obtain ⟨cur, hc⟩ := h
  exact ⟨_, heap_setCell_same w g i _ _ v hc⟩

/-- The marked counts. -/
def upN (q : Int) : Ct := ⟨q, q + 1⟩
def mkN (q : Int) (n : Nat) : List Ct := (List.range n).map fun i : Nat => upN (q + 2 * (i : Int))
theorem mkN_length (q : Int) (n : Nat) : (mkN q n).length = n := by simp [mkN]
theorem mkN_succ (q : Int) (n : Nat) : mkN q (n + 1) = mkN q n ++ [upN (q + 2 * (n : Int))] := by simp [mkN, List.range_succ]
theorem mkN_at (q : Int) (n j : Nat) (h : j < (mkN q n).length) : (mkN q n)[j] = upN (q + 2 * (j : Int)) := by simp [mkN]

set_option maxRecDepth 20000 in
set_option maxHeartbeats 1000000 in
theorem markN_any (g n cap : Nat) (q : Int) (xs : List Ct) (w : World) (hn : xs.length = n) (hl : n ≤ 1048576) (q0 : 0 ≤ q) (q1 : q ≤ 4294967296) (h : ReadsG layN w (some ⟨g, 0, none⟩) xs) (hr : RowAt w g 88) :
    Calls Tryz.prog 95 #[.slice (some ⟨g, 0, none⟩) n cap, .int .i64 q] w fun e w' => e = .returned (.int .i64 (q + 2 * (n : Int))) ∧ ReadsG layN w' (some ⟨g, 0, none⟩) (mkN q n) ∧ RowAt w' g 88 ∧ w.grownBy w' (some g) := by
  subst hn
  go_enter Tryz.func95, Tryz.ntmps95
  go_wp2_with fail
  go_loopw [1, 5] (fun c i wr => ∃ k : Nat, k ≤ xs.length ∧ i = .int .i64 k ∧ c = .int .i64 (q + 2 * (k : Int)) ∧ ReadsG layN wr (some ⟨g, 0, none⟩) (mkN q k ++ xs.drop k) ∧ RowAt wr g 88 ∧ w.grownBy wr (some g)) (fun _ i _ => xs.length - (intOf i).toNat)
  case atStart => exact ⟨0, Nat.zero_le _, rfl, by simp, by simpa [mkN] using h, hr, ⟨rfl, rfl, rfl, Nat.le_refl _, fun _ _ _ => rfl⟩⟩
  case round =>
    obtain ⟨k, hk, rfl, rfl, hR, hrw, hf⟩ := hrel
    by_cases hlt : k < xs.length
    · have hkl : k < (mkN q k ++ xs.drop k).length := by rw [List.length_append, mkN_length]; simp; omega
      obtain ⟨b, off, e0, d0, d1⟩ := ct_at hR k hkl
      simp only [Option.some.injEq, Addr.mk.injEq, and_true] at e0
      obtain ⟨rfl, rfl⟩ := e0
      simp only [Nat.zero_add] at d0 d1
      have z0 := hrw.free (k * 2)
      have z1 := hrw.free (k * 2 + 1)
      have HS : Hid (ReadsG layN ((wr.setCell ⟨g, k * 2, none⟩ (.int .i64 (q + 2 * (k : Int)))).setCell ⟨g, k * 2 + 1, none⟩ (.int .i64 (q + 2 * (k : Int) + 1))) (some ⟨g, 0, none⟩) (mkN q (k + 1) ++ xs.drop (k + 1))) := by
        have h1 := reads_cell (L := layN) (q := 0) (e := ⟨q + 2 * (k : Int), (mkN q k ++ xs.drop k)[k].n⟩) (v := .int .i64 (q + 2 * (k : Int))) hR hkl (by decide) rfl
        have hkl2 : k < ((mkN q k ++ xs.drop k).set k ⟨q + 2 * (k : Int), (mkN q k ++ xs.drop k)[k].n⟩).length := by simpa using hkl
        have h2 := reads_cell (L := layN) (q := 1) (e := upN (q + 2 * (k : Int))) (v := .int .i64 (q + 2 * (k : Int) + 1)) h1 hkl2 (by decide) (by rw [List.getElem_set_self]; rfl)
        rw [List.set_set, List.drop_eq_getElem_cons hlt, set_mid _ _ _ _ _ (mkN_length q k), ← mkN_succ] at h2
        exact h2
      have HR : Hid (RowAt ((wr.setCell ⟨g, k * 2, none⟩ (.int .i64 (q + 2 * (k : Int)))).setCell ⟨g, k * 2 + 1, none⟩ (.int .i64 (q + 2 * (k : Int) + 1))) g 88 ∧ w.grownBy ((wr.setCell ⟨g, k * 2, none⟩ (.int .i64 (q + 2 * (k : Int)))).setCell ⟨g, k * 2 + 1, none⟩ (.int .i64 (q + 2 * (k : Int) + 1))) (some g)) := ⟨(hrw.set _ _).set _ _, grown_trans hf (grown_trans (grown_set _ _ _ _) (grown_set _ _ _ _))⟩
      have hi : (k : Int) < xs.length := by omega
      have hw1 : IntKind.i64.wrap (q + 2 * (k : Int) + 1) = q + 2 * (k : Int) + 1 := by rw [IntKind.wrap_i64]; omega
      clear hR hrw hf
      go_wp2_with fail
      go_roundw
      case rel => exact ⟨k + 1, by omega, by go_num, by go_num, HS.out, HR.out.1, HR.out.2⟩
      case measure => simp [intOf]; omega
    · have e : k = xs.length := by omega
      subst e
      rw [List.drop_length, List.append_nil] at hR
      go_wp2_with fail
      go_ret
      exact ⟨rfl, hR, hrw, hf⟩

set_option maxHeartbeats 1000000 in
theorem heldN_any (ao : Option Addr) (n cap : Nat) (q : Int) (w : World) (hl : n ≤ 1048576) (q0 : 0 ≤ q) (q1 : q ≤ 4294967296) (h : ReadsG layN w ao (mkN q n)) :
    Calls Tryz.prog 98 #[.slice ao n cap, .int .i64 q] w fun e w' => e = .returned (.int .i64 (q + 2 * (n : Int))) ∧ w' = w := by
  go_enter Tryz.func98, Tryz.ntmps98
  go_wp2_with fail
  go_loop [1, 5] (fun c i => ∃ k : Nat, k ≤ n ∧ i = .int .i64 k ∧ c = .int .i64 (q + 2 * (k : Int))) (fun _ i => n - (intOf i).toNat)
  case atStart => exact ⟨0, Nat.zero_le _, rfl, by simp⟩
  case round =>
    obtain ⟨k, hk, rfl, rfl⟩ := hrel
    by_cases hlt : k < n
    · have hkl : k < (mkN q n).length := by rw [mkN_length]; exact hlt
      obtain ⟨b, off, rfl, d0, d1⟩ := ct_at h k hkl
      rw [mkN_at] at d0 d1
      simp only [upN] at d0 d1
      have hi : (k : Int) < n := by omega
      have hb0 : (q + 2 * (k : Int) != q + 2 * (k : Int)) = false := by simp
      have hb1 : (q + 2 * (k : Int) + 1 != q + 2 * (k : Int) + 1) = false := by simp
      have hw1 : IntKind.i64.wrap (q + 2 * (k : Int) + 1) = q + 2 * (k : Int) + 1 := by rw [IntKind.wrap_i64]; omega
      go_wp2_with fail
      go_round
      case rel => exact ⟨k + 1, by omega, by go_num, by go_num⟩
      case measure => simp [intOf]; omega
    · have e : k = n := by omega
      subst e
      go_wp2_with fail
      go_ret
      exact ⟨rfl, rfl⟩
end Go.Proofs.YthehhiccfnhinaaGreatDoor
/-
  The program's small words on scenes: within, the numbers of things, risesTo.
-/
namespace Go.Proofs.YthehhiccfnhinaaGreatDoor
open Go.RowKit

theorem within_any (x lo hi : Int) (w : World) :
    Calls Tryz.prog 63 #[.int .i64 x, .int .i64 lo, .int .i64 hi] w fun e w' => e = .returned (.bool (inB lo hi x)) ∧ w' = w := by
  by_cases h : lo ≤ x
  · by_cases h2 : x ≤ hi
    · rw [inB_mk h h2]
      go_enter Tryz.func63, Tryz.ntmps63
      go_wp2
      go_ret
      exact ⟨rfl, rfl⟩
    · rw [inB_not (by omega)]
      go_enter Tryz.func63, Tryz.ntmps63
      go_wp2
      go_ret
      exact ⟨rfl, rfl⟩
  · rw [inB_not (by omega)]
    go_enter Tryz.func63, Tryz.ntmps63
    go_wp2
    go_ret
    exact ⟨rfl, rfl⟩
theorem itself_any (x : Int) (w : World) :
    Calls Tryz.prog 68 #[.int .i64 x] w fun e w' => e = .returned (.int .i64 x) ∧ w' = w := by
  go_enter Tryz.func68, Tryz.ntmps68
  go_wp2
  go_ret
  exact ⟨rfl, rfl⟩
theorem lockNumber_any (l : Lv) (w : World) :
    Calls Tryz.prog 108 #[.agg #[.int .i64 l.o, .int .i64 l.wr, .slice l.ro l.rn l.rc]] w fun e w' => e = .returned (.int .i64 l.o) ∧ Fr w w' := by
  obtain ⟨o, wr, ro, rn, rc⟩ := l
  simp only
  go_enter Tryz.func108, Tryz.ntmps108
  go_wp2
  go_ret
  exact ⟨rfl, Fr.alloc _ _⟩
theorem chanNumber_any (l : Ch) (w : World) :
    Calls Tryz.prog 110 #[.agg #[.int .i64 l.o, .int .i64 l.cap, .int .i64 l.sent, .int .i64 l.got, .bool l.cl]] w fun e w' => e = .returned (.int .i64 l.o) ∧ Fr w w' := by
  obtain ⟨o, cap, sent, got, cl⟩ := l
  simp only
  go_enter Tryz.func110, Tryz.ntmps110
  go_wp2
  go_ret
  exact ⟨rfl, Fr.alloc _ _⟩
theorem countNumber_any (l : Ct) (w : World) :
    Calls Tryz.prog 112 #[.agg #[.int .i64 l.o, .int .i64 l.n]] w fun e w' => e = .returned (.int .i64 l.o) ∧ Fr w w' := by
  obtain ⟨o, n⟩ := l
  simp only
  go_enter Tryz.func112, Tryz.ntmps112
  go_wp2
  go_ret
  exact ⟨rfl, Fr.alloc _ _⟩

/-- Do the numbers rise from last on, up to most? -/
def upFrom (most : Int) : Int → List Int → Bool
  | _, [] => true
  | last, x :: xs => decide (last < x) && decide (x ≤ most) && upFrom most x xs
theorem upFrom_yes {most last : Int} {xs : List Int} {k : Nat} (hk : k < xs.length) (h1 : last < xs[k]) (h2 : xs[k] ≤ most) : upFrom most last (xs.drop k) = upFrom most xs[k] (xs.drop (k + 1)) := by
  rw [List.drop_eq_getElem_cons hk, upFrom, decide_eq_true h1, decide_eq_true h2]
  rfl
theorem upFrom_no {most last : Int} {xs : List Int} {k : Nat} (hk : k < xs.length) (h : xs[k] ≤ last ∨ most < xs[k]) : upFrom most last (xs.drop k) = false := by
  rw [List.drop_eq_getElem_cons hk, upFrom]
  rcases h with h | h
  · rw [decide_eq_false (by omega)]; rfl
  · rw [decide_eq_false (show ¬ xs[k] ≤ most by omega), Bool.and_false, Bool.false_and]

set_option maxHeartbeats 1000000 in
theorem risesI_any (ao : Option Addr) (n c : Nat) (xs : List Int) (most : Int) (w : World) (hn : xs.length = n) (hl : xs.length ≤ 1048576) (h : Reads w ao xs) :
    Calls Tryz.prog 67 #[.slice ao n c, .func (.func 68) #[] #[], .int .i64 most] w fun e w' => e = .returned (.bool (upFrom most (-1) xs)) ∧ w' = w := by
  subst hn
  obtain ⟨R, hR⟩ : ∃ R, R = upFrom most (-1) xs := ⟨_, rfl⟩
  rw [← hR]
  have HR : Hid (R = upFrom most (-1) xs) := hR
  clear hR
  go_enter Tryz.func67, Tryz.ntmps67
  go_wp2_with fail
  go_loopw [7, 13] (fun q i wr => ∃ (k : Nat) (last : Int), k ≤ xs.length ∧ i = .int .i64 k ∧ q = .int .i64 last ∧ Hid (R = upFrom most last (xs.drop k)) ∧ wr = w) (fun _ i _ => xs.length - (intOf i).toNat)
  case atStart => exact ⟨0, -1, Nat.zero_le _, rfl, rfl, HR, rfl⟩
  case round =>
    clear HR
    obtain ⟨k, last, hk, rfl, rfl, HR, rfl⟩ := hrel
    by_cases hlt : k < xs.length
    · obtain ⟨b, off, rfl, hc⟩ := h.at_ k hlt
      have hck := hc k hlt
      rw [getD_at hlt] at hck
      have HY : Hid (last < xs[k] → xs[k] ≤ most → R = upFrom most xs[k] (xs.drop (k + 1))) := fun h1 h2 => HR.out.trans (upFrom_yes hlt h1 h2)
      have HF : Hid (xs[k] ≤ last ∨ most < xs[k] → R = false) := fun h1 => HR.out.trans (upFrom_no hlt h1)
      obtain ⟨z, hz⟩ : ∃ z, z = xs[k] := ⟨_, rfl⟩
      rw [← hz] at hck HY HF
      clear hz hc HR
      go_wp2_with fail
      refine (itself_any _ _).mono ?_
      rintro e y ⟨rfl, rfl⟩
      by_cases h1 : z ≤ last
      · have HN : Hid (R = false) := HF.out (.inl h1)
        go_wp2_with fail
        go_ret
        exact ⟨ret_bool HN.out.symm, rfl⟩
      · by_cases h2 : most < z
        · have HN : Hid (R = false) := HF.out (.inr h2)
          have h1' : last < z := by omega
          clear h1
          go_wp2_with fail
          go_ret
          exact ⟨ret_bool HN.out.symm, rfl⟩
        · have h1' : last < z := by omega
          have h2' : z ≤ most := by omega
          have HN : Hid (R = upFrom most z (xs.drop (k + 1))) := HY.out h1' h2'
          clear h1 h2
          go_wp2_with fail
          go_roundw
          case rel => exact ⟨k + 1, z, by omega, by go_num, rfl, HN, trivial⟩
          case measure => simp [intOf]; omega
    · have HN : Hid (R = true) := by
        have h1 := HR.out
        rw [List.drop_eq_nil_of_le (by omega)] at h1
        exact h1
      go_wp2_with fail
      go_ret
      exact ⟨ret_bool HN.out.symm, rfl⟩

set_option maxHeartbeats 1000000 in
theorem risesN_any (ao : Option Addr) (n c : Nat) (es : List Ct) (most : Int) (w : World) (hn : es.length = n) (hl : es.length ≤ 1048576) (h : ReadsG layN w ao es) :
    Calls Tryz.prog 138 #[.slice ao n c, .func (.func 112) #[] #[], .int .i64 most] w fun e w' => e = .returned (.bool (upFrom most (-1) (es.map Ct.o))) ∧ Fr w w' := by
  subst hn
  obtain ⟨xs, hx⟩ : ∃ xs, xs = es.map Ct.o := ⟨_, rfl⟩
  have HX : Hid (xs = es.map Ct.o) := hx
  rw [← hx]
  clear hx
  obtain ⟨R, hR⟩ : ∃ R, R = upFrom most (-1) xs := ⟨_, rfl⟩
  rw [← hR]
  have HR : Hid (R = upFrom most (-1) xs) := hR
  clear hR
  go_enter Tryz.func138, Tryz.ntmps138
  go_wp2_with fail
  go_loopw [7, 13] (fun q i wr => ∃ (k : Nat) (last : Int), k ≤ es.length ∧ i = .int .i64 k ∧ q = .int .i64 last ∧ Hid (R = upFrom most last (xs.drop k)) ∧ Fr w wr) (fun _ i _ => es.length - (intOf i).toNat)
  case atStart => exact ⟨0, -1, Nat.zero_le _, rfl, rfl, HR, Fr.refl w⟩
  case round =>
    clear HR
    obtain ⟨k, last, hk, rfl, rfl, HR, hf⟩ := hrel
    by_cases hlt : k < es.length
    · obtain ⟨b, off, rfl, d0, d1⟩ := ct_at (h.fr hf) k hlt
      have hlx : k < xs.length := by rw [HX.out]; simpa using hlt
      have hkz : xs[k] = es[k].o := by simp only [HX.out, List.getElem_map]
      have HY : Hid (last < es[k].o → es[k].o ≤ most → R = upFrom most es[k].o (xs.drop (k + 1))) := fun h1 h2 => HR.out.trans (by rw [← hkz] at h1 h2 ⊢; exact upFrom_yes hlx h1 h2)
      have HF : Hid (es[k].o ≤ last ∨ most < es[k].o → R = false) := fun h1 => HR.out.trans (by rw [← hkz] at h1; exact upFrom_no hlx h1)
      obtain ⟨e, he⟩ : ∃ e, e = es[k] := ⟨_, rfl⟩
      rw [← he] at HY HF
      simp only [← he] at d0 d1
      clear he hkz hlx HR
      obtain ⟨z, n2⟩ := e
      simp only at d0 d1 HY HF
      go_wp2_with fail
      refine (countNumber_any ⟨z, n2⟩ _).mono ?_
      rintro e y ⟨rfl, fy⟩
      have hf2 := (hf.trans (Fr.alloc wr (.cells #[.int .i64 z, .int .i64 n2] 88))).trans fy
      clear d0 d1 fy
      simp only
      by_cases h1 : z ≤ last
      · have HN : Hid (R = false) := HF.out (.inl h1)
        go_wp2_with fail
        go_ret
        exact ⟨ret_bool HN.out.symm, hf2⟩
      · by_cases h2 : most < z
        · have HN : Hid (R = false) := HF.out (.inr h2)
          have h1' : last < z := by omega
          clear h1
          go_wp2_with fail
          go_ret
          exact ⟨ret_bool HN.out.symm, hf2⟩
        · have h1' : last < z := by omega
          have h2' : z ≤ most := by omega
          have HN : Hid (R = upFrom most z (xs.drop (k + 1))) := HY.out h1' h2'
          clear h1 h2
          go_wp2_with fail
          go_roundw
          case rel => exact ⟨k + 1, z, by omega, by go_num, rfl, HN, hf2⟩
          case measure => simp [intOf]; omega
    · have HN : Hid (R = true) := by
        have h1 := HR.out
        rw [List.drop_eq_nil_of_le (by rw [HX.out]; simp; omega)] at h1
        exact h1
      go_wp2_with fail
      go_ret
      exact ⟨ret_bool HN.out.symm, hf⟩

set_option maxHeartbeats 1000000 in
theorem risesC_any (ao : Option Addr) (n c : Nat) (es : List Ch) (most : Int) (w : World) (hn : es.length = n) (hl : es.length ≤ 1048576) (h : ReadsG layC w ao es) :
    Calls Tryz.prog 137 #[.slice ao n c, .func (.func 110) #[] #[], .int .i64 most] w fun e w' => e = .returned (.bool (upFrom most (-1) (es.map Ch.o))) ∧ Fr w w' := by
  subst hn
  obtain ⟨xs, hx⟩ : ∃ xs, xs = es.map Ch.o := ⟨_, rfl⟩
  have HX : Hid (xs = es.map Ch.o) := hx
  rw [← hx]
  clear hx
  obtain ⟨R, hR⟩ : ∃ R, R = upFrom most (-1) xs := ⟨_, rfl⟩
  rw [← hR]
  have HR : Hid (R = upFrom most (-1) xs) := hR
  clear hR
  go_enter Tryz.func137, Tryz.ntmps137
  go_wp2_with fail
  go_loopw [7, 13] (fun q i wr => ∃ (k : Nat) (last : Int), k ≤ es.length ∧ i = .int .i64 k ∧ q = .int .i64 last ∧ Hid (R = upFrom most last (xs.drop k)) ∧ Fr w wr) (fun _ i _ => es.length - (intOf i).toNat)
  case atStart => exact ⟨0, -1, Nat.zero_le _, rfl, rfl, HR, Fr.refl w⟩
  case round =>
    clear HR
    obtain ⟨k, last, hk, rfl, rfl, HR, hf⟩ := hrel
    by_cases hlt : k < es.length
    · obtain ⟨b, off, rfl, d0, d1, d2, d3, d4⟩ := ch_at (h.fr hf) k hlt
      have hlx : k < xs.length := by rw [HX.out]; simpa using hlt
      have hkz : xs[k] = es[k].o := by simp only [HX.out, List.getElem_map]
      have HY : Hid (last < es[k].o → es[k].o ≤ most → R = upFrom most es[k].o (xs.drop (k + 1))) := fun h1 h2 => HR.out.trans (by rw [← hkz] at h1 h2 ⊢; exact upFrom_yes hlx h1 h2)
      have HF : Hid (es[k].o ≤ last ∨ most < es[k].o → R = false) := fun h1 => HR.out.trans (by rw [← hkz] at h1; exact upFrom_no hlx h1)
      obtain ⟨e, he⟩ : ∃ e, e = es[k] := ⟨_, rfl⟩
      rw [← he] at HY HF
      simp only [← he] at d0 d1 d2 d3 d4
      clear he hkz hlx HR
      obtain ⟨z, cap, sent, got, cl⟩ := e
      simp only at d0 d1 d2 d3 d4 HY HF
      go_wp2_with fail
      refine (chanNumber_any ⟨z, cap, sent, got, cl⟩ _).mono ?_
      rintro e y ⟨rfl, fy⟩
      have hf2 := (hf.trans (Fr.alloc wr (.cells #[.int .i64 z, .int .i64 cap, .int .i64 sent, .int .i64 got, .bool cl] 85))).trans fy
      clear d0 d1 d2 d3 d4 fy
      simp only
      by_cases h1 : z ≤ last
      · have HN : Hid (R = false) := HF.out (.inl h1)
        go_wp2_with fail
        go_ret
        exact ⟨ret_bool HN.out.symm, hf2⟩
      · by_cases h2 : most < z
        · have HN : Hid (R = false) := HF.out (.inr h2)
          have h1' : last < z := by omega
          clear h1
          go_wp2_with fail
          go_ret
          exact ⟨ret_bool HN.out.symm, hf2⟩
        · have h1' : last < z := by omega
          have h2' : z ≤ most := by omega
          have HN : Hid (R = upFrom most z (xs.drop (k + 1))) := HY.out h1' h2'
          clear h1 h2
          go_wp2_with fail
          go_roundw
          case rel => exact ⟨k + 1, z, by omega, by go_num, rfl, HN, hf2⟩
          case measure => simp [intOf]; omega
    · have HN : Hid (R = true) := by
        have h1 := HR.out
        rw [List.drop_eq_nil_of_le (by rw [HX.out]; simp; omega)] at h1
        exact h1
      go_wp2_with fail
      go_ret
      exact ⟨ret_bool HN.out.symm, hf⟩

set_option maxHeartbeats 1000000 in
theorem risesL_any (ao : Option Addr) (n c : Nat) (es : List Lv) (most : Int) (w : World) (hn : es.length = n) (hl : es.length ≤ 1048576) (h : ReadsG layL w ao es) :
    Calls Tryz.prog 136 #[.slice ao n c, .func (.func 108) #[] #[], .int .i64 most] w fun e w' => e = .returned (.bool (upFrom most (-1) (es.map Lv.o))) ∧ Fr w w' := by
  subst hn
  obtain ⟨xs, hx⟩ : ∃ xs, xs = es.map Lv.o := ⟨_, rfl⟩
  have HX : Hid (xs = es.map Lv.o) := hx
  rw [← hx]
  clear hx
  obtain ⟨R, hR⟩ : ∃ R, R = upFrom most (-1) xs := ⟨_, rfl⟩
  rw [← hR]
  have HR : Hid (R = upFrom most (-1) xs) := hR
  clear hR
  go_enter Tryz.func136, Tryz.ntmps136
  go_wp2_with fail
  go_loopw [7, 13] (fun q i wr => ∃ (k : Nat) (last : Int), k ≤ es.length ∧ i = .int .i64 k ∧ q = .int .i64 last ∧ Hid (R = upFrom most last (xs.drop k)) ∧ Fr w wr) (fun _ i _ => es.length - (intOf i).toNat)
  case atStart => exact ⟨0, -1, Nat.zero_le _, rfl, rfl, HR, Fr.refl w⟩
  case round =>
    clear HR
    obtain ⟨k, last, hk, rfl, rfl, HR, hf⟩ := hrel
    by_cases hlt : k < es.length
    · obtain ⟨b, off, rfl, d0, d1, d2⟩ := lv_at (h.fr hf) k hlt
      have hlx : k < xs.length := by rw [HX.out]; simpa using hlt
      have hkz : xs[k] = es[k].o := by simp only [HX.out, List.getElem_map]
      have HY : Hid (last < es[k].o → es[k].o ≤ most → R = upFrom most es[k].o (xs.drop (k + 1))) := fun h1 h2 => HR.out.trans (by rw [← hkz] at h1 h2 ⊢; exact upFrom_yes hlx h1 h2)
      have HF : Hid (es[k].o ≤ last ∨ most < es[k].o → R = false) := fun h1 => HR.out.trans (by rw [← hkz] at h1; exact upFrom_no hlx h1)
      obtain ⟨e, he⟩ : ∃ e, e = es[k] := ⟨_, rfl⟩
      rw [← he] at HY HF
      simp only [← he] at d0 d1 d2
      clear he hkz hlx HR
      obtain ⟨z, wt, ro, rn, rc⟩ := e
      simp only at d0 d1 d2 HY HF
      go_wp2_with fail
      refine (lockNumber_any ⟨z, wt, ro, rn, rc⟩ _).mono ?_
      rintro e y ⟨rfl, fy⟩
      have hf2 := (hf.trans (Fr.alloc wr (.cells #[.int .i64 z, .int .i64 wt, .slice ro rn rc] 82))).trans fy
      clear d0 d1 d2 fy
      simp only
      by_cases h1 : z ≤ last
      · have HN : Hid (R = false) := HF.out (.inl h1)
        go_wp2_with fail
        go_ret
        exact ⟨ret_bool HN.out.symm, hf2⟩
      · by_cases h2 : most < z
        · have HN : Hid (R = false) := HF.out (.inr h2)
          have h1' : last < z := by omega
          clear h1
          go_wp2_with fail
          go_ret
          exact ⟨ret_bool HN.out.symm, hf2⟩
        · have h1' : last < z := by omega
          have h2' : z ≤ most := by omega
          have HN : Hid (R = upFrom most z (xs.drop (k + 1))) := HY.out h1' h2'
          clear h1 h2
          go_wp2_with fail
          go_roundw
          case rel => exact ⟨k + 1, z, by omega, by go_num, rfl, HN, hf2⟩
          case measure => simp [intOf]; omega
    · have HN : Hid (R = true) := by
        have h1 := HR.out
        rw [List.drop_eq_nil_of_le (by rw [HX.out]; simp; omega)] at h1
        exact h1
      go_wp2_with fail
      go_ret
      exact ⟨ret_bool HN.out.symm, hf⟩
end Go.Proofs.YthehhiccfnhinaaGreatDoor
/-
  Sets of places: the program's placeSet, function by function.
-/
namespace Go.Proofs.YthehhiccfnhinaaGreatDoor
open Go.RowKit

theorem and_nat (a b : Nat) (ha : a < 18446744073709551616) (hb : b < 18446744073709551616) : bits .and .u64 (a : Int) (b : Int) = ((a &&& b : Nat) : Int) := bits_and_u64_nat a b ha hb

set_option maxHeartbeats 1000000 in
theorem ones_any (x : Nat) (hx : x < 18446744073709551616) (w : World) :
    Calls Tryz.prog 147 #[.int .u64 x] w fun e w' => e = .returned (.int .i64 (popW x)) ∧ w' = w := by
  obtain ⟨x1, x2, x3, h1, l1, h2, l2, l2b, h3, x4, x5, x6, h4, l4, h5, l5, h6, l6, h7⟩ := pop_steps x hx
  have wr : ∀ n : Nat, n < 18446744073709551616 → IntKind.u64.wrap (n : Int) = n := fun n h => by rw [IntKind.wrap_u64]; omega
  have an : ∀ a c : Nat, a < 18446744073709551616 → c < 18446744073709551616 → bits .and .u64 (a : Int) (c : Int) = ((a &&& c : Nat) : Int) := fun a c => bits_and_u64_nat a c
  have e1 : IntKind.u64.wrap (bits .and .u64 ((x : Int) / 2) 6148914691236517205 + bits .and .u64 (x : Int) 6148914691236517205) = (x1 : Int) := by
    have q1 := an (x / 2) 6148914691236517205 (by omega) (by omega)
    have q2 := an x 6148914691236517205 hx (by omega)
    simp only [Int.natCast_ediv, Int.cast_ofNat_Int] at q1 q2
    rw [q1, q2, ← Int.natCast_add, ← h1, wr _ l1]
  have e2 : IntKind.u64.wrap (bits .and .u64 ((x1 : Int) / 4) 3689348814741910323 + bits .and .u64 (x1 : Int) 3689348814741910323) = (x2 : Int) := by
    have q1 := an (x1 / 4) 3689348814741910323 (by omega) (by omega)
    have q2 := an x1 3689348814741910323 l1 (by omega)
    simp only [Int.natCast_ediv, Int.cast_ofNat_Int] at q1 q2
    rw [q1, q2, ← Int.natCast_add, ← h2, wr _ l2]
  have e3 : bits .and .u64 ((x2 : Int) / 16 + x2) 1085102592571150095 = (x3 : Int) := by
    have q0 : (x2 : Int) / 16 + x2 = ((x2 / 16 + x2 : Nat) : Int) := by omega
    have q1 := an (x2 / 16 + x2) 1085102592571150095 l2b (by omega)
    simp only [Int.cast_ofNat_Int] at q1
    rw [q0, q1, ← h3]
  have e4 : IntKind.u64.wrap ((x3 : Int) + (x3 : Int) / 256) = (x4 : Int) := by rw [show (x3 : Int) + (x3 : Int) / 256 = (x4 : Int) by omega, wr _ l4]
  have e5 : IntKind.u64.wrap ((x4 : Int) + (x4 : Int) / 65536) = (x5 : Int) := by rw [show (x4 : Int) + (x4 : Int) / 65536 = (x5 : Int) by omega, wr _ l5]
  have e6 : IntKind.u64.wrap ((x5 : Int) + (x5 : Int) / 4294967296) = (x6 : Int) := by rw [show (x5 : Int) + (x5 : Int) / 4294967296 = (x6 : Int) by omega, wr _ (by omega)]
  have e7 : bits .and .i64 (x6 : Int) 127 = (popW x : Int) := by
    rw [i64_and127]
    omega
  clear h1 h2 h3 h4 h5 h6 h7 wr an
  go_enter Tryz.func147, Tryz.ntmps147
  go_wp2_with fail
  go_ret
  exact ⟨rfl, rfl⟩

/-- The table of TrailingZeros64. -/
def Tab (w : World) : Prop := TabAt 1 Lib.deBruijn64tab w

set_option maxHeartbeats 1000000 in
theorem tz_any (x : Nat) (hx : x < 18446744073709551616) (hx0 : x ≠ 0) (w : World) (hT : Tab w) :
    Calls Tryz.prog 140 #[.int .u64 x] w fun e w' => e = .returned (.int .i64 (Lib.ctz 64 x)) ∧ w' = w := by
  obtain ⟨hlow, hk⟩ := Lib.lowest_bit 64 x hx0 hx
  obtain ⟨hi, htab⟩ := Lib.deBruijn64_at _ hk
  have hcell := hT _ hi
  rw [htab] at hcell
  have key := tz64_key x _ hx hx0 hlow
  have hx0 : ((x : Int) == 0) = false := by simp; omega
  obtain ⟨k, hkk⟩ : ∃ k, k = Lib.ctz 64 x := ⟨_, rfl⟩
  rw [← hkk] at hcell hk hi key ⊢
  obtain ⟨idx, hidx⟩ : ∃ idx, idx = 2 ^ k * 285870213051353865 % 18446744073709551616 / 288230376151711744 := ⟨_, rfl⟩
  rw [← hidx] at hcell hi key
  clear hkk hidx htab hlow hT
  go_enter Tryz.func140, Tryz.ntmps140
  go_wp2_with (simp only [key])
  go_ret
  exact ⟨rfl, rfl⟩

/-- The value of a set. -/
def psV (N : Nat) : Value := .agg #[.int .u64 (wd (N) 0), .int .u64 (wd (N) 1), .int .u64 (wd (N) 2), .int .u64 (wd (N) 3), .int .u64 (wd (N) 4)]
/-- The cells of a set. -/
def PsC (w : World) (b off N : Nat) : Prop := ∀ k, k < 5 → w.cell? ⟨b, off + k, none⟩ = some (.int .u64 (wd N k))

/-- Of block b the n cells from off on were written. -/
structure Wrote (T : TypeId) (b off n : Nat) (w w' : World) : Prop where
  row : RowAt w' b T
  by_ : w.grownBy w' (some b)
  rest : ∀ j, ¬ (off ≤ j ∧ j < off + n) → w'.cell? ⟨b, j, none⟩ = w.cell? ⟨b, j, none⟩
theorem Wrote.trans {T : TypeId} {b off n : Nat} {w w1 w2 : World} (h : Wrote T b off n w w1) (k : Wrote T b off n w1 w2) : Wrote T b off n w w2 :=
  ⟨k.row, grown_trans h.by_ k.by_, fun j hj => (k.rest j hj).trans (h.rest j hj)⟩
theorem Wrote.fr {T : TypeId} {b off n : Nat} {w w1 w2 : World} (h : Wrote T b off n w w1) (k : Fr w1 w2) : Wrote T b off n w w2 := by
  have hb := h.row
  obtain ⟨cur, hc⟩ := hb
  have hlt : b < w1.heap.size := (Array.getElem?_eq_some_iff.1 hc).1
  refine ⟨⟨cur, (k.block b hlt (by simp)).trans hc⟩, grown_trans h.by_ k.wide, fun j hj => ?_⟩
  rw [← h.rest j hj]
  exact World.cell?_of_block (k.block b hlt (by simp))
theorem Wrote.pre {T : TypeId} {b off n : Nat} {w w1 w2 : World} (k : Fr w w1) (hb : b < w.heap.size) (h : Wrote T b off n w1 w2) : Wrote T b off n w w2 := by
  refine ⟨h.row, grown_trans k.wide h.by_, fun j hj => ?_⟩
  rw [h.rest j hj]
  exact World.cell?_of_block (k.block b hb (by simp))
theorem RowAt.fr {w w' : World} {b : Nat} {T : TypeId} (h : RowAt w b T) (k : Fr w w') : RowAt w' b T := by
  obtain ⟨cur, hc⟩ := h
  exact ⟨cur, (k.block b (Array.getElem?_eq_some_iff.1 hc).1 (by simp)).trans hc⟩
theorem RowAt.lt {w : World} {b : Nat} {T : TypeId} (h : RowAt w b T) : b < w.heap.size := by
  obtain ⟨cur, hc⟩ := h
  exact (Array.getElem?_eq_some_iff.1 hc).1
theorem PsC.fr {w w' : World} {b off N : Nat} (h : PsC w b off N) (k : Fr w w') : PsC w' b off N := fun q hq => k.cell (h q hq)
theorem PsC.set {w : World} {b off N M i : Nat} (h : PsC w b off N) (hi : i < 5) (hM : ∀ k, k < 5 → k ≠ i → wd M k = wd N k) : PsC (w.setCell ⟨b, off + i, none⟩ (.int .u64 (wd M i))) b off M := by
  intro k hk
  by_cases e : k = i
  · subst e
    exact World.cell?_setCell_same' _ _ _ (by rw [h k hk]; rfl)
  · have hne : (⟨b, off + i, none⟩ : Addr) ≠ ⟨b, off + k, none⟩ := fun q => e (by injection q; omega)
    rw [World.cell?_setCell_other _ _ _ _ hne, h k hk, hM k hk e]
theorem wrote_set {T : TypeId} {w : World} {b off i n : Nat} {v : Value} (hr : RowAt w b T) (hi : i < n) : Wrote T b off n w (w.setCell ⟨b, off + i, none⟩ v) := by
  refine ⟨hr.set _ _, grown_set _ _ _ _, fun j hj => ?_⟩
  have hne : (⟨b, off + i, none⟩ : Addr) ≠ ⟨b, j, none⟩ := fun q => hj (by injection q; omega)
  exact World.cell?_setCell_other _ _ _ _ hne
theorem or_nat (a b : Nat) (ha : a < 18446744073709551616) (hb : b < 18446744073709551616) : bits .or .u64 (a : Int) (b : Int) = ((a ||| b : Nat) : Int) := bits_or_u64_nat a b ha hb

set_option maxHeartbeats 1000000 in
theorem add_any (b off N i : Nat) (T : TypeId) (w : World) (hi : i < 320) (h : PsC w b off N) (hr : RowAt w b T) :
    Calls Tryz.prog 145 #[.pointer (some ⟨b, off, none⟩), .int .i64 i] w fun e w' => e = .returned (.tuple #[]) ∧ PsC w' b off (N ||| 2 ^ i) ∧ Wrote T b off 5 w w' := by
  have c0 := h (i / 64) (by omega)
  have z0 := hr.free (off + i / 64)
  have hp : 2 ^ (i % 64) < 18446744073709551616 := Nat.pow_lt_pow_of_lt (show 1 < 2 by omega) (show i % 64 < 64 by omega)
  have HE : Hid (bits .or .u64 (wd N (i / 64)) (IntKind.u64.wrap (2 ^ (i % 64))) = (wd (N ||| 2 ^ i) (i / 64) : Int)) := by
    have q : IntKind.u64.wrap (2 ^ (i % 64)) = ((2 ^ (i % 64) : Nat) : Int) := by
      have e : ((2 : Int) ^ (i % 64)) = ((2 ^ (i % 64) : Nat) : Int) := by simp
      obtain ⟨P, hP⟩ : ∃ P, P = 2 ^ (i % 64) := ⟨_, rfl⟩
      rw [e]
      rw [← hP] at hp ⊢
      rw [IntKind.wrap_u64]
      omega
    rw [q, or_nat _ _ (wd_lt _ _) hp, wd_or, wd_one]
    exact rfl
  clear hp
  go_enter Tryz.func145, Tryz.ntmps145
  go_wp2_with fail
  go_region
  first | refine bodyPost_ret (results_none rfl _ _ _) rfl ?_ | go_end0
  rw [HE.out]
  refine ⟨rfl, (h.set (by omega) (fun k hk hne => by rw [wd_or, wd_other _ _ hne, Nat.or_zero])).fr (Fr.drew _), (wrote_set hr (by omega)).fr (Fr.drew _)⟩

theorem ix0 (f : Nat → Nat) (w : World) : (Instr.index 100 (.agg #[.int .u64 (f 0), .int .u64 (f 1), .int .u64 (f 2), .int .u64 (f 3), .int .u64 (f 4)]) (.int .i64 0)).run Tryz.prog w = .ok (.int .u64 (f 0)) w := by kernel_rfl
theorem ix1 (f : Nat → Nat) (w : World) : (Instr.index 100 (.agg #[.int .u64 (f 0), .int .u64 (f 1), .int .u64 (f 2), .int .u64 (f 3), .int .u64 (f 4)]) (.int .i64 1)).run Tryz.prog w = .ok (.int .u64 (f 1)) w := by kernel_rfl
theorem ix2 (f : Nat → Nat) (w : World) : (Instr.index 100 (.agg #[.int .u64 (f 0), .int .u64 (f 1), .int .u64 (f 2), .int .u64 (f 3), .int .u64 (f 4)]) (.int .i64 2)).run Tryz.prog w = .ok (.int .u64 (f 2)) w := by kernel_rfl
theorem ix3 (f : Nat → Nat) (w : World) : (Instr.index 100 (.agg #[.int .u64 (f 0), .int .u64 (f 1), .int .u64 (f 2), .int .u64 (f 3), .int .u64 (f 4)]) (.int .i64 3)).run Tryz.prog w = .ok (.int .u64 (f 3)) w := by kernel_rfl
theorem ix4 (f : Nat → Nat) (w : World) : (Instr.index 100 (.agg #[.int .u64 (f 0), .int .u64 (f 1), .int .u64 (f 2), .int .u64 (f 3), .int .u64 (f 4)]) (.int .i64 4)).run Tryz.prog w = .ok (.int .u64 (f 4)) w := by kernel_rfl
/-- The cells as they lie ahead of the round of word k. -/
def PsM (w : World) (b off : Nat) (f g : Nat → Nat) (k : Nat) : Prop := ∀ q, q < 5 → w.cell? ⟨b, off + q, none⟩ = some (.int .u64 (if q < k then f q ||| g q else f q : Nat))
theorem PsM.fr {w w' : World} {b off k : Nat} {f g : Nat → Nat} (h : PsM w b off f g k) (z : Fr w w') : PsM w' b off f g k := fun q hq => z.cell (h q hq)
theorem PsM.step {w : World} {b off k : Nat} {f g : Nat → Nat} (h : PsM w b off f g k) (hk : k < 5) : PsM (w.setCell ⟨b, off + k, none⟩ (.int .u64 (f k ||| g k : Nat))) b off f g (k + 1) := by
  intro q hq
  by_cases e : q = k
  · subst e
    rw [if_pos (by omega)]
    exact World.cell?_setCell_same' _ _ _ (by rw [h q hq]; rfl)
  · have hne : (⟨b, off + k, none⟩ : Addr) ≠ ⟨b, off + q, none⟩ := fun z => e (by injection z; omega)
    rw [World.cell?_setCell_other _ _ _ _ hne, h q hq]
    by_cases e2 : q < k
    · rw [if_pos e2, if_pos (by omega)]
    · rw [if_neg e2, if_neg (by omega)]
set_option maxRecDepth 20000 in
set_option maxHeartbeats 2000000 in
theorem addAll_core (b off : Nat) (f g : Nat → Nat) (T : TypeId) (w : World) (hf : ∀ k, f k < 18446744073709551616) (hg : ∀ k, g k < 18446744073709551616) (h : ∀ k, k < 5 → w.cell? ⟨b, off + k, none⟩ = some (.int .u64 (f k))) (hr : RowAt w b T) :
    Calls Tryz.prog 146 #[.pointer (some ⟨b, off, none⟩), .agg #[.int .u64 (g 0), .int .u64 (g 1), .int .u64 (g 2), .int .u64 (g 3), .int .u64 (g 4)]] w fun e w' => e = .returned (.tuple #[]) ∧ (∀ k, k < 5 → w'.cell? ⟨b, off + k, none⟩ = some (.int .u64 (f k ||| g k : Nat))) ∧ Wrote T b off 5 w w' := by
  have f0 := Fr.alloc w (.cells #[.int .u64 (g 0), .int .u64 (g 1), .int .u64 (g 2), .int .u64 (g 3), .int .u64 (g 4)] 100)
  have hb := hr.lt
  have HO : Hid (∀ k, bits .or .u64 (f k) (g k) = ((f k ||| g k : Nat) : Int)) := fun k => or_nat _ _ (hf k) (hg k)
  clear hf hg
  go_enter Tryz.func146, Tryz.ntmps146
  go_wp2_with fail
  obtain ⟨W, hW⟩ : ∃ W, W = w.alloc (.cells #[.int .u64 (g 0), .int .u64 (g 1), .int .u64 (g 2), .int .u64 (g 3), .int .u64 (g 4)] 100) := ⟨_, rfl⟩
  rw [← hW] at f0 ⊢
  clear hW
  have hr := hr.fr f0
  have h0 : PsM W b off f g 0 := fun q hq => by rw [if_neg (by omega)]; exact f0.cell (h q hq)
  clear h
  go_loopw [7] (fun i wr => ∃ k : Nat, k ≤ 5 ∧ i = .int .i64 k ∧ PsM wr b off f g k ∧ RowAt wr b T ∧ (wr = W ∨ Wrote T b off 5 W wr)) (fun i _ => 5 - (intOf i).toNat)
  case atStart => exact ⟨0, by omega, rfl, h0, hr, .inl rfl⟩
  case round =>
    obtain ⟨k, hk, rfl, hP, hrr, hW⟩ := hrel
    by_cases hlt : k < 5
    · have c0 := hP k hlt
      rw [if_neg (by omega)] at c0
      have z0 := hrr.free (off + k)
      have HS : Hid (PsM _ b off f g (k + 1) ∧ RowAt _ b T ∧ Wrote T b off 5 W _) := ⟨(hP.step hlt).fr (Fr.drew _), (hrr.set (off + k) (.int .u64 (f k ||| g k : Nat))).fr (Fr.drew _), by
        have q := (wrote_set (T := T) (w := wr) (b := b) (off := off) (i := k) (n := 5) (v := .int .u64 (f k ||| g k : Nat)) hrr hlt).fr (Fr.drew _)
        rcases hW with rfl | hW
        · exact q
        · exact hW.trans q⟩
      have HO := HO.out k
      clear hP hrr hW hr h0 f0
      rcases k with _ | _ | _ | _ | _ | k
      · have i0 := fun u => ix0 g u
        simp only [Nat.add_zero] at c0 z0
        go_wp2_with fail
        go_region
        go_wp2_with fail
        go_roundw
        case rel => exact ⟨1, by omega, rfl, HS.out.1, HS.out.2.1, .inr HS.out.2.2⟩
        case measure => decide
      · have i0 := fun u => ix1 g u
        go_wp2_with fail
        go_region
        go_wp2_with fail
        go_roundw
        case rel => exact ⟨2, by omega, rfl, HS.out.1, HS.out.2.1, .inr HS.out.2.2⟩
        case measure => decide
      · have i0 := fun u => ix2 g u
        go_wp2_with fail
        go_region
        go_wp2_with fail
        go_roundw
        case rel => exact ⟨3, by omega, rfl, HS.out.1, HS.out.2.1, .inr HS.out.2.2⟩
        case measure => decide
      · have i0 := fun u => ix3 g u
        go_wp2_with fail
        go_region
        go_wp2_with fail
        go_roundw
        case rel => exact ⟨4, by omega, rfl, HS.out.1, HS.out.2.1, .inr HS.out.2.2⟩
        case measure => decide
      · have i0 := fun u => ix4 g u
        go_wp2_with fail
        go_region
        go_wp2_with fail
        go_roundw
        case rel => exact ⟨5, by omega, rfl, HS.out.1, HS.out.2.1, .inr HS.out.2.2⟩
        case measure => decide
      · omega
    · have e : k = 5 := by omega
      subst e
      go_wp2_with fail
      first | refine bodyPost_ret (results_none rfl _ _ _) rfl ?_ | go_end0
      refine ⟨rfl, fun q hq => by have := hP q hq; rwa [if_pos hq] at this, ?_⟩
      rcases hW with rfl | hW
      · exact ⟨hrr, f0.wide, fun j _ => World.cell?_of_block (f0.block b hb (by simp))⟩
      · exact hW.pre f0 hb
theorem addAll_any (b off N M : Nat) (T : TypeId) (w : World) (h : PsC w b off N) (hr : RowAt w b T) :
    Calls Tryz.prog 146 #[.pointer (some ⟨b, off, none⟩), .agg #[.int .u64 (wd (M) 0), .int .u64 (wd (M) 1), .int .u64 (wd (M) 2), .int .u64 (wd (M) 3), .int .u64 (wd (M) 4)]] w fun e w' => e = .returned (.tuple #[]) ∧ PsC w' b off (N ||| M) ∧ Wrote T b off 5 w w' := by
  refine (addAll_core b off (wd N) (wd M) T w (wd_lt N) (wd_lt M) h hr).mono ?_
  rintro e w' ⟨h1, h2, h3⟩
  exact ⟨h1, fun k hk => by rw [wd_or]; exact h2 k hk, h3⟩

set_option maxHeartbeats 1000000 in
theorem hasP_any (N : Nat) (i : Int) (w : World) :
    Calls Tryz.prog 75 #[.agg #[.int .u64 (wd (N) 0), .int .u64 (wd (N) 1), .int .u64 (wd (N) 2), .int .u64 (wd (N) 3), .int .u64 (wd (N) 4)], .int .i64 i] w fun e w' => e = .returned (.bool (inB 0 299 i && N.testBit i.toNat)) ∧ Fr w w' := by
  have cW := fun u => within_any i 0 299 u
  have f0 := Fr.alloc w (.cells #[.int .u64 (wd N 0), .int .u64 (wd N 1), .int .u64 (wd N 2), .int .u64 (wd N 3), .int .u64 (wd N 4)] 100)
  cases hb : inB 0 299 i
  · simp only [hb] at cW
    clear hb
    go_enter Tryz.func75, Tryz.ntmps75
    go_wp2_with fail
    refine (cW _).mono ?_
    rintro e u0 ⟨rfl, rfl⟩
    go_wp2_with fail
    go_ret
    exact ⟨rfl, f0⟩
  · have hi : 0 ≤ i ∧ i ≤ 299 := by simpa [inB] using hb
    simp only [hb] at cW
    clear hb
    obtain ⟨j, rfl⟩ : ∃ j : Nat, i = j := ⟨i.toNat, by omega⟩
    have c0 : (w.alloc (.cells #[.int .u64 (wd N 0), .int .u64 (wd N 1), .int .u64 (wd N 2), .int .u64 (wd N 3), .int .u64 (wd N 4)] 100)).cell? ⟨w.heap.size, j / 64, none⟩ = some (.int .u64 (wd N (j / 64))) := by
      rw [cell_of_row _ _ _ _ _ _ (heap_alloc_new w _)]
      have : j / 64 < 5 := by omega
      generalize j / 64 = q at *
      rcases q with _ | _ | _ | _ | _ | q <;> first | rfl | omega
    go_enter Tryz.func75, Tryz.ntmps75
    go_wp2_with fail
    refine (cW _).mono ?_
    rintro e u0 ⟨rfl, rfl⟩
    have HE : Hid ((bits .and .u64 ((wd N (j / 64) : Int) / 2 ^ (j % 64)) 1 == 1) = N.testBit j) := by
      have e1 : (wd N (j / 64) : Int) / 2 ^ (j % 64) = ((wd N (j / 64) / 2 ^ (j % 64) : Nat) : Int) := by simp
      have e2 := and_nat (wd N (j / 64) / 2 ^ (j % 64)) 1 (Nat.lt_of_le_of_lt (Nat.div_le_self _ _) (wd_lt _ _)) (by omega)
      simp only [Int.cast_ofNat_Int] at e2
      rw [e1]
      refine (congrArg (· == (1 : Int)) e2).trans ?_
      rw [wd_has]
      cases N.testBit j <;> rfl
    go_wp2_with fail
    go_ret
    rw [HE.out]
    simp only [Bool.true_and, Int.toNat_natCast]
    exact ⟨rfl, f0⟩

set_option maxRecDepth 20000 in
set_option maxHeartbeats 1000000 in
theorem sizeP_core (f : Nat → Nat) (hf : ∀ k, f k < 18446744073709551616) (w : World) :
    Calls Tryz.prog 79 #[.agg #[.int .u64 (f 0), .int .u64 (f 1), .int .u64 (f 2), .int .u64 (f 3), .int .u64 (f 4)]] w fun e w' => e = .returned (.int .i64 (popW (f 0) + popW (f 1) + popW (f 2) + popW (f 3) + popW (f 4) : Nat)) ∧ Fr w w' := by
  have f0 := Fr.alloc w (.cells #[.int .u64 (f 0), .int .u64 (f 1), .int .u64 (f 2), .int .u64 (f 3), .int .u64 (f 4)] 100)
  have c0 := fun u => ones_any (f 0) (hf 0) u
  have c1 := fun u => ones_any (f 1) (hf 1) u
  have c2 := fun u => ones_any (f 2) (hf 2) u
  have c3 := fun u => ones_any (f 3) (hf 3) u
  have c4 := fun u => ones_any (f 4) (hf 4) u
  have ple : ∀ x, popW x ≤ 64 := fun x => by
    unfold popW bitsL
    have := List.length_filter_le (fun i => x.testBit i) (List.range 64)
    simpa using this
  have l0 := ple (f 0); have l1 := ple (f 1); have l2 := ple (f 2); have l3 := ple (f 3); have l4 := ple (f 4)
  obtain ⟨p0, hp0⟩ : ∃ p, p = popW (f 0) := ⟨_, rfl⟩
  obtain ⟨p1, hp1⟩ : ∃ p, p = popW (f 1) := ⟨_, rfl⟩
  obtain ⟨p2, hp2⟩ : ∃ p, p = popW (f 2) := ⟨_, rfl⟩
  obtain ⟨p3, hp3⟩ : ∃ p, p = popW (f 3) := ⟨_, rfl⟩
  obtain ⟨p4, hp4⟩ : ∃ p, p = popW (f 4) := ⟨_, rfl⟩
  simp only [← hp0, ← hp1, ← hp2, ← hp3, ← hp4] at c0 c1 c2 c3 c4 l0 l1 l2 l3 l4 ⊢
  clear hp0 hp1 hp2 hp3 hp4 ple hf
  go_enter Tryz.func79, Tryz.ntmps79
  go_wp2_with fail
  obtain ⟨W, hW⟩ : ∃ W, W = w.alloc (.cells #[.int .u64 (f 0), .int .u64 (f 1), .int .u64 (f 2), .int .u64 (f 3), .int .u64 (f 4)] 100) := ⟨_, rfl⟩
  rw [← hW] at f0 ⊢
  clear hW
  go_loopw [3, 7] (fun n i wr => wr = W ∧ ((i = .int .i64 0 ∧ n = .int .i64 0) ∨ (i = .int .i64 1 ∧ n = .int .i64 p0) ∨ (i = .int .i64 2 ∧ n = .int .i64 (p0 + p1)) ∨ (i = .int .i64 3 ∧ n = .int .i64 (p0 + p1 + p2)) ∨ (i = .int .i64 4 ∧ n = .int .i64 (p0 + p1 + p2 + p3)) ∨ (i = .int .i64 5 ∧ n = .int .i64 (p0 + p1 + p2 + p3 + p4)))) (fun _ i _ => 5 - (intOf i).toNat)
  case atStart => exact ⟨rfl, .inl ⟨rfl, rfl⟩⟩
  case round =>
    obtain ⟨rfl, ⟨rfl, rfl⟩ | ⟨rfl, rfl⟩ | ⟨rfl, rfl⟩ | ⟨rfl, rfl⟩ | ⟨rfl, rfl⟩ | ⟨rfl, rfl⟩⟩ := hrel
    · have i0 := fun u => ix0 f u
      go_wp2_with fail
      refine (c0 _).mono ?_
      rintro e u0 ⟨rfl, rfl⟩
      go_wp2_with fail
      go_roundw
      case rel => exact ⟨trivial, .inr (.inl ⟨rfl, rfl⟩)⟩
      case measure => decide
    · have i0 := fun u => ix1 f u
      go_wp2_with fail
      refine (c1 _).mono ?_
      rintro e u0 ⟨rfl, rfl⟩
      go_wp2_with fail
      go_roundw
      case rel => exact ⟨trivial, .inr (.inr (.inl ⟨rfl, rfl⟩))⟩
      case measure => decide
    · have i0 := fun u => ix2 f u
      go_wp2_with fail
      refine (c2 _).mono ?_
      rintro e u0 ⟨rfl, rfl⟩
      go_wp2_with fail
      go_roundw
      case rel => exact ⟨trivial, .inr (.inr (.inr (.inl ⟨rfl, rfl⟩)))⟩
      case measure => decide
    · have i0 := fun u => ix3 f u
      go_wp2_with fail
      refine (c3 _).mono ?_
      rintro e u0 ⟨rfl, rfl⟩
      go_wp2_with fail
      go_roundw
      case rel => exact ⟨trivial, .inr (.inr (.inr (.inr (.inl ⟨rfl, rfl⟩))))⟩
      case measure => decide
    · have i0 := fun u => ix4 f u
      go_wp2_with fail
      refine (c4 _).mono ?_
      rintro e u0 ⟨rfl, rfl⟩
      go_wp2_with fail
      go_roundw
      case rel => exact ⟨trivial, .inr (.inr (.inr (.inr (.inr (⟨rfl, rfl⟩)))))⟩
      case measure => decide
    · go_wp2_with fail
      go_ret
      exact ⟨by simp, f0⟩
theorem sizeP_any (N : Nat) (w : World) :
    Calls Tryz.prog 79 #[.agg #[.int .u64 (wd (N) 0), .int .u64 (wd (N) 1), .int .u64 (wd (N) 2), .int .u64 (wd (N) 3), .int .u64 (wd (N) 4)]] w fun e w' => e = .returned (.int .i64 (popS N)) ∧ Fr w w' := by
  rw [popS_sum]
  exact sizeP_core (wd N) (wd_lt N) w
end Go.Proofs.YthehhiccfnhinaaGreatDoor
/-
  A block that is a scene; the blocks that a scene may lie in.
-/
namespace Go.Proofs.YthehhiccfnhinaaGreatDoor
open Go.RowKit

/-- The blocks of B, and those that are new. -/
def Grew (B : Nat → Prop) (w w' : World) (b : Nat) : Prop := B b ∨ (w.heap.size ≤ b ∧ b < w'.heap.size)
theorem InB.mono {B B' : Nat → Prop} {ao : Option Addr} (h : InB B ao) (hB : ∀ b, B b → B' b) : InB B' ao := fun b e => hB b (h b e)
theorem LkR.mono {B B' : Nat → Prop} {w : World} {lv : Lv} {l : Lk} (h : LkR B w lv l) (hB : ∀ b, B b → B' b) : LkR B' w lv l :=
  ⟨h.o, h.wr, h.rn, h.rd, h.bl.mono hB, h.rc, h.sz, h.io, h.iw⟩
theorem LksR.mono {B B' : Nat → Prop} {w : World} {lvs : List Lv} {ls : List Lk} (h : LksR B w lvs ls) (hB : ∀ b, B b → B' b) : LksR B' w lvs ls :=
  ⟨h.len, fun j h1 h2 => (h.at_ j h1 h2).mono hB⟩
theorem ScR.mono {B B' : Nat → Prop} {w : World} {s : Sv} {m : Scn} (h : ScR B w s m) (hB : ∀ b, B b → B' b) : ScR B' w s m := by
  obtain ⟨lvs, h1, h2, h3⟩ := h.lks
  exact { h with lks := ⟨lvs, h1, h2, h3.mono hB⟩, bl := h.bl.mono hB, bc := h.bc.mono hB, bn := h.bn.mono hB, bo := h.bo.mono hB }
theorem Grew.old {B : Nat → Prop} {w w' : World} : ∀ b, B b → Grew B w w' b := fun _ h => .inl h
theorem Grew.trans {B : Nat → Prop} {w w1 w2 : World} (h : w.heap.size ≤ w1.heap.size) (h2 : w1.heap.size ≤ w2.heap.size) : ∀ b, Grew (Grew B w w1) w1 w2 b → Grew B w w2 b := by
  rintro b ((hb | ⟨h3, h4⟩) | ⟨h3, h4⟩)
  · exact .inl hb
  · exact .inr ⟨h3, by omega⟩
  · exact .inr ⟨by omega, h4⟩
theorem Grew.wide {B : Nat → Prop} {w w0 w1 w2 : World} (h : w0.heap.size ≤ w.heap.size) (h2 : w1.heap.size ≤ w2.heap.size) : ∀ b, Grew B w w1 b → Grew B w0 w2 b := by
  rintro b (hb | ⟨h3, h4⟩)
  · exact .inl hb
  · exact .inr ⟨by omega, by omega⟩

/-- A block that is a scene. -/
def ScK (w : World) (b : Nat) (s : Sv) : Prop := w.heap[b]? = some (.cells #[.int .i64 s.g, .slice s.lo s.ll s.lc, .slice s.co s.cl s.cc, .slice s.no s.nl s.nc, .slice s.oo s.ol s.oc] 29 (0, 0))
theorem ScK.lt {w : World} {b : Nat} {s : Sv} (h : ScK w b s) : b < w.heap.size := (Array.getElem?_eq_some_iff.1 h).1
theorem ScK.keep {w w' : World} {b : Nat} {s : Sv} {row : Option Nat} (h : ScK w b s) (k : w.grownBy w' row) (hr : row ≠ some b) : ScK w' b s := (k.block b h.lt (fun q => hr q.symm)).trans h
theorem ScK.fr {w w' : World} {b : Nat} {s : Sv} (h : ScK w b s) (k : Fr w w') : ScK w' b s := h.keep k (by simp)
theorem ScK.new (w : World) (s : Sv) : ScK (w.alloc (.cells #[.int .i64 s.g, .slice s.lo s.ll s.lc, .slice s.co s.cl s.cc, .slice s.no s.nl s.nc, .slice s.oo s.ol s.oc] 29)) w.heap.size s := heap_alloc_new w _
theorem ScK.at {w : World} {b : Nat} {s : Sv} (h : ScK w b s) : ScB w b s := by
  have h' : w.heap[b]? = some (.cells #[.int .i64 s.g, .slice s.lo s.ll s.lc, .slice s.co s.cl s.cc, .slice s.no s.nl s.nc, .slice s.oo s.ol s.oc] 29 (0, 0)) := h
  constructor <;> simp [World.cell?, h']
theorem ScK.free {w : World} {b : Nat} {s : Sv} (h : ScK w b s) (i : Nat) : w.frozen? ⟨b, i, none⟩ = false := frozen_of_row w b i _ _ h
theorem put5 (w : World) (r : Nat) (v0 v1 v2 v3 v4 : Value) :
    w.grownBy (((((w.setCell ⟨r, 0, none⟩ v0).setCell ⟨r, 1, none⟩ v1).setCell ⟨r, 2, none⟩ v2).setCell ⟨r, 3, none⟩ v3).setCell ⟨r, 4, none⟩ v4) (some r) :=
  grown_trans (grown_trans (grown_trans (grown_trans (grown_set _ r 0 _) (grown_set _ r 1 _)) (grown_set _ r 2 _)) (grown_set _ r 3 _)) (grown_set _ r 4 _)

/-- A block that is a lock; one that is a channel. -/
def LvK (w : World) (b : Nat) (l : Lv) : Prop := w.heap[b]? = some (.cells #[.int .i64 l.o, .int .i64 l.wr, .slice l.ro l.rn l.rc] 82 (0, 0))
theorem LvK.lt {w : World} {b : Nat} {l : Lv} (h : LvK w b l) : b < w.heap.size := (Array.getElem?_eq_some_iff.1 h).1
theorem LvK.keep {w w' : World} {b : Nat} {l : Lv} {row : Option Nat} (h : LvK w b l) (k : w.grownBy w' row) (hr : row ≠ some b) : LvK w' b l := (k.block b h.lt (fun q => hr q.symm)).trans h
theorem LvK.new (w : World) (l : Lv) : LvK (w.alloc (.cells #[.int .i64 l.o, .int .i64 l.wr, .slice l.ro l.rn l.rc] 82)) w.heap.size l := heap_alloc_new w _
theorem LvK.at {w : World} {b : Nat} {l : Lv} (h : LvK w b l) : w.cell? ⟨b, 0, none⟩ = some (.int .i64 l.o) ∧ w.cell? ⟨b, 1, none⟩ = some (.int .i64 l.wr) ∧ w.cell? ⟨b, 2, none⟩ = some (.slice l.ro l.rn l.rc) := by
  have h' : w.heap[b]? = some (.cells #[.int .i64 l.o, .int .i64 l.wr, .slice l.ro l.rn l.rc] 82 (0, 0)) := h
  refine ⟨?_, ?_, ?_⟩ <;> simp [World.cell?, h']
theorem LvK.free {w : World} {b : Nat} {l : Lv} (h : LvK w b l) (i : Nat) : w.frozen? ⟨b, i, none⟩ = false := frozen_of_row w b i _ _ h
theorem LvK.setW {w : World} {b : Nat} {l : Lv} (h : LvK w b l) (x : Int) : LvK (w.setCell ⟨b, 1, none⟩ (.int .i64 x)) b { l with wr := x } := by
  exact heap_setCell_same w b 1 _ _ (.int .i64 x) h
theorem LvK.setR {w : World} {b : Nat} {l : Lv} (h : LvK w b l) (ao : Option Addr) (n c : Nat) : LvK (w.setCell ⟨b, 2, none⟩ (.slice ao n c)) b { l with ro := ao, rn := n, rc := c } := by
  exact heap_setCell_same w b 2 _ _ (.slice ao n c) h
def ChK (w : World) (b : Nat) (c : Ch) : Prop := w.heap[b]? = some (.cells #[.int .i64 c.o, .int .i64 c.cap, .int .i64 c.sent, .int .i64 c.got, .bool c.cl] 85 (0, 0))
theorem ChK.lt {w : World} {b : Nat} {c : Ch} (h : ChK w b c) : b < w.heap.size := (Array.getElem?_eq_some_iff.1 h).1
theorem ChK.keep {w w' : World} {b : Nat} {c : Ch} {row : Option Nat} (h : ChK w b c) (k : w.grownBy w' row) (hr : row ≠ some b) : ChK w' b c := (k.block b h.lt (fun q => hr q.symm)).trans h
theorem ChK.new (w : World) (c : Ch) : ChK (w.alloc (.cells #[.int .i64 c.o, .int .i64 c.cap, .int .i64 c.sent, .int .i64 c.got, .bool c.cl] 85)) w.heap.size c := heap_alloc_new w _
theorem ChK.at {w : World} {b : Nat} {c : Ch} (h : ChK w b c) : w.cell? ⟨b, 0, none⟩ = some (.int .i64 c.o) ∧ w.cell? ⟨b, 1, none⟩ = some (.int .i64 c.cap) ∧ w.cell? ⟨b, 2, none⟩ = some (.int .i64 c.sent) ∧ w.cell? ⟨b, 3, none⟩ = some (.int .i64 c.got) ∧ w.cell? ⟨b, 4, none⟩ = some (.bool c.cl) := by
  have h' : w.heap[b]? = some (.cells #[.int .i64 c.o, .int .i64 c.cap, .int .i64 c.sent, .int .i64 c.got, .bool c.cl] 85 (0, 0)) := h
  refine ⟨?_, ?_, ?_, ?_, ?_⟩ <;> simp [World.cell?, h']
theorem ChK.free {w : World} {b : Nat} {c : Ch} (h : ChK w b c) (i : Nat) : w.frozen? ⟨b, i, none⟩ = false := frozen_of_row w b i _ _ h
theorem ChK.set1 {w : World} {b : Nat} {c : Ch} (h : ChK w b c) (x : Int) : ChK (w.setCell ⟨b, 1, none⟩ (.int .i64 x)) b { c with cap := x } := by
  exact heap_setCell_same w b 1 _ _ (.int .i64 x) h
theorem ChK.set2 {w : World} {b : Nat} {c : Ch} (h : ChK w b c) (x : Int) : ChK (w.setCell ⟨b, 2, none⟩ (.int .i64 x)) b { c with sent := x } := by
  exact heap_setCell_same w b 2 _ _ (.int .i64 x) h
theorem ChK.set3 {w : World} {b : Nat} {c : Ch} (h : ChK w b c) (x : Int) : ChK (w.setCell ⟨b, 3, none⟩ (.int .i64 x)) b { c with got := x } := by
  exact heap_setCell_same w b 3 _ _ (.int .i64 x) h
theorem ChK.set4 {w : World} {b : Nat} {c : Ch} (h : ChK w b c) (x : Bool) : ChK (w.setCell ⟨b, 4, none⟩ (.bool x)) b { c with cl := x } := by
  exact heap_setCell_same w b 4 _ _ (.bool x) h
theorem ScK.setG {w : World} {b : Nat} {s : Sv} (h : ScK w b s) (x : Int) : ScK (w.setCell ⟨b, 0, none⟩ (.int .i64 x)) b { s with g := x } := by
  exact heap_setCell_same w b 0 _ _ (.int .i64 x) h
theorem ScK.setO {w : World} {b : Nat} {s : Sv} (h : ScK w b s) (ao : Option Addr) (n c : Nat) : ScK (w.setCell ⟨b, 4, none⟩ (.slice ao n c)) b { s with oo := ao, ol := n, oc := c } := by
  exact heap_setCell_same w b 4 _ _ (.slice ao n c) h

end Go.Proofs.YthehhiccfnhinaaGreatDoor
