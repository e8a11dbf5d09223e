/-
  The walks of the laws' toCountS, toChanS.
-/
import Derived.Test.YtpdakokmckmbgaaDoorScK
import Derived.Test.YtpdakokmckmbgaaDoorIntsTo
import Derived.Laws.AppendOwnNone
namespace Go.Proofs.YtpdakokmckmbgaaDoor
open Go.RowKit

theorem own2 {w : World} {base g n cap : Nat} {e : TypeId} {xs : List Value} (h : w.ownsRow base e 2 (.slice (some ⟨g, 0, none⟩) n cap) n xs) (j : Nat) (a0 a1 : Value) :
    ((w.setCell ⟨g, j, none⟩ a0).setCell ⟨g, j + 1, none⟩ a1).ownsRow base e 2 (.slice (some ⟨g, 0, none⟩) n cap) n ((xs.set j a0).set (j + 1) a1) ∧ w.grownBy ((w.setCell ⟨g, j, none⟩ a0).setCell ⟨g, j + 1, none⟩ a1) (some g) := by
  have h0 := h.stored j a0
  have h1 := h0.1.stored (j + 1) a1
  exact ⟨h1.1, grown_trans h0.2 h1.2⟩
theorem own3 {w : World} {base g n cap : Nat} {e : TypeId} {xs : List Value} (h : w.ownsRow base e 3 (.slice (some ⟨g, 0, none⟩) n cap) n xs) (j : Nat) (a0 a1 a2 : Value) :
    (((w.setCell ⟨g, j, none⟩ a0).setCell ⟨g, j + 1, none⟩ a1).setCell ⟨g, j + 2, none⟩ a2).ownsRow base e 3 (.slice (some ⟨g, 0, none⟩) n cap) n (((xs.set j a0).set (j + 1) a1).set (j + 2) a2) ∧ w.grownBy (((w.setCell ⟨g, j, none⟩ a0).setCell ⟨g, j + 1, none⟩ a1).setCell ⟨g, j + 2, none⟩ a2) (some g) := by
  have h0 := h.stored j a0
  have h1 := h0.1.stored (j + 1) a1
  have h2 := h1.1.stored (j + 2) a2
  exact ⟨h2.1, grown_trans (grown_trans h0.2 h1.2) h2.2⟩
theorem own5 {w : World} {base g n cap : Nat} {e : TypeId} {xs : List Value} (h : w.ownsRow base e 5 (.slice (some ⟨g, 0, none⟩) n cap) n xs) (j : Nat) (a0 a1 a2 a3 a4 : Value) :
    (((((w.setCell ⟨g, j, none⟩ a0).setCell ⟨g, j + 1, none⟩ a1).setCell ⟨g, j + 2, none⟩ a2).setCell ⟨g, j + 3, none⟩ a3).setCell ⟨g, j + 4, none⟩ a4).ownsRow base e 5 (.slice (some ⟨g, 0, none⟩) n cap) n (((((xs.set j a0).set (j + 1) a1).set (j + 2) a2).set (j + 3) a3).set (j + 4) a4) ∧ w.grownBy (((((w.setCell ⟨g, j, none⟩ a0).setCell ⟨g, j + 1, none⟩ a1).setCell ⟨g, j + 2, none⟩ a2).setCell ⟨g, j + 3, none⟩ a3).setCell ⟨g, j + 4, none⟩ a4) (some g) := by
  have h0 := h.stored j a0
  have h1 := h0.1.stored (j + 1) a1
  have h2 := h1.1.stored (j + 2) a2
  have h3 := h2.1.stored (j + 3) a3
  have h4 := h3.1.stored (j + 4) a4
  exact ⟨h4.1, grown_trans (grown_trans (grown_trans (grown_trans h0.2 h1.2) h2.2) h3.2) h4.2⟩
theorem cellsG_len {α : Type} (L : Lay α) (xs : List α) : (xs.flatMap L.cs).length = xs.length * L.sz := by
  induction xs with
  | nil => simp
  | cons e es ih => rw [List.flatMap_cons, List.length_append, ih, L.len, List.length_cons, Nat.succ_mul]; omega
theorem laid2 {α : Type} {L : Lay α} (hs : L.sz = 2) (zs : List α) (M : List Value) (k n : Nat) (hz : zs.length = k) (hk : k < n) (hM : M.length = n * 2) (e : α) (a0 a1 : Value) (he : L.cs e = [a0, a1]) :
    ((zs.flatMap L.cs ++ M.drop (k * 2)).set (k * 2) a0).set (k * 2 + 1) a1 = (zs ++ [e]).flatMap L.cs ++ M.drop ((k + 1) * 2) := by
  have hl : (zs.flatMap L.cs).length = k * 2 := by rw [cellsG_len, hs, hz]
  have hd : ∃ m0 m1, M.drop (k * 2) = m0 :: m1 :: M.drop ((k + 1) * 2) := ⟨_, _, by rw [List.drop_eq_getElem_cons (show k * 2 < M.length by omega), List.drop_eq_getElem_cons (show k * 2 + 1 < M.length by omega), show (k + 1) * 2 = k * 2 + 1 + 1 by omega]⟩
  obtain ⟨m0, m1, hd⟩ := hd
  rw [hd, List.flatMap_append]
  clear hd
  generalize M.drop ((k + 1) * 2) = R
  simp only [List.flatMap_cons, List.flatMap_nil, List.append_nil, he]
  rw [List.set_append_right _ _ (by omega), List.set_append_right _ _ (by omega), hl]
  simp
theorem laid3 {α : Type} {L : Lay α} (hs : L.sz = 3) (zs : List α) (M : List Value) (k n : Nat) (hz : zs.length = k) (hk : k < n) (hM : M.length = n * 3) (e : α) (a0 a1 a2 : Value) (he : L.cs e = [a0, a1, a2]) :
    (((zs.flatMap L.cs ++ M.drop (k * 3)).set (k * 3) a0).set (k * 3 + 1) a1).set (k * 3 + 2) a2 = (zs ++ [e]).flatMap L.cs ++ M.drop ((k + 1) * 3) := by
  have hl : (zs.flatMap L.cs).length = k * 3 := by rw [cellsG_len, hs, hz]
  have hd : ∃ m0 m1 m2, M.drop (k * 3) = m0 :: m1 :: m2 :: M.drop ((k + 1) * 3) := ⟨_, _, _, by rw [List.drop_eq_getElem_cons (show k * 3 < M.length by omega), List.drop_eq_getElem_cons (show k * 3 + 1 < M.length by omega), List.drop_eq_getElem_cons (show k * 3 + 1 + 1 < M.length by omega), show (k + 1) * 3 = k * 3 + 1 + 1 + 1 by omega]⟩
  obtain ⟨m0, m1, m2, hd⟩ := hd
  rw [hd, List.flatMap_append]
  clear hd
  generalize M.drop ((k + 1) * 3) = R
  simp only [List.flatMap_cons, List.flatMap_nil, List.append_nil, he]
  rw [List.set_append_right _ _ (by omega), List.set_append_right _ _ (by omega), List.set_append_right _ _ (by omega), hl]
  simp
theorem laid5 {α : Type} {L : Lay α} (hs : L.sz = 5) (zs : List α) (M : List Value) (k n : Nat) (hz : zs.length = k) (hk : k < n) (hM : M.length = n * 5) (e : α) (a0 a1 a2 a3 a4 : Value) (he : L.cs e = [a0, a1, a2, a3, a4]) :
    (((((zs.flatMap L.cs ++ M.drop (k * 5)).set (k * 5) a0).set (k * 5 + 1) a1).set (k * 5 + 2) a2).set (k * 5 + 3) a3).set (k * 5 + 4) a4 = (zs ++ [e]).flatMap L.cs ++ M.drop ((k + 1) * 5) := by
  have hl : (zs.flatMap L.cs).length = k * 5 := by rw [cellsG_len, hs, hz]
  have hd : ∃ m0 m1 m2 m3 m4, M.drop (k * 5) = m0 :: m1 :: m2 :: m3 :: m4 :: M.drop ((k + 1) * 5) := ⟨_, _, _, _, _, by rw [List.drop_eq_getElem_cons (show k * 5 < M.length by omega), List.drop_eq_getElem_cons (show k * 5 + 1 < M.length by omega), List.drop_eq_getElem_cons (show k * 5 + 1 + 1 < M.length by omega), List.drop_eq_getElem_cons (show k * 5 + 1 + 1 + 1 < M.length by omega), List.drop_eq_getElem_cons (show k * 5 + 1 + 1 + 1 + 1 < M.length by omega), show (k + 1) * 5 = k * 5 + 1 + 1 + 1 + 1 + 1 by omega]⟩
  obtain ⟨m0, m1, m2, m3, m4, hd⟩ := hd
  rw [hd, List.flatMap_append]
  clear hd
  generalize M.drop ((k + 1) * 5) = R
  simp only [List.flatMap_cons, List.flatMap_nil, List.append_nil, he]
  rw [List.set_append_right _ _ (by omega), List.set_append_right _ _ (by omega), List.set_append_right _ _ (by omega), List.set_append_right _ _ (by omega), List.set_append_right _ _ (by omega), hl]
  simp
theorem Tryd.inf3N : (Tryd.prog.info? 77).map (fun i => (i.zero, i.size, i.bytes)) = some (some (.agg #[.int .i64 0, .int .i64 0]), 2, 16) := by kernel_rfl
theorem Tryd.inf3C : (Tryd.prog.info? 75).map (fun i => (i.zero, i.size, i.bytes)) = some (some (.agg #[.int .i64 0, .int .i64 0, .int .i64 0, .int .i64 0, .bool false]), 5, 40) := by kernel_rfl
theorem Tryd.inf3L : (Tryd.prog.info? 72).map (fun i => (i.zero, i.size, i.bytes)) = some (some (.agg #[.int .i64 0, .int .i64 0, .slice none 0 0]), 3, 40) := by kernel_rfl

theorem toCount_any (c : Ct) (w : World) : Calls Tryd.prog 45 #[.agg #[.int .i64 c.o, .int .i64 c.n]] w fun e w' => e = .returned (.agg #[.int .i64 c.o, .int .i64 c.n]) ∧ Fr w w' := by
  obtain ⟨o, n⟩ := c
  simp only
  go_enter Tryd.func45, Tryd.ntmps45
  go_wp2
  refine bodyPost_ret (v := .agg #[.int .i64 o, .int .i64 n]) (by simp [results, Tryd.results45, go_sem]) rfl ⟨rfl, ((Fr.alloc _ _).trans (Fr.alloc _ _)).trans (Fr.alloc _ _)⟩
theorem toChan_any (c : Ch) (w : World) : Calls Tryd.prog 44 #[.agg #[.int .i64 c.o, .int .i64 c.cap, .int .i64 c.sent, .int .i64 c.got, .bool c.cl]] w fun e w' => e = .returned (.agg #[.int .i64 c.o, .int .i64 c.cap, .int .i64 c.sent, .int .i64 c.got, .bool c.cl]) ∧ Fr w w' := by
  obtain ⟨o, cap, sent, got, cl⟩ := c
  simp only
  go_enter Tryd.func44, Tryd.ntmps44
  go_wp2
  refine bodyPost_ret (v := .agg #[.int .i64 o, .int .i64 cap, .int .i64 sent, .int .i64 got, .bool cl]) (by simp [results, Tryd.results44, go_sem]) rfl ⟨rfl, ((Fr.alloc _ _).trans (Fr.alloc _ _)).trans (Fr.alloc _ _)⟩

set_option maxHeartbeats 1000000 in
theorem toCountS_any (ao : Option Addr) (n cap : Nat) (es : List Ct) (w : World) (hn : es.length = n) (hl : es.length ≤ 1048576) (h : ReadsG layN w ao es) :
    Calls Tryd.prog 22 #[.slice ao n cap] w fun e w' => e = .returned (.slice (some ⟨w.heap.size, 0, none⟩) n n) ∧ OwnG layN w' w.heap.size (.slice (some ⟨w.heap.size, 0, none⟩) n n) es ∧ Fr w w' := by
  subst hn
  obtain ⟨i0, hi, hz0, hz1, hz2⟩ := info_parts Tryd.inf3N
  go_enter Tryd.func22, Tryd.ntmps22
  go_wp2_with (at_make; refine wpList_make_full _ rfl _ _ 34 rfl w.heap.size 77 i0 (.agg #[.int .i64 0, .int .i64 0]) 2 Tryd.underlying34 hi hz0 hz1 .i64 .i64 _ _ es.length rfl rfl rfl rfl (by rw [hz2]; omega) (by unfold maxLen; omega) (Nat.le_refl _) ?_; intro w1 hown hgrow)
  obtain ⟨M, hM⟩ : ∃ M, M = (madeCells (Value.agg #[.int .i64 0, .int .i64 0]).cells (es.length * 2)).toList := ⟨_, rfl⟩
  rw [← hM] at hown
  clear hM
  have hMl := hown.1
  have hsz := hgrow.size
  clear hi hz0 hz1 hz2
  go_loopw [4] (fun i wr => ∃ k : Nat, k ≤ es.length ∧ i = .int .i64 k ∧ wr.ownsRow w.heap.size 77 2 (.slice (some ⟨w.heap.size, 0, none⟩) es.length es.length) es.length ((es.take k).flatMap layN.cs ++ M.drop (k * 2)) ∧ Fr w wr) (fun i _ => es.length - (intOf i).toNat)
  case atStart => exact ⟨0, Nat.zero_le _, rfl, by simpa using hown, hgrow⟩
  case round =>
    obtain ⟨k, hk, rfl, ho, hf⟩ := hrel
    clear hown hgrow
    by_cases hlt : k < es.length
    · obtain ⟨b, off, rfl, d0, d1⟩ := ct_at (h.fr hf) k hlt
      have HE : Hid (es.take k ++ [es[k]] = es.take (k + 1)) := (List.take_succ_eq_append_getElem hlt).symm
      obtain ⟨e, he⟩ : ∃ e, e = es[k] := ⟨_, rfl⟩
      rw [← he] at HE
      simp only [← he] at d0 d1
      clear he
      have cT := fun w => toCount_any e w
      go_wp2_with fail
      refine (cT _).mono ?_
      rintro e w5 ⟨rfl, f5⟩
      have ho := ho.kept f5 (by simp [Value.ownBlock])
      have hll : ((es.take k).flatMap layN.cs ++ M.drop (k * 2)).length = es.length * 2 := ho.1
      have hat : ∀ i, i < 2 → ∃ u, w5.cell? ⟨w.heap.size, k * 2 + i, none⟩ = some u := fun i hi => by
        rw [ho.cellAt (k * 2 + i) (by omega)]
        exact ⟨_, List.getElem?_eq_getElem (by omega)⟩
      obtain ⟨q0, x0⟩ := hat 0 (by omega)
      obtain ⟨q1, x1⟩ := hat 1 (by omega)
      rw [Nat.add_zero] at x0
      have z0 := ho.frozenAt (k * 2)
      have z1 := ho.frozenAt (k * 2 + 1)
      have hst := own2 ho (k * 2) (.int .i64 e.o) (.int .i64 e.n)
      rw [laid2 (L := layN) rfl (es.take k) M k es.length (by simp; omega) hlt hMl e (.int .i64 e.o) (.int .i64 e.n) rfl, HE.out] at hst
      clear hat hll ho d0 d1
      go_wp2_with fail
      go_roundw
      case rel => exact ⟨k + 1, by omega, by go_num, hst.1, (hf.trans f5).then hst.2 (fun j hj => by simp only [Option.some.injEq] at hj; omega)⟩
      case measure => simp [intOf]; omega
    · have ek : k = es.length := by omega
      have hd : M.drop (k * 2) = [] := List.drop_eq_nil_of_le (by rw [hMl, ek]; omega)
      rw [hd, List.append_nil, List.take_of_length_le (by omega)] at ho
      clear ek hd
      go_wp2_with fail
      go_ret
      exact ⟨rfl, ⟨w.heap.size, es.length, rfl, ho, by omega⟩, hf⟩

set_option maxHeartbeats 1000000 in
theorem toChanS_any (ao : Option Addr) (n cap : Nat) (es : List Ch) (w : World) (hn : es.length = n) (hl : es.length ≤ 1048576) (h : ReadsG layC w ao es) :
    Calls Tryd.prog 21 #[.slice ao n cap] w fun e w' => e = .returned (.slice (some ⟨w.heap.size, 0, none⟩) n n) ∧ OwnG layC w' w.heap.size (.slice (some ⟨w.heap.size, 0, none⟩) n n) es ∧ Fr w w' := by
  subst hn
  obtain ⟨i0, hi, hz0, hz1, hz2⟩ := info_parts Tryd.inf3C
  go_enter Tryd.func21, Tryd.ntmps21
  go_wp2_with (at_make; refine wpList_make_full _ rfl _ _ 33 rfl w.heap.size 75 i0 (.agg #[.int .i64 0, .int .i64 0, .int .i64 0, .int .i64 0, .bool false]) 5 Tryd.underlying33 hi hz0 hz1 .i64 .i64 _ _ es.length rfl rfl rfl rfl (by rw [hz2]; omega) (by unfold maxLen; omega) (Nat.le_refl _) ?_; intro w1 hown hgrow)
  obtain ⟨M, hM⟩ : ∃ M, M = (madeCells (Value.agg #[.int .i64 0, .int .i64 0, .int .i64 0, .int .i64 0, .bool false]).cells (es.length * 5)).toList := ⟨_, rfl⟩
  rw [← hM] at hown
  clear hM
  have hMl := hown.1
  have hsz := hgrow.size
  clear hi hz0 hz1 hz2
  go_loopw [4] (fun i wr => ∃ k : Nat, k ≤ es.length ∧ i = .int .i64 k ∧ wr.ownsRow w.heap.size 75 5 (.slice (some ⟨w.heap.size, 0, none⟩) es.length es.length) es.length ((es.take k).flatMap layC.cs ++ M.drop (k * 5)) ∧ Fr w wr) (fun i _ => es.length - (intOf i).toNat)
  case atStart => exact ⟨0, Nat.zero_le _, rfl, by simpa using hown, hgrow⟩
  case round =>
    obtain ⟨k, hk, rfl, ho, hf⟩ := hrel
    clear hown hgrow
    by_cases hlt : k < es.length
    · obtain ⟨b, off, rfl, d0, d1, d2, d3, d4⟩ := ch_at (h.fr hf) k hlt
      have HE : Hid (es.take k ++ [es[k]] = es.take (k + 1)) := (List.take_succ_eq_append_getElem hlt).symm
      obtain ⟨e, he⟩ : ∃ e, e = es[k] := ⟨_, rfl⟩
      rw [← he] at HE
      simp only [← he] at d0 d1 d2 d3 d4
      clear he
      have cT := fun w => toChan_any e w
      go_wp2_with fail
      refine (cT _).mono ?_
      rintro e w5 ⟨rfl, f5⟩
      have ho := ho.kept f5 (by simp [Value.ownBlock])
      have hll : ((es.take k).flatMap layC.cs ++ M.drop (k * 5)).length = es.length * 5 := ho.1
      have hat : ∀ i, i < 5 → ∃ u, w5.cell? ⟨w.heap.size, k * 5 + i, none⟩ = some u := fun i hi => by
        rw [ho.cellAt (k * 5 + i) (by omega)]
        exact ⟨_, List.getElem?_eq_getElem (by omega)⟩
      obtain ⟨q0, x0⟩ := hat 0 (by omega)
      obtain ⟨q1, x1⟩ := hat 1 (by omega)
      obtain ⟨q2, x2⟩ := hat 2 (by omega)
      obtain ⟨q3, x3⟩ := hat 3 (by omega)
      obtain ⟨q4, x4⟩ := hat 4 (by omega)
      rw [Nat.add_zero] at x0
      have z0 := ho.frozenAt (k * 5)
      have z1 := ho.frozenAt (k * 5 + 1)
      have z2 := ho.frozenAt (k * 5 + 2)
      have z3 := ho.frozenAt (k * 5 + 3)
      have z4 := ho.frozenAt (k * 5 + 4)
      have hst := own5 ho (k * 5) (.int .i64 e.o) (.int .i64 e.cap) (.int .i64 e.sent) (.int .i64 e.got) (.bool e.cl)
      rw [laid5 (L := layC) rfl (es.take k) M k es.length (by simp; omega) hlt hMl e (.int .i64 e.o) (.int .i64 e.cap) (.int .i64 e.sent) (.int .i64 e.got) (.bool e.cl) rfl, HE.out] at hst
      clear hat hll ho d0 d1 d2 d3 d4
      go_wp2_with fail
      go_roundw
      case rel => exact ⟨k + 1, by omega, by go_num, hst.1, (hf.trans f5).then hst.2 (fun j hj => by simp only [Option.some.injEq] at hj; omega)⟩
      case measure => simp [intOf]; omega
    · have ek : k = es.length := by omega
      have hd : M.drop (k * 5) = [] := List.drop_eq_nil_of_le (by rw [hMl, ek]; omega)
      rw [hd, List.append_nil, List.take_of_length_le (by omega)] at ho
      clear ek hd
      go_wp2_with fail
      go_ret
      exact ⟨rfl, ⟨w.heap.size, es.length, rfl, ho, by omega⟩, hf⟩
end Go.Proofs.YtpdakokmckmbgaaDoor
