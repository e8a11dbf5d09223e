/-
  Pack BU: IntsTo, ScTo, ScTo2, ScTo3, ScWt, ScMarkC, ScNil.
-/
import Derived.Test.YtplnijpolkflcaaGreatDoorPqAA
import Derived.Test.YtplnijpolkflcaaGreatDoorPqAG
import Derived.Laws.AppendOwnNone
import Derived.Test.YtplnijpolkflcaaGreatDoorPqAI
import Derived.Test.YtplnijpolkflcaaGreatDoorPqAS
namespace Go.Proofs.YtplnijpolkflcaaGreatDoor
open Go.RowKit

theorem take_succ_map (xs : List Int) (k : Nat) (h : k < xs.length) :
    (((xs.take k).map (Value.int .i64)) ++ List.replicate (xs.length - k) (Value.int .i64 0)).set k (.int .i64 xs[k]) =
      ((xs.take (k + 1)).map (Value.int .i64)) ++ List.replicate (xs.length - (k + 1)) (Value.int .i64 0) := by
  apply List.ext_getElem?
  intro j
  simp only [List.getElem?_set, List.getElem?_append, List.length_append, List.length_map, List.length_take, List.length_replicate, List.getElem?_map, List.getElem?_take, List.getElem?_replicate]
  by_cases hj : j = k
  · subst hj
    have e1 : j < min (j + 1) xs.length := by omega
    rw [if_pos rfl, if_pos (by omega), if_pos e1, if_pos (by omega), List.getElem?_eq_getElem h]
    rfl
  · by_cases hlt : j < k
    · have e1 : j < min k xs.length := by omega
      have e2 : j < min (k + 1) xs.length := by omega
      rw [if_neg (by omega), if_pos e1, if_pos e2, if_pos hlt, if_pos (by omega)]
    · have e1 : ¬ j < min k xs.length := by omega
      have e2 : ¬ j < min (k + 1) xs.length := by omega
      rw [if_neg (by omega), if_neg e1, if_neg e2]
      by_cases h3 : j < xs.length
      · rw [if_pos (by omega), if_pos (by omega)]
      · rw [if_neg (by omega), if_neg (by omega)]

set_option maxHeartbeats 400000 in
theorem toI_any (ao : Option Addr) (n cap : Nat) (xs : List Int) (w : World) (hn : xs.length = n) (h : Reads w ao xs) :
    Calls Tryz.prog 89 #[.slice ao n cap] w fun e w' => e = .returned (.slice (some ⟨w.heap.size, 0, none⟩) n n) ∧ OwnI w' w.heap.size (.slice (some ⟨w.heap.size, 0, none⟩) n n) xs ∧ Fr w w' := by
  subst hn
  have hl := h.len
  obtain ⟨i0, hi, hz0, hz1, hz2⟩ := info_parts Tryz.info2
  go_enter Tryz.func89, Tryz.ntmps89
  go_wp2_with (at_make; refine wpList_make_full _ rfl _ _ 27 rfl w.heap.size 2 i0 (.int .i64 0) 1 Tryz.underlying27 hi hz0 hz1 .i64 .i64 _ _ xs.length rfl rfl rfl rfl (by rw [hz2]; omega) (by unfold maxLen; omega) (Nat.le_refl _) ?_; intro w1 hown hgrow)
  go_loopw [4] (fun i wr => ∃ k : Nat, k ≤ xs.length ∧ i = .int .i64 k ∧ wr.ownsRow w.heap.size 2 1 (.slice (some ⟨w.heap.size, 0, none⟩) xs.length xs.length) xs.length (((xs.take k).map (Value.int .i64)) ++ List.replicate (xs.length - k) (Value.int .i64 0)) ∧ Fr w wr) (fun i _ => xs.length - (intOf i).toNat)
  case atStart =>
    refine ⟨0, Nat.zero_le _, rfl, ?_, hgrow⟩
    simpa [toList_madeCells_one, Value.cells] using hown
  case round =>
    obtain ⟨k, hk, rfl, ho, hf⟩ := hrel
    by_cases hlt : k < xs.length
    · obtain ⟨b, off, rfl, hc⟩ := h.at_ k hlt
      have hck := hf.cell (hc k hlt)
      have hfz := ho.frozenAt k
      have hce := ho.cellAt k (by omega)
      rw [getD_at hlt] at hck
      have hst := ho.stored k (.int .i64 xs[k])
      rw [take_succ_map xs k hlt] at hst
      clear hc hown hgrow
      go_wp2
      go_roundw
      case rel => exact ⟨k + 1, by omega, by go_num, hst.1, hf.then hst.2 (by intro j hj; simp at hj; omega)⟩
      case measure => simp [intOf]; omega
    · go_wp2
      go_ret
      have hkn : k = xs.length := by omega
      subst hkn
      refine ⟨rfl, ⟨?_, hl, h.bd⟩, hf⟩
      simpa using ho
end Go.Proofs.YtplnijpolkflcaaGreatDoor
namespace Go.Proofs.YtplnijpolkflcaaGreatDoor
open Go.RowKit

theorem own2 {w : World} {base g n cap : Nat} {e : TypeId} {xs : List Value} (h : w.ownsRow base e 2 (.slice (some ⟨g, 0, none⟩) n cap) n xs) (j : Nat) (a0 a1 : Value) :
    ((w.setCell ⟨g, j, none⟩ a0).setCell ⟨g, j + 1, none⟩ a1).ownsRow base e 2 (.slice (some ⟨g, 0, none⟩) n cap) n ((xs.set j a0).set (j + 1) a1) ∧ w.grownBy ((w.setCell ⟨g, j, none⟩ a0).setCell ⟨g, j + 1, none⟩ a1) (some g) := by
  have h0 := h.stored j a0
  have h1 := h0.1.stored (j + 1) a1
  exact ⟨h1.1, grown_trans h0.2 h1.2⟩
theorem own3 {w : World} {base g n cap : Nat} {e : TypeId} {xs : List Value} (h : w.ownsRow base e 3 (.slice (some ⟨g, 0, none⟩) n cap) n xs) (j : Nat) (a0 a1 a2 : Value) :
    (((w.setCell ⟨g, j, none⟩ a0).setCell ⟨g, j + 1, none⟩ a1).setCell ⟨g, j + 2, none⟩ a2).ownsRow base e 3 (.slice (some ⟨g, 0, none⟩) n cap) n (((xs.set j a0).set (j + 1) a1).set (j + 2) a2) ∧ w.grownBy (((w.setCell ⟨g, j, none⟩ a0).setCell ⟨g, j + 1, none⟩ a1).setCell ⟨g, j + 2, none⟩ a2) (some g) := by
  have h0 := h.stored j a0
  have h1 := h0.1.stored (j + 1) a1
  have h2 := h1.1.stored (j + 2) a2
  exact ⟨h2.1, grown_trans (grown_trans h0.2 h1.2) h2.2⟩
theorem own5 {w : World} {base g n cap : Nat} {e : TypeId} {xs : List Value} (h : w.ownsRow base e 5 (.slice (some ⟨g, 0, none⟩) n cap) n xs) (j : Nat) (a0 a1 a2 a3 a4 : Value) :
    (((((w.setCell ⟨g, j, none⟩ a0).setCell ⟨g, j + 1, none⟩ a1).setCell ⟨g, j + 2, none⟩ a2).setCell ⟨g, j + 3, none⟩ a3).setCell ⟨g, j + 4, none⟩ a4).ownsRow base e 5 (.slice (some ⟨g, 0, none⟩) n cap) n (((((xs.set j a0).set (j + 1) a1).set (j + 2) a2).set (j + 3) a3).set (j + 4) a4) ∧ w.grownBy (((((w.setCell ⟨g, j, none⟩ a0).setCell ⟨g, j + 1, none⟩ a1).setCell ⟨g, j + 2, none⟩ a2).setCell ⟨g, j + 3, none⟩ a3).setCell ⟨g, j + 4, none⟩ a4) (some g) := by
  have h0 := h.stored j a0
  have h1 := h0.1.stored (j + 1) a1
  have h2 := h1.1.stored (j + 2) a2
  have h3 := h2.1.stored (j + 3) a3
  have h4 := h3.1.stored (j + 4) a4
  exact ⟨h4.1, grown_trans (grown_trans (grown_trans (grown_trans h0.2 h1.2) h2.2) h3.2) h4.2⟩
theorem cellsG_len {α : Type} (L : Lay α) (xs : List α) : (xs.flatMap L.cs).length = xs.length * L.sz := by
  induction xs with
  | nil => simp
  | cons e es ih => rw [List.flatMap_cons, List.length_append, ih, L.len, List.length_cons, Nat.succ_mul]; omega
theorem laid2 {α : Type} {L : Lay α} (hs : L.sz = 2) (zs : List α) (M : List Value) (k n : Nat) (hz : zs.length = k) (hk : k < n) (hM : M.length = n * 2) (e : α) (a0 a1 : Value) (he : L.cs e = [a0, a1]) :
    ((zs.flatMap L.cs ++ M.drop (k * 2)).set (k * 2) a0).set (k * 2 + 1) a1 = (zs ++ [e]).flatMap L.cs ++ M.drop ((k + 1) * 2) := by
  have hl : (zs.flatMap L.cs).length = k * 2 := by rw [cellsG_len, hs, hz]
  have hd : ∃ m0 m1, M.drop (k * 2) = m0 :: m1 :: M.drop ((k + 1) * 2) := ⟨_, _, by rw [List.drop_eq_getElem_cons (show k * 2 < M.length by omega), List.drop_eq_getElem_cons (show k * 2 + 1 < M.length by omega), show (k + 1) * 2 = k * 2 + 1 + 1 by omega]⟩
  obtain ⟨m0, m1, hd⟩ := hd
  rw [hd, List.flatMap_append]
  clear hd
  generalize M.drop ((k + 1) * 2) = R
  simp only [List.flatMap_cons, List.flatMap_nil, List.append_nil, he]
  rw [List.set_append_right _ _ (by omega), List.set_append_right _ _ (by omega), hl]
  simp
theorem laid3 {α : Type} {L : Lay α} (hs : L.sz = 3) (zs : List α) (M : List Value) (k n : Nat) (hz : zs.length = k) (hk : k < n) (hM : M.length = n * 3) (e : α) (a0 a1 a2 : Value) (he : L.cs e = [a0, a1, a2]) :
    (((zs.flatMap L.cs ++ M.drop (k * 3)).set (k * 3) a0).set (k * 3 + 1) a1).set (k * 3 + 2) a2 = (zs ++ [e]).flatMap L.cs ++ M.drop ((k + 1) * 3) := by
  have hl : (zs.flatMap L.cs).length = k * 3 := by rw [cellsG_len, hs, hz]
  have hd : ∃ m0 m1 m2, M.drop (k * 3) = m0 :: m1 :: m2 :: M.drop ((k + 1) * 3) := ⟨_, _, _, by rw [List.drop_eq_getElem_cons (show k * 3 < M.length by omega), List.drop_eq_getElem_cons (show k * 3 + 1 < M.length by omega), List.drop_eq_getElem_cons (show k * 3 + 1 + 1 < M.length by omega), show (k + 1) * 3 = k * 3 + 1 + 1 + 1 by omega]⟩
  obtain ⟨m0, m1, m2, hd⟩ := hd
  rw [hd, List.flatMap_append]
  clear hd
  generalize M.drop ((k + 1) * 3) = R
  simp only [List.flatMap_cons, List.flatMap_nil, List.append_nil, he]
  rw [List.set_append_right _ _ (by omega), List.set_append_right _ _ (by omega), List.set_append_right _ _ (by omega), hl]
  simp
theorem laid5 {α : Type} {L : Lay α} (hs : L.sz = 5) (zs : List α) (M : List Value) (k n : Nat) (hz : zs.length = k) (hk : k < n) (hM : M.length = n * 5) (e : α) (a0 a1 a2 a3 a4 : Value) (he : L.cs e = [a0, a1, a2, a3, a4]) :
    (((((zs.flatMap L.cs ++ M.drop (k * 5)).set (k * 5) a0).set (k * 5 + 1) a1).set (k * 5 + 2) a2).set (k * 5 + 3) a3).set (k * 5 + 4) a4 = (zs ++ [e]).flatMap L.cs ++ M.drop ((k + 1) * 5) := by
  have hl : (zs.flatMap L.cs).length = k * 5 := by rw [cellsG_len, hs, hz]
  have hd : ∃ m0 m1 m2 m3 m4, M.drop (k * 5) = m0 :: m1 :: m2 :: m3 :: m4 :: M.drop ((k + 1) * 5) := ⟨_, _, _, _, _, by rw [List.drop_eq_getElem_cons (show k * 5 < M.length by omega), List.drop_eq_getElem_cons (show k * 5 + 1 < M.length by omega), List.drop_eq_getElem_cons (show k * 5 + 1 + 1 < M.length by omega), List.drop_eq_getElem_cons (show k * 5 + 1 + 1 + 1 < M.length by omega), List.drop_eq_getElem_cons (show k * 5 + 1 + 1 + 1 + 1 < M.length by omega), show (k + 1) * 5 = k * 5 + 1 + 1 + 1 + 1 + 1 by omega]⟩
  obtain ⟨m0, m1, m2, m3, m4, hd⟩ := hd
  rw [hd, List.flatMap_append]
  clear hd
  generalize M.drop ((k + 1) * 5) = R
  simp only [List.flatMap_cons, List.flatMap_nil, List.append_nil, he]
  rw [List.set_append_right _ _ (by omega), List.set_append_right _ _ (by omega), List.set_append_right _ _ (by omega), List.set_append_right _ _ (by omega), List.set_append_right _ _ (by omega), hl]
  simp
theorem Tryz.inf3N : (Tryz.prog.info? 88).map (fun i => (i.zero, i.size, i.bytes)) = some (some (.agg #[.int .i64 0, .int .i64 0]), 2, 16) := by kernel_rfl
theorem Tryz.inf3C : (Tryz.prog.info? 85).map (fun i => (i.zero, i.size, i.bytes)) = some (some (.agg #[.int .i64 0, .int .i64 0, .int .i64 0, .int .i64 0, .bool false]), 5, 40) := by kernel_rfl
theorem Tryz.inf3L : (Tryz.prog.info? 82).map (fun i => (i.zero, i.size, i.bytes)) = some (some (.agg #[.int .i64 0, .int .i64 0, .slice none 0 0]), 3, 40) := by kernel_rfl

theorem toCount_any (c : Ct) (w : World) : Calls Tryz.prog 157 #[.agg #[.int .i64 c.o, .int .i64 c.n]] w fun e w' => e = .returned (.agg #[.int .i64 c.o, .int .i64 c.n]) ∧ Fr w w' := by
  obtain ⟨o, n⟩ := c
  simp only
  go_enter Tryz.func157, Tryz.ntmps157
  go_wp2
  refine bodyPost_ret (v := .agg #[.int .i64 o, .int .i64 n]) (by simp [results, Tryz.results157, go_sem]) rfl ⟨rfl, ((Fr.alloc _ _).trans (Fr.alloc _ _)).trans (Fr.alloc _ _)⟩
theorem toChan_any (c : Ch) (w : World) : Calls Tryz.prog 156 #[.agg #[.int .i64 c.o, .int .i64 c.cap, .int .i64 c.sent, .int .i64 c.got, .bool c.cl]] w fun e w' => e = .returned (.agg #[.int .i64 c.o, .int .i64 c.cap, .int .i64 c.sent, .int .i64 c.got, .bool c.cl]) ∧ Fr w w' := by
  obtain ⟨o, cap, sent, got, cl⟩ := c
  simp only
  go_enter Tryz.func156, Tryz.ntmps156
  go_wp2
  refine bodyPost_ret (v := .agg #[.int .i64 o, .int .i64 cap, .int .i64 sent, .int .i64 got, .bool cl]) (by simp [results, Tryz.results156, go_sem]) rfl ⟨rfl, ((Fr.alloc _ _).trans (Fr.alloc _ _)).trans (Fr.alloc _ _)⟩

set_option maxHeartbeats 1000000 in
theorem toCountS_any (ao : Option Addr) (n cap : Nat) (es : List Ct) (w : World) (hn : es.length = n) (hl : es.length ≤ 1048576) (h : ReadsG layN w ao es) :
    Calls Tryz.prog 88 #[.slice ao n cap] w fun e w' => e = .returned (.slice (some ⟨w.heap.size, 0, none⟩) n n) ∧ OwnG layN w' w.heap.size (.slice (some ⟨w.heap.size, 0, none⟩) n n) es ∧ Fr w w' := by
  subst hn
  obtain ⟨i0, hi, hz0, hz1, hz2⟩ := info_parts Tryz.inf3N
  go_enter Tryz.func88, Tryz.ntmps88
  go_wp2_with (at_make; refine wpList_make_full _ rfl _ _ 26 rfl w.heap.size 88 i0 (.agg #[.int .i64 0, .int .i64 0]) 2 Tryz.underlying26 hi hz0 hz1 .i64 .i64 _ _ es.length rfl rfl rfl rfl (by rw [hz2]; omega) (by unfold maxLen; omega) (Nat.le_refl _) ?_; intro w1 hown hgrow)
  obtain ⟨M, hM⟩ : ∃ M, M = (madeCells (Value.agg #[.int .i64 0, .int .i64 0]).cells (es.length * 2)).toList := ⟨_, rfl⟩
  rw [← hM] at hown
  clear hM
  have hMl := hown.1
  have hsz := hgrow.size
  clear hi hz0 hz1 hz2
  go_loopw [4] (fun i wr => ∃ k : Nat, k ≤ es.length ∧ i = .int .i64 k ∧ wr.ownsRow w.heap.size 88 2 (.slice (some ⟨w.heap.size, 0, none⟩) es.length es.length) es.length ((es.take k).flatMap layN.cs ++ M.drop (k * 2)) ∧ Fr w wr) (fun i _ => es.length - (intOf i).toNat)
  case atStart => exact ⟨0, Nat.zero_le _, rfl, by simpa using hown, hgrow⟩
  case round =>
    obtain ⟨k, hk, rfl, ho, hf⟩ := hrel
    clear hown hgrow
    by_cases hlt : k < es.length
    · obtain ⟨b, off, rfl, d0, d1⟩ := ct_at (h.fr hf) k hlt
      have HE : Hid (es.take k ++ [es[k]] = es.take (k + 1)) := (List.take_succ_eq_append_getElem hlt).symm
      obtain ⟨e, he⟩ : ∃ e, e = es[k] := ⟨_, rfl⟩
      rw [← he] at HE
      simp only [← he] at d0 d1
      clear he
      have cT := fun w => toCount_any e w
      go_wp2_with fail
      refine (cT _).mono ?_
      rintro e w5 ⟨rfl, f5⟩
      have ho := ho.kept f5 (by simp [Value.ownBlock])
      have hll : ((es.take k).flatMap layN.cs ++ M.drop (k * 2)).length = es.length * 2 := ho.1
      have hat : ∀ i, i < 2 → ∃ u, w5.cell? ⟨w.heap.size, k * 2 + i, none⟩ = some u := fun i hi => by
        rw [ho.cellAt (k * 2 + i) (by omega)]
        exact ⟨_, List.getElem?_eq_getElem (by omega)⟩
      obtain ⟨q0, x0⟩ := hat 0 (by omega)
      obtain ⟨q1, x1⟩ := hat 1 (by omega)
      rw [Nat.add_zero] at x0
      have z0 := ho.frozenAt (k * 2)
      have z1 := ho.frozenAt (k * 2 + 1)
      have hst := own2 ho (k * 2) (.int .i64 e.o) (.int .i64 e.n)
      rw [laid2 (L := layN) rfl (es.take k) M k es.length (by simp; omega) hlt hMl e (.int .i64 e.o) (.int .i64 e.n) rfl, HE.out] at hst
      clear hat hll ho d0 d1
      go_wp2_with fail
      go_roundw
      case rel => exact ⟨k + 1, by omega, by go_num, hst.1, (hf.trans f5).then hst.2 (fun j hj => by simp only [Option.some.injEq] at hj; omega)⟩
      case measure => simp [intOf]; omega
    · have ek : k = es.length := by omega
      have hd : M.drop (k * 2) = [] := List.drop_eq_nil_of_le (by rw [hMl, ek]; omega)
      rw [hd, List.append_nil, List.take_of_length_le (by omega)] at ho
      clear ek hd
      go_wp2_with fail
      go_ret
      exact ⟨rfl, ⟨w.heap.size, es.length, rfl, ho, by omega⟩, hf⟩

set_option maxHeartbeats 1000000 in
theorem toChanS_any (ao : Option Addr) (n cap : Nat) (es : List Ch) (w : World) (hn : es.length = n) (hl : es.length ≤ 1048576) (h : ReadsG layC w ao es) :
    Calls Tryz.prog 87 #[.slice ao n cap] w fun e w' => e = .returned (.slice (some ⟨w.heap.size, 0, none⟩) n n) ∧ OwnG layC w' w.heap.size (.slice (some ⟨w.heap.size, 0, none⟩) n n) es ∧ Fr w w' := by
  subst hn
  obtain ⟨i0, hi, hz0, hz1, hz2⟩ := info_parts Tryz.inf3C
  go_enter Tryz.func87, Tryz.ntmps87
  go_wp2_with (at_make; refine wpList_make_full _ rfl _ _ 25 rfl w.heap.size 85 i0 (.agg #[.int .i64 0, .int .i64 0, .int .i64 0, .int .i64 0, .bool false]) 5 Tryz.underlying25 hi hz0 hz1 .i64 .i64 _ _ es.length rfl rfl rfl rfl (by rw [hz2]; omega) (by unfold maxLen; omega) (Nat.le_refl _) ?_; intro w1 hown hgrow)
  obtain ⟨M, hM⟩ : ∃ M, M = (madeCells (Value.agg #[.int .i64 0, .int .i64 0, .int .i64 0, .int .i64 0, .bool false]).cells (es.length * 5)).toList := ⟨_, rfl⟩
  rw [← hM] at hown
  clear hM
  have hMl := hown.1
  have hsz := hgrow.size
  clear hi hz0 hz1 hz2
  go_loopw [4] (fun i wr => ∃ k : Nat, k ≤ es.length ∧ i = .int .i64 k ∧ wr.ownsRow w.heap.size 85 5 (.slice (some ⟨w.heap.size, 0, none⟩) es.length es.length) es.length ((es.take k).flatMap layC.cs ++ M.drop (k * 5)) ∧ Fr w wr) (fun i _ => es.length - (intOf i).toNat)
  case atStart => exact ⟨0, Nat.zero_le _, rfl, by simpa using hown, hgrow⟩
  case round =>
    obtain ⟨k, hk, rfl, ho, hf⟩ := hrel
    clear hown hgrow
    by_cases hlt : k < es.length
    · obtain ⟨b, off, rfl, d0, d1, d2, d3, d4⟩ := ch_at (h.fr hf) k hlt
      have HE : Hid (es.take k ++ [es[k]] = es.take (k + 1)) := (List.take_succ_eq_append_getElem hlt).symm
      obtain ⟨e, he⟩ : ∃ e, e = es[k] := ⟨_, rfl⟩
      rw [← he] at HE
      simp only [← he] at d0 d1 d2 d3 d4
      clear he
      have cT := fun w => toChan_any e w
      go_wp2_with fail
      refine (cT _).mono ?_
      rintro e w5 ⟨rfl, f5⟩
      have ho := ho.kept f5 (by simp [Value.ownBlock])
      have hll : ((es.take k).flatMap layC.cs ++ M.drop (k * 5)).length = es.length * 5 := ho.1
      have hat : ∀ i, i < 5 → ∃ u, w5.cell? ⟨w.heap.size, k * 5 + i, none⟩ = some u := fun i hi => by
        rw [ho.cellAt (k * 5 + i) (by omega)]
        exact ⟨_, List.getElem?_eq_getElem (by omega)⟩
      obtain ⟨q0, x0⟩ := hat 0 (by omega)
      obtain ⟨q1, x1⟩ := hat 1 (by omega)
      obtain ⟨q2, x2⟩ := hat 2 (by omega)
      obtain ⟨q3, x3⟩ := hat 3 (by omega)
      obtain ⟨q4, x4⟩ := hat 4 (by omega)
      rw [Nat.add_zero] at x0
      have z0 := ho.frozenAt (k * 5)
      have z1 := ho.frozenAt (k * 5 + 1)
      have z2 := ho.frozenAt (k * 5 + 2)
      have z3 := ho.frozenAt (k * 5 + 3)
      have z4 := ho.frozenAt (k * 5 + 4)
      have hst := own5 ho (k * 5) (.int .i64 e.o) (.int .i64 e.cap) (.int .i64 e.sent) (.int .i64 e.got) (.bool e.cl)
      rw [laid5 (L := layC) rfl (es.take k) M k es.length (by simp; omega) hlt hMl e (.int .i64 e.o) (.int .i64 e.cap) (.int .i64 e.sent) (.int .i64 e.got) (.bool e.cl) rfl, HE.out] at hst
      clear hat hll ho d0 d1 d2 d3 d4
      go_wp2_with fail
      go_roundw
      case rel => exact ⟨k + 1, by omega, by go_num, hst.1, (hf.trans f5).then hst.2 (fun j hj => by simp only [Option.some.injEq] at hj; omega)⟩
      case measure => simp [intOf]; omega
    · have ek : k = es.length := by omega
      have hd : M.drop (k * 5) = [] := List.drop_eq_nil_of_le (by rw [hMl, ek]; omega)
      rw [hd, List.append_nil, List.take_of_length_le (by omega)] at ho
      clear ek hd
      go_wp2_with fail
      go_ret
      exact ⟨rfl, ⟨w.heap.size, es.length, rfl, ho, by omega⟩, hf⟩
end Go.Proofs.YtplnijpolkflcaaGreatDoor
namespace Go.Proofs.YtplnijpolkflcaaGreatDoor
open Go.RowKit

theorem put3 (w : World) (r : Nat) (v0 v1 v2 : Value) : w.grownBy (((w.setCell ⟨r, 0, none⟩ v0).setCell ⟨r, 1, none⟩ v1).setCell ⟨r, 2, none⟩ v2) (some r) :=
  grown_trans (grown_trans (grown_set _ r 0 _) (grown_set _ r 1 _)) (grown_set _ r 2 _)

end Go.Proofs.YtplnijpolkflcaaGreatDoor
namespace Go.Proofs.YtplnijpolkflcaaGreatDoor
open Go.RowKit

theorem ScK.set1 {w : World} {b : Nat} {s : Sv} (h : ScK w b s) (ao : Option Addr) (n c : Nat) : ScK (w.setCell ⟨b, 1, none⟩ (.slice ao n c)) b { s with lo := ao, ll := n, lc := c } := heap_setCell_same w b 1 _ _ (.slice ao n c) h
theorem ScK.set2 {w : World} {b : Nat} {s : Sv} (h : ScK w b s) (ao : Option Addr) (n c : Nat) : ScK (w.setCell ⟨b, 2, none⟩ (.slice ao n c)) b { s with co := ao, cl := n, cc := c } := heap_setCell_same w b 2 _ _ (.slice ao n c) h
theorem ScK.set3 {w : World} {b : Nat} {s : Sv} (h : ScK w b s) (ao : Option Addr) (n c : Nat) : ScK (w.setCell ⟨b, 3, none⟩ (.slice ao n c)) b { s with no := ao, nl := n, nc := c } := heap_setCell_same w b 3 _ _ (.slice ao n c) h
theorem argB (w : World) (s : Sv) : ScB (w.alloc (.cells #[.int .i64 s.g, .slice s.lo s.ll s.lc, .slice s.co s.cl s.cc, .slice s.no s.nl s.nc, .slice s.oo s.ol s.oc] 54)) w.heap.size s :=
  ⟨by simp [go_sem], by simp [go_sem], by simp [go_sem], by simp [go_sem], by simp [go_sem]⟩
theorem OwnG.reads' {α : Type} {L : Lay α} {w : World} {base g n cap : Nat} {xs : List α} (h : OwnG L w base (.slice (some ⟨g, 0, none⟩) n cap) xs) : ReadsG L w (some ⟨g, 0, none⟩) xs ∧ n = xs.length := by
  obtain ⟨g', cap', e, ho, hl⟩ := h
  simp at e
  obtain ⟨rfl, rfl, rfl⟩ := e
  exact ⟨own_readsG ho hl, rfl⟩

end Go.Proofs.YtplnijpolkflcaaGreatDoor
namespace Go.Proofs.YtplnijpolkflcaaGreatDoor
open Go.RowKit

def Shp (w w' : World) : Prop := ∀ (g : Nat) (cur : Array Value) (T : TypeId), w.heap[g]? = some (.cells cur T (0, 0)) → ∃ cur', w'.heap[g]? = some (.cells cur' T (0, 0)) ∧ cur'.size = cur.size
theorem Shp.refl (w : World) : Shp w w := fun _ cur _ h => ⟨cur, h, rfl⟩
theorem Shp.trans {a b c : World} (h : Shp a b) (k : Shp b c) : Shp a c := fun g cur T q => by
  obtain ⟨c1, q1, q2⟩ := h g cur T q
  obtain ⟨c2, q3, q4⟩ := k g c1 T q1
  exact ⟨c2, q3, q4.trans q2⟩
theorem Fr.shp {w w' : World} (h : Fr w w') : Shp w w' := fun g cur T q => ⟨cur, (h.block g (Array.getElem?_eq_some_iff.1 q).1 (by simp)).trans q, rfl⟩
theorem shp_set (w : World) (b i : Nat) (v : Value) : Shp w (w.setCell ⟨b, i, none⟩ v) := fun g cur T q => by
  by_cases e : g = b
  · subst e
    exact ⟨_, heap_setCell_same w g i _ _ v q, by simp⟩
  · exact ⟨cur, (heap_setCell_other w ⟨b, i, none⟩ g v e).trans q, rfl⟩
def Wt (w : World) (ao : Option Addr) (n sz : Nat) : Prop := ∃ (g : Nat) (T : TypeId) (cur : Array Value), ao = some ⟨g, 0, none⟩ ∧ w.heap[g]? = some (.cells cur T (0, 0)) ∧ n * sz ≤ cur.size
theorem Wt.shp {w w' : World} {ao : Option Addr} {n sz : Nat} (h : Wt w ao n sz) (k : Shp w w') : Wt w' ao n sz := by
  obtain ⟨g, T, cur, e, q, hs⟩ := h
  obtain ⟨c2, q2, q3⟩ := k g cur T q
  exact ⟨g, T, c2, e, q2, by omega⟩
theorem wt_own {w : World} {base e size g n m cap : Nat} {xs : List Value} (h : w.ownsRow base e size (.slice (some ⟨g, 0, none⟩) n cap) m xs) : Wt w (some ⟨g, 0, none⟩) n size := by
  rcases h.2 with ⟨q, _⟩ | ⟨g', c', cur, q, _, hg, hnc, _, hs, _⟩
  · simp at q
  · simp only [Value.slice.injEq, Option.some.injEq, Addr.mk.injEq, and_true] at q
    obtain ⟨rfl, rfl, rfl⟩ := q
    exact ⟨g, e, cur, rfl, hg, by rw [hs]; exact Nat.mul_le_mul_right _ hnc⟩
theorem Wt.cell {w : World} {g n sz : Nat} (h : Wt w (some ⟨g, 0, none⟩) n sz) {i : Nat} (hi : i < n * sz) : (∃ v, w.cell? ⟨g, i, none⟩ = some v) ∧ w.frozen? ⟨g, i, none⟩ = false := by
  obtain ⟨g', T, cur, e, q, hs⟩ := h
  simp only [Option.some.injEq, Addr.mk.injEq, and_true] at e
  subst e
  refine ⟨?_, frozen_of_row w g i _ _ q⟩
  rw [cell_of_row w g i _ _ _ q]
  exact ⟨cur[i], Array.getElem?_eq_getElem (by omega)⟩

set_option maxHeartbeats 1000000 in
theorem toLockW_any {B : Nat → Prop} (lv : Lv) (l : Lk) (w : World) (h : LkR B w lv l) :
    Calls Tryz.prog 155 #[.agg #[.int .i64 lv.o, .int .i64 lv.wr, .slice lv.ro lv.rn lv.rc]] w fun e w' => ∃ lv' : Lv, e = .returned (.agg #[.int .i64 lv'.o, .int .i64 lv'.wr, .slice lv'.ro lv'.rn lv'.rc]) ∧ LkR (fun b => w.heap.size ≤ b ∧ b < w'.heap.size) w' lv' l ∧ Fr w w' ∧ Wt w' lv'.ro lv'.rn 1 := by
  have f1 := Fr.alloc w (.cells #[.int .i64 lv.o, .int .i64 lv.wr, .slice lv.ro lv.rn lv.rc] 179)
  have f2 := Fr.alloc (w.alloc (.cells #[.int .i64 lv.o, .int .i64 lv.wr, .slice lv.ro lv.rn lv.rc] 179)) (.cells #[.int .i64 0, .int .i64 0, .slice none 0 0] 82)
  have f3 := Fr.alloc ((w.alloc (.cells #[.int .i64 lv.o, .int .i64 lv.wr, .slice lv.ro lv.rn lv.rc] 179)).alloc (.cells #[.int .i64 0, .int .i64 0, .slice none 0 0] 82)) (.cells #[.int .i64 lv.o, .int .i64 lv.wr, .slice none 0 0] 82)
  have kr := (LvK.new (w.alloc (.cells #[.int .i64 lv.o, .int .i64 lv.wr, .slice lv.ro lv.rn lv.rc] 179)) ⟨0, 0, none, 0, 0⟩).keep f3 (by simp)
  have kl := LvK.new ((w.alloc (.cells #[.int .i64 lv.o, .int .i64 lv.wr, .slice lv.ro lv.rn lv.rc] 179)).alloc (.cells #[.int .i64 0, .int .i64 0, .slice none 0 0] 82)) ⟨lv.o, lv.wr, none, 0, 0⟩
  have cI := toI_any lv.ro lv.rn lv.rc l.rd (((w.alloc (.cells #[.int .i64 lv.o, .int .i64 lv.wr, .slice lv.ro lv.rn lv.rc] 179)).alloc (.cells #[.int .i64 0, .int .i64 0, .slice none 0 0] 82)).alloc (.cells #[.int .i64 lv.o, .int .i64 lv.wr, .slice none 0 0] 82)) h.rn.symm (h.rd.fr ((f1.trans f2).trans f3))
  simp only [World.size_alloc] at kr kl cI
  have fW := (f1.trans f2).trans f3
  have HR : Hid (LkR B w lv l) := h
  clear h f1 f2 f3
  obtain ⟨o, wt, ro, rn, rc⟩ := lv
  simp only at kr kl cI fW HR ⊢
  go_enter Tryz.func155, Tryz.ntmps155
  go_wp2_with fail
  obtain ⟨b0, hb⟩ : ∃ b0, b0 = w.heap.size := ⟨_, rfl⟩
  refine cI.mono ?_
  rintro x u ⟨rfl, ou, fu⟩
  have F := fW.trans fu
  have kr := kr.keep fu (by simp)
  have kl := kl.keep fu (by simp)
  have tu := own_lt ou
  have HB : Hid (b0 = w.heap.size) := hb
  rw [← hb] at kr kl tu ⊢
  rw [← hb] at ou
  clear cI fW fu hb
  have gs := grown_set u (b0 + 1 + 1) 2 (.slice (some ⟨b0 + 1 + 1 + 1, 0, none⟩) rn rn)
  have q4 := kl.setR (some ⟨b0 + 1 + 1 + 1, 0, none⟩) rn rn
  have qr := kr.keep gs (by simp)
  have fz := kl.free 2
  have x2 := kl.at.2.2
  obtain ⟨y0, y1, y2⟩ := q4.at
  obtain ⟨z0, z1, z2⟩ := qr.at
  have zf := fun i => qr.free i
  simp only at x2 y0 y1 y2 z0 z1 z2
  have HO : Hid (OwnI u (b0 + 1 + 1 + 1) (.slice (some ⟨b0 + 1 + 1 + 1, 0, none⟩) rn rn) l.rd) := ou
  have HW : Hid (u.ownsRow (b0 + 1 + 1 + 1) 2 1 (.slice (some ⟨b0 + 1 + 1 + 1, 0, none⟩) rn rn) l.rd.length (l.rd.map (Value.int .i64))) := ou.1
  have HT : Hid (b0 + 1 + 1 + 1 < u.heap.size) := tu.2
  have HF : Hid (Fr w u) := F
  clear q4 qr kr kl ou tu F gs
  go_wp2_with fail
  have g1 := grown_set u (b0 + 1 + 1) 2 (.slice (some ⟨b0 + 1 + 1 + 1, 0, none⟩) rn rn)
  have g2 := put3 (u.setCell ⟨b0 + 1 + 1, 2, none⟩ (.slice (some ⟨b0 + 1 + 1 + 1, 0, none⟩) rn rn)) (b0 + 1) (.int .i64 o) (.int .i64 wt) (.slice (some ⟨b0 + 1 + 1 + 1, 0, none⟩) rn rn)
  have s1 := g1.size
  have s2 := g2.size
  have hb := HB.out
  have ht := HT.out
  refine bodyPost_ret (v := .agg #[.int .i64 o, .int .i64 wt, .slice (some ⟨b0 + 1 + 1 + 1, 0, none⟩) rn rn]) (by simp [results, Tryz.results155, go_sem, z0, z1, z2]) rfl ⟨⟨o, wt, some ⟨b0 + 1 + 1 + 1, 0, none⟩, rn, rn⟩, rfl, ?_, (HF.out.then g1 (one_blk (by omega))).then g2 (one_blk (by omega)), ?_⟩
  rotate_left
  · exact ((wt_own HW.out).shp (shp_set _ _ _ _)).shp (((shp_set _ _ _ _).trans (shp_set _ _ _ _)).trans (shp_set _ _ _ _))
  exact ⟨HR.out.o, HR.out.wr, HR.out.rn, (HO.out.reads.keep g1 (.inr (by simp [blk]))).keep g2 (.inr (by simp [blk]; omega)), fun b hb2 => by simp only [blk, Option.map_some, Option.some.injEq] at hb2; subst hb2; exact ⟨by omega, by omega⟩, fun q => by simp at q, HR.out.sz, HR.out.io, HR.out.iw⟩

set_option maxHeartbeats 1000000 in
theorem toLockSW_any {B : Nat → Prop} (ao : Option Addr) (n cap : Nat) (lvs : List Lv) (ls : List Lk) (w : World) (hn : lvs.length = n) (hl : lvs.length ≤ 1048576) (h : ReadsG layL w ao lvs) (hL : LksR B w lvs ls) :
    Calls Tryz.prog 86 #[.slice ao n cap] w fun e w' => e = .returned (.slice (some ⟨w.heap.size, 0, none⟩) n n) ∧ (∃ zs : List Lv, OwnG layL w' w.heap.size (.slice (some ⟨w.heap.size, 0, none⟩) n n) zs ∧ LksR (fun b => w.heap.size < b ∧ b < w'.heap.size) w' zs ls ∧ ∀ z ∈ zs, Wt w' z.ro z.rn 1) ∧ Fr w w' := by
  subst hn
  have HL : Hid (lvs.length = ls.length) := hL.len
  obtain ⟨i0, hi, hz0, hz1, hz2⟩ := info_parts Tryz.inf3L
  go_enter Tryz.func86, Tryz.ntmps86
  go_wp2_with (at_make; refine wpList_make_full _ rfl _ _ 24 rfl w.heap.size 82 i0 (.agg #[.int .i64 0, .int .i64 0, .slice none 0 0]) 3 Tryz.underlying24 hi hz0 hz1 .i64 .i64 _ _ lvs.length rfl rfl rfl rfl (by rw [hz2]; omega) (by unfold maxLen; omega) (Nat.le_refl _) ?_; intro w1 hown hgrow)
  obtain ⟨M, hM⟩ : ∃ M, M = (madeCells (Value.agg #[.int .i64 0, .int .i64 0, .slice none 0 0]).cells (lvs.length * 3)).toList := ⟨_, rfl⟩
  rw [← hM] at hown
  clear hM
  have hMl := hown.1
  have hsz := (hown.lt w.heap.size rfl).2
  clear hi hz0 hz1 hz2
  go_loopw [4] (fun i wr => ∃ (k : Nat) (zs : List Lv), k ≤ lvs.length ∧ i = .int .i64 k ∧ zs.length = k ∧ wr.ownsRow w.heap.size 82 3 (.slice (some ⟨w.heap.size, 0, none⟩) lvs.length lvs.length) lvs.length (zs.flatMap layL.cs ++ M.drop (k * 3)) ∧ LksR (fun b => w.heap.size < b ∧ b < wr.heap.size) wr zs (ls.take k) ∧ Fr w wr ∧ Hid (∀ z ∈ zs, Wt wr z.ro z.rn 1)) (fun i _ => lvs.length - (intOf i).toNat)
  case atStart => exact ⟨0, [], Nat.zero_le _, rfl, rfl, by simpa using hown, LksR.nil _ _, hgrow, fun z hz => by simp at hz⟩
  case round =>
    obtain ⟨k, zs, hk, rfl, hzl, ho, hR, hf, HWT⟩ := hrel
    have s7 := (ho.lt w.heap.size rfl).2
    have HZ : Hid (zs.length = k) := hzl
    have HR : Hid (LksR (fun b => w.heap.size < b ∧ b < wr.heap.size) wr zs (ls.take k)) := hR
    clear hown hgrow hzl hR
    by_cases hlt : k < lvs.length
    · have hlt2 : k < ls.length := by have := HL.out; omega
      obtain ⟨b, off, rfl, d0, d1, d2⟩ := lv_at (h.fr hf) k hlt
      have HE : Hid (ls.take k ++ [ls[k]] = ls.take (k + 1)) := (List.take_succ_eq_append_getElem hlt2).symm
      have cT := toLockW_any lvs[k] ls[k] wr ((hL.at_ k hlt hlt2).fr hf)
      obtain ⟨e, he⟩ : ∃ e, e = lvs[k] := ⟨_, rfl⟩
      obtain ⟨l, hll⟩ : ∃ l, l = ls[k] := ⟨_, rfl⟩
      simp only [← he] at d0 d1 d2 cT
      rw [← hll] at HE
      simp only [← hll] at cT
      clear he hll hlt2
      go_wp2_with fail
      refine cT.mono ?_
      rintro x w5 ⟨⟨o', wt', ro', rn', rc'⟩, rfl, hlk, f5, hw5⟩
      have HW5 : Hid (∀ z ∈ zs ++ [(⟨o', wt', ro', rn', rc'⟩ : Lv)], Wt (((w5.setCell ⟨w.heap.size, k * 3, none⟩ (.int .i64 o')).setCell ⟨w.heap.size, k * 3 + 1, none⟩ (.int .i64 wt')).setCell ⟨w.heap.size, k * 3 + 2, none⟩ (.slice ro' rn' rc')) z.ro z.rn 1) := fun z hz => by
        have q := ((shp_set w5 w.heap.size (k * 3) (.int .i64 o')).trans (shp_set _ w.heap.size (k * 3 + 1) (.int .i64 wt'))).trans (shp_set _ w.heap.size (k * 3 + 2) (.slice ro' rn' rc'))
        rcases List.mem_append.1 hz with hz | hz
        · exact ((HWT.out z hz).shp f5.shp).shp q
        · simp only [List.mem_singleton] at hz
          subst hz
          exact hw5.shp q
      have ho := ho.kept f5 (by simp [Value.ownBlock])
      have hll : (zs.flatMap layL.cs ++ M.drop (k * 3)).length = lvs.length * 3 := ho.1
      have hat : ∀ i, i < 3 → ∃ u, w5.cell? ⟨w.heap.size, k * 3 + i, none⟩ = some u := fun i hi => by
        rw [ho.cellAt (k * 3 + i) (by omega)]
        exact ⟨_, List.getElem?_eq_getElem (by omega)⟩
      obtain ⟨q0, x0⟩ := hat 0 (by omega)
      obtain ⟨q1, x1⟩ := hat 1 (by omega)
      obtain ⟨q2, x2⟩ := hat 2 (by omega)
      rw [Nat.add_zero] at x0
      have z0 := ho.frozenAt (k * 3)
      have z1 := ho.frozenAt (k * 3 + 1)
      have z2 := ho.frozenAt (k * 3 + 2)
      have hst := own3 ho (k * 3) (.int .i64 o') (.int .i64 wt') (.slice ro' rn' rc')
      rw [laid3 (L := layL) rfl zs M k lvs.length HZ.out hlt hMl ⟨o', wt', ro', rn', rc'⟩ (.int .i64 o') (.int .i64 wt') (.slice ro' rn' rc') rfl] at hst
      have s5 := f5.size
      have s1 := hf.size
      have s6 := hst.2.size
      have HX : Hid (LksR (fun b => w.heap.size < b ∧ b < (((w5.setCell ⟨w.heap.size, k * 3, none⟩ (.int .i64 o')).setCell ⟨w.heap.size, k * 3 + 1, none⟩ (.int .i64 wt')).setCell ⟨w.heap.size, k * 3 + 2, none⟩ (.slice ro' rn' rc')).heap.size) (((w5.setCell ⟨w.heap.size, k * 3, none⟩ (.int .i64 o')).setCell ⟨w.heap.size, k * 3 + 1, none⟩ (.int .i64 wt')).setCell ⟨w.heap.size, k * 3 + 2, none⟩ (.slice ro' rn' rc')) (zs ++ [⟨o', wt', ro', rn', rc'⟩]) (ls.take (k + 1))) := by
        rw [← HE.out]
        refine LksR.snoc ?_ ?_
        · exact ((HR.out.fr f5).keep hst.2 (fun j hj => by cases hj; omega)).mono (fun b hb => ⟨hb.1, by omega⟩)
        · exact (hlk.keep hst.2 (fun j hj => by cases hj; omega)).mono (fun b hb => ⟨by omega, by omega⟩)
      have hfin := (hf.trans f5).then hst.2 (fun j hj => by simp only [Option.some.injEq] at hj; omega)
      clear hat hll ho d0 d1 d2 cT hlk
      go_wp2_with fail
      go_roundw
      case rel => exact ⟨k + 1, _, by omega, by go_num, by simp [HZ.out], hst.1, HX.out, hfin, HW5⟩
      case measure => simp [intOf]; omega
    · have ek : k = lvs.length := by omega
      have hd : M.drop (k * 3) = [] := List.drop_eq_nil_of_le (by rw [hMl, ek]; omega)
      rw [hd, List.append_nil] at ho
      have HR : Hid (LksR (fun b => w.heap.size < b ∧ b < wr.heap.size) wr zs ls) := by
        have h1 := HR.out
        rw [List.take_of_length_le (by rw [ek, HL.out]; exact Nat.le_refl _)] at h1
        exact h1
      have HZ2 : Hid (lvs.length = zs.length) := by rw [HZ.out, ek]; exact rfl
      clear ek hd
      go_wp2_with fail
      go_ret
      refine ⟨rfl, ⟨zs, ⟨w.heap.size, lvs.length, by rw [HZ2.out], by rw [HZ2.out] at ho; rw [HZ2.out]; exact ho, by rw [← HZ2.out]; omega⟩, HR.out, HWT.out⟩, hf⟩
end Go.Proofs.YtplnijpolkflcaaGreatDoor
namespace Go.Proofs.YtplnijpolkflcaaGreatDoor
open Go.RowKit

def upC (q : Int) : Ch := ⟨q, q + 1, q + 1 + 1, q + 1 + 1 + 1, (q + 1 + 1 + 1 + 1) % 3 == 0⟩
def mkC (q : Int) (n : Nat) : List Ch := (List.range n).map fun i : Nat => upC (q + 5 * (i : Int))
theorem mkC_length (q : Int) (n : Nat) : (mkC q n).length = n := by simp [mkC]
theorem mkC_succ (q : Int) (n : Nat) : mkC q (n + 1) = mkC q n ++ [upC (q + 5 * (n : Int))] := by simp [mkC, List.range_succ]
theorem mkC_at (q : Int) (n j : Nat) (h : j < (mkC q n).length) : (mkC q n)[j] = upC (q + 5 * (j : Int)) := by simp [mkC]

set_option maxRecDepth 20000 in
set_option maxHeartbeats 1000000 in
theorem markC_any (g n cap : Nat) (q : Int) (xs : List Ch) (w : World) (hn : xs.length = n) (hl : n ≤ 1048576) (q0 : 0 ≤ q) (q1 : q ≤ 4294967296) (h : ReadsG layC w (some ⟨g, 0, none⟩) xs) (hr : RowAt w g 85) :
    Calls Tryz.prog 94 #[.slice (some ⟨g, 0, none⟩) n cap, .int .i64 q] w fun e w' => e = .returned (.int .i64 (q + 5 * (n : Int))) ∧ ReadsG layC w' (some ⟨g, 0, none⟩) (mkC q n) ∧ RowAt w' g 85 ∧ w.grownBy w' (some g) := by
  subst hn
  go_enter Tryz.func94, Tryz.ntmps94
  go_wp2_with fail
  go_loopw [1, 5] (fun c i wr => ∃ k : Nat, k ≤ xs.length ∧ i = .int .i64 k ∧ c = .int .i64 (q + 5 * (k : Int)) ∧ ReadsG layC wr (some ⟨g, 0, none⟩) (mkC q k ++ xs.drop k) ∧ RowAt wr g 85 ∧ w.grownBy wr (some g)) (fun _ i _ => xs.length - (intOf i).toNat)
  case atStart => exact ⟨0, Nat.zero_le _, rfl, by simp, by simpa [mkC] using h, hr, ⟨rfl, rfl, rfl, Nat.le_refl _, fun _ _ _ => rfl⟩⟩
  case round =>
    obtain ⟨k, hk, rfl, rfl, hR, hrw, hf⟩ := hrel
    by_cases hlt : k < xs.length
    · have hkl : k < (mkC q k ++ xs.drop k).length := by rw [List.length_append, mkC_length]; simp; omega
      obtain ⟨b, off, e0, d0, d1, d2, d3, d4⟩ := ch_at hR k hkl
      simp only [Option.some.injEq, Addr.mk.injEq, and_true] at e0
      obtain ⟨rfl, rfl⟩ := e0
      simp only [Nat.zero_add] at d0 d1 d2 d3 d4
      have z0 := hrw.free (k * 5)
      have z1 := hrw.free (k * 5 + 1)
      have z2 := hrw.free (k * 5 + 2)
      have z3 := hrw.free (k * 5 + 3)
      have z4 := hrw.free (k * 5 + 4)
      have HS : Hid (∀ K, K = q + 5 * (k : Int) → ReadsG layC (((((wr.setCell ⟨g, k * 5, none⟩ (.int .i64 K)).setCell ⟨g, k * 5 + 1, none⟩ (.int .i64 (K + 1))).setCell ⟨g, k * 5 + 2, none⟩ (.int .i64 (K + 1 + 1))).setCell ⟨g, k * 5 + 3, none⟩ (.int .i64 (K + 1 + 1 + 1))).setCell ⟨g, k * 5 + 4, none⟩ (.bool ((K + 1 + 1 + 1 + 1) % 3 == 0))) (some ⟨g, 0, none⟩) (mkC q (k + 1) ++ xs.drop (k + 1))) := by
        intro K hK
        obtain ⟨X, hX⟩ : ∃ X, X = (mkC q k ++ xs.drop k)[k] := ⟨_, rfl⟩
        have h1 := reads_cell (L := layC) (q := 0) (e := { X with o := K }) (v := .int .i64 K) hR hkl (by decide) (by rw [← hX]; rfl)
        have h2 := reads_cell (L := layC) (q := 1) (e := { X with o := K, cap := K + 1 }) (v := .int .i64 (K + 1)) h1 (by simpa using hkl) (by decide) (by rw [List.getElem_set_self]; rfl)
        have h3 := reads_cell (L := layC) (q := 2) (e := { X with o := K, cap := K + 1, sent := K + 1 + 1 }) (v := .int .i64 (K + 1 + 1)) h2 (by simpa using hkl) (by decide) (by rw [List.getElem_set_self]; rfl)
        have h4 := reads_cell (L := layC) (q := 3) (e := { X with o := K, cap := K + 1, sent := K + 1 + 1, got := K + 1 + 1 + 1 }) (v := .int .i64 (K + 1 + 1 + 1)) h3 (by simpa using hkl) (by decide) (by rw [List.getElem_set_self]; rfl)
        have h5 := reads_cell (L := layC) (q := 4) (e := upC K) (v := .bool ((K + 1 + 1 + 1 + 1) % 3 == 0)) h4 (by simpa using hkl) (by decide) (by rw [List.getElem_set_self]; rfl)
        rw [List.set_set, List.set_set, List.set_set, List.set_set, List.drop_eq_getElem_cons hlt, set_mid _ _ _ _ _ (mkC_length q k), hK, ← mkC_succ] at h5
        rw [hK]
        exact h5
      have HR : Hid (∀ a0 a1 a2 a3 a4, RowAt (((((wr.setCell ⟨g, k * 5, none⟩ a0).setCell ⟨g, k * 5 + 1, none⟩ a1).setCell ⟨g, k * 5 + 2, none⟩ a2).setCell ⟨g, k * 5 + 3, none⟩ a3).setCell ⟨g, k * 5 + 4, none⟩ a4) g 85 ∧ w.grownBy (((((wr.setCell ⟨g, k * 5, none⟩ a0).setCell ⟨g, k * 5 + 1, none⟩ a1).setCell ⟨g, k * 5 + 2, none⟩ a2).setCell ⟨g, k * 5 + 3, none⟩ a3).setCell ⟨g, k * 5 + 4, none⟩ a4) (some g)) := fun _ _ _ _ _ => ⟨((((hrw.set _ _).set _ _).set _ _).set _ _).set _ _, grown_trans hf (grown_trans (grown_set _ _ _ _) (grown_trans (grown_set _ _ _ _) (grown_trans (grown_set _ _ _ _) (grown_trans (grown_set _ _ _ _) (grown_set _ _ _ _)))))⟩
      have hi : (k : Int) < xs.length := by omega
      have HQ : Hid (q + 5 * (k : Int) ≤ 4400000000 ∧ 0 ≤ q + 5 * (k : Int)) := ⟨by omega, by omega⟩
      obtain ⟨K, hK⟩ : ∃ K, K = q + 5 * (k : Int) := ⟨_, rfl⟩
      rw [← hK] at HQ ⊢
      have HS := HS.out K hK
      have HS : Hid _ := HS
      have HK : Hid (K = q + 5 * (k : Int)) := hK
      have hKb := HQ.out
      clear hR hrw hf hK
      go_wp2_with fail
      go_roundw
      case rel => exact ⟨k + 1, by omega, by go_num, by have := HK.out; go_num, HS.out, (HR.out _ _ _ _ _).1, (HR.out _ _ _ _ _).2⟩
      case measure => simp [intOf]; omega
    · have e : k = xs.length := by omega
      subst e
      rw [List.drop_length, List.append_nil] at hR
      go_wp2_with fail
      go_ret
      exact ⟨rfl, hR, hrw, hf⟩

set_option maxHeartbeats 1000000 in
theorem heldC_any (ao : Option Addr) (n cap : Nat) (q : Int) (w : World) (hl : n ≤ 1048576) (q0 : 0 ≤ q) (q1 : q ≤ 4294967296) (h : ReadsG layC w ao (mkC q n)) :
    Calls Tryz.prog 97 #[.slice ao n cap, .int .i64 q] w fun e w' => e = .returned (.int .i64 (q + 5 * (n : Int))) ∧ w' = w := by
  go_enter Tryz.func97, Tryz.ntmps97
  go_wp2_with fail
  go_loop [1, 5] (fun c i => ∃ k : Nat, k ≤ n ∧ i = .int .i64 k ∧ c = .int .i64 (q + 5 * (k : Int))) (fun _ i => n - (intOf i).toNat)
  case atStart => exact ⟨0, Nat.zero_le _, rfl, by simp⟩
  case round =>
    obtain ⟨k, hk, rfl, rfl⟩ := hrel
    by_cases hlt : k < n
    · have hkl : k < (mkC q n).length := by rw [mkC_length]; exact hlt
      obtain ⟨b, off, rfl, d0, d1, d2, d3, d4⟩ := ch_at h k hkl
      rw [mkC_at] at d0 d1 d2 d3 d4
      simp only [upC] at d0 d1 d2 d3 d4
      have hi : (k : Int) < n := by omega
      have hKb : q + 5 * (k : Int) ≤ 4400000000 ∧ 0 ≤ q + 5 * (k : Int) := ⟨by omega, by omega⟩
      obtain ⟨K, hK⟩ : ∃ K, K = q + 5 * (k : Int) := ⟨_, rfl⟩
      rw [← hK] at d0 d1 d2 d3 d4 hKb ⊢
      have HK : Hid (K = q + 5 * (k : Int)) := hK
      clear hK
      obtain ⟨bb, hbb⟩ : ∃ b, b = ((K + 1 + 1 + 1 + 1) % 3 == 0) := ⟨_, rfl⟩
      have hb4 : (bb != bb) = false := by simp
      go_wp2_with fail
      go_round
      case rel => exact ⟨k + 1, by omega, by go_num, by have := HK.out; go_num⟩
      case measure => simp [intOf]; omega
    · have e : k = n := by omega
      subst e
      go_wp2_with fail
      go_ret
      exact ⟨rfl, rfl⟩
end Go.Proofs.YtplnijpolkflcaaGreatDoor
namespace Go.Proofs.YtplnijpolkflcaaGreatDoor
open Go.RowKit

theorem markLockS_nil (k : Int) (w : World) : Calls Tryz.prog 93 #[.slice none 0 0, .int .i64 k] w fun e w' => e = .returned (.int .i64 k) ∧ w' = w := by
  go_enter Tryz.func93, Tryz.ntmps93
  go_wp2_with fail
  refine wp_loop_rounds 1 ?_
  rw [rounds_succ]
  go_wp2_with fail
  go_ret
  exact ⟨rfl, rfl⟩
theorem markChanS_nil (k : Int) (w : World) : Calls Tryz.prog 94 #[.slice none 0 0, .int .i64 k] w fun e w' => e = .returned (.int .i64 k) ∧ w' = w := by
  go_enter Tryz.func94, Tryz.ntmps94
  go_wp2_with fail
  refine wp_loop_rounds 1 ?_
  rw [rounds_succ]
  go_wp2_with fail
  go_ret
  exact ⟨rfl, rfl⟩
theorem markCountS_nil (k : Int) (w : World) : Calls Tryz.prog 95 #[.slice none 0 0, .int .i64 k] w fun e w' => e = .returned (.int .i64 k) ∧ w' = w := by
  go_enter Tryz.func95, Tryz.ntmps95
  go_wp2_with fail
  refine wp_loop_rounds 1 ?_
  rw [rounds_succ]
  go_wp2_with fail
  go_ret
  exact ⟨rfl, rfl⟩
theorem markInt64S_nil (k : Int) (w : World) : Calls Tryz.prog 44 #[.slice none 0 0, .int .i64 k] w fun e w' => e = .returned (.int .i64 k) ∧ w' = w := by
  go_enter Tryz.func44, Tryz.ntmps44
  go_wp2_with fail
  refine wp_loop_rounds 1 ?_
  rw [rounds_succ]
  go_wp2_with fail
  go_ret
  exact ⟨rfl, rfl⟩
end Go.Proofs.YtplnijpolkflcaaGreatDoor
