/-
  Texts in one.
-/
import Derived.Test.YtcofhmikdkkigaaGreatDoorPrAA
import Derived.Test.YtcofhmikdkkigaaGreatDoorPrBG
import Derived.Test.YtcofhmikdkkigaaGreatDoorPrAU
import Derived.BigQuiet
import Derived.Test.YtcofhmikdkkigaaGreatDoorPrBF
import Derived.Test.YtcofhmikdkkigaaGreatDoorPrAD
namespace Go.Proofs.YtcofhmikdkkigaaGreatDoor
open Go.RowKit

theorem take_succ_map (xs : List Int) (k : Nat) (h : k < xs.length) :
    (((xs.take k).map (Value.int .i64)) ++ List.replicate (xs.length - k) (Value.int .i64 0)).set k (.int .i64 xs[k]) =
      ((xs.take (k + 1)).map (Value.int .i64)) ++ List.replicate (xs.length - (k + 1)) (Value.int .i64 0) := by
  apply List.ext_getElem?
  intro j
  simp only [List.getElem?_set, List.getElem?_append, List.length_append, List.length_map, List.length_take, List.length_replicate, List.getElem?_map, List.getElem?_take, List.getElem?_replicate]
  by_cases hj : j = k
  · subst hj
    have e1 : j < min (j + 1) xs.length := by omega
    rw [if_pos rfl, if_pos (by omega), if_pos e1, if_pos (by omega), List.getElem?_eq_getElem h]
    rfl
  · by_cases hlt : j < k
    · have e1 : j < min k xs.length := by omega
      have e2 : j < min (k + 1) xs.length := by omega
      rw [if_neg (by omega), if_pos e1, if_pos e2, if_pos hlt, if_pos (by omega)]
    · have e1 : ¬ j < min k xs.length := by omega
      have e2 : ¬ j < min (k + 1) xs.length := by omega
      rw [if_neg (by omega), if_neg e1, if_neg e2]
      by_cases h3 : j < xs.length
      · rw [if_pos (by omega), if_pos (by omega)]
      · rw [if_neg (by omega), if_neg (by omega)]

end Go.Proofs.YtcofhmikdkkigaaGreatDoor

namespace Go.Proofs.YtcofhmikdkkigaaGreatDoor
open Go.RowKit

theorem prC {w : World} {ao : Option Addr} {ps : List (Int × Int)} (h : ReadsG layPr w ao ps) {k : Nat} (hk : k < ps.length) : ∃ b off, ao = some ⟨b, off, none⟩ ∧ w.cell? ⟨b, off + k * 2, none⟩ = some (.int .i64 ps[k].1) ∧ w.cell? ⟨b, off + k * 2 + 1, none⟩ = some (.int .i64 ps[k].2) := by
  obtain ⟨b, off, e, hc⟩ := h.at_ k hk
  refine ⟨b, off, e, ?_, ?_⟩
  · have := hc k hk 0 (by show 0 < 2; omega)
    exact this
  · have := hc k hk 1 (by show 1 < 2; omega)
    exact this

set_option maxHeartbeats 1000000 in
theorem eqPr_one (x y : Int) (w : World) :
    Calls Tryz.prog 89 #[.agg #[.int .i64 x, .int .i64 y], .agg #[.int .i64 x, .int .i64 y]] w fun e w' => e = .returned (.bool true) ∧ Fr w w' := by
  go_enter Tryz.func89, Tryz.ntmps89
  go_wp2_with fail
  go_ret
  exact ⟨rfl, (Fr.alloc _ _).trans (Fr.alloc _ _)⟩

set_option maxHeartbeats 2000000 in
theorem eqPrs_same (ao bo : Option Addr) (n c d : Nat) (ps : List (Int × Int)) (w : World) (hn : ps.length = n) (h : ReadsG layPr w ao ps) (h' : ReadsG layPr w bo ps) :
    Calls Tryz.prog 42 #[.slice ao n c, .slice bo n d] w fun e w' => e = .returned (.bool true) ∧ Fr w w' := by
  subst hn
  have hl := h.len
  go_enter Tryz.func42, Tryz.ntmps42
  go_wp2_with fail
  go_loopw [5] (fun i wr => ∃ k : Nat, k ≤ ps.length ∧ i = .int .i64 k ∧ Fr w wr) (fun i _ => ps.length - (intOf i).toNat)
  case atStart => exact ⟨0, Nat.zero_le _, rfl, Fr.refl _⟩
  case round =>
    obtain ⟨k, hk, rfl, hf⟩ := hrel
    by_cases hlt : k < ps.length
    · obtain ⟨b, off, rfl, c0, c1⟩ := prC (h.fr hf) hlt
      obtain ⟨b', off', rfl, d0, d1⟩ := prC (h'.fr hf) hlt
      obtain ⟨x, hx⟩ : ∃ e, e = ps[k].1 := ⟨_, rfl⟩
      obtain ⟨y, hy⟩ : ∃ e, e = ps[k].2 := ⟨_, rfl⟩
      rw [← hx] at c0 d0
      rw [← hy] at c1 d1
      clear hx hy
      have cE := fun w => eqPr_one x y w
      have := Later.some wr
      have p0 := fun s : Later wr => s.fr.cell c0
      have p1 := fun s : Later wr => s.fr.cell c1
      have r0 := fun s : Later wr => s.fr.cell d0
      have r1 := fun s : Later wr => s.fr.cell d1
      clear c0 c1 d0 d1
      go_wp2_with fail
      refine wp_region_grown (by kernel_rfl) (by kernel_rfl) ?_
      repeat (go_big_quiet_step (with_reducible exact Calls.grown_of (cE _)))
      refine wpQuiet_nil ?_
      rintro _ ⟨s, rfl⟩
      go_wp2_with fail
      go_roundw
      case rel => exact ⟨k + 1, by omega, by go_num, hf.trans s.fr⟩
      case measure => simp [intOf]; omega
    · go_wp2_with fail
      go_ret
      exact ⟨rfl, hf⟩

def upsP (q : Int) (n : Nat) : List (Int × Int) := (List.range n).map fun j : Nat => (q + 2 * (j : Int), q + 2 * (j : Int) + 1)
theorem upsP_length (q : Int) (n : Nat) : (upsP q n).length = n := by simp [upsP]
theorem upsP_succ (q : Int) (n : Nat) : upsP q (n + 1) = upsP q n ++ [(q + 2 * (n : Int), q + 2 * (n : Int) + 1)] := by simp [upsP, List.range_succ]
theorem upsP_at (q : Int) (n j : Nat) (h : j < (upsP q n).length) : (upsP q n)[j] = (q + 2 * (j : Int), q + 2 * (j : Int) + 1) := by simp [upsP]
theorem drop2 (L : List Value) (n : Nat) (h : n + 2 ≤ L.length) : ∃ m0 m1, L.drop n = m0 :: m1 :: L.drop (n + 2) := by
  refine ⟨L[n], L[n + 1], ?_⟩
  rw [List.drop_eq_getElem_cons (by omega : n < L.length), List.drop_eq_getElem_cons (by omega : n + 1 < L.length)]
theorem set2 (A B : List Value) (m0 m1 a0 a1 : Value) (n : Nat) (hn : A.length = n) : ((A ++ m0 :: m1 :: B).set n a0).set (n + 1) a1 = A ++ a0 :: a1 :: B := by
  subst hn
  simp
theorem cellsP_len (D : List (Int × Int)) : (D.flatMap layPr.cs).length = D.length * 2 := flatG_len layPr D
theorem marked2 (D : List (Int × Int)) (M : List Value) (k n : Nat) (hD : D.length = k) (hk : k < n) (hM : M.length = n * 2) (e : Int × Int) :
    ((D.flatMap layPr.cs ++ M.drop (k * 2)).set (k * 2) (.int .i64 e.1)).set (k * 2 + 1) (.int .i64 e.2) = (D ++ [e]).flatMap layPr.cs ++ M.drop ((k + 1) * 2) := by
  obtain ⟨m0, m1, hd⟩ := drop2 M (k * 2) (by omega)
  have hl : (D.flatMap layPr.cs).length = k * 2 := by rw [cellsP_len, hD]
  rw [hd, set2 _ _ _ _ _ _ _ hl, show (k + 1) * 2 = k * 2 + 2 by omega, List.flatMap_append]
  simp [layPr]
theorem own2 {w : World} {base g n cap : Nat} {e : TypeId} {xs : List Value} (h : w.ownsRow base e 2 (.slice (some ⟨g, 0, none⟩) n cap) n xs) (j : Nat) (a0 a1 : Value) :
    ((w.setCell ⟨g, j, none⟩ a0).setCell ⟨g, j + 1, none⟩ a1).ownsRow base e 2 (.slice (some ⟨g, 0, none⟩) n cap) n ((xs.set j a0).set (j + 1) a1) ∧ w.grownBy ((w.setCell ⟨g, j, none⟩ a0).setCell ⟨g, j + 1, none⟩ a1) (some g) := by
  have h0 := h.stored j a0
  have h1 := h0.1.stored (j + 1) a1
  exact ⟨h1.1, grown_tr h0.2 h1.2⟩

set_option maxHeartbeats 2000000 in
theorem markPr_any (g n cap base : Nat) (q : Int) (ps : List (Int × Int)) (w : World) (hn : ps.length = n) (q0 : 0 ≤ q) (q1 : q ≤ 4294967296) (hp : OwnG layPr w base (.slice (some ⟨g, 0, none⟩) n cap) ps) :
    Calls Tryz.prog 43 #[.slice (some ⟨g, 0, none⟩) n cap, .int .i64 q] w fun e w' => e = .returned (.int .i64 (q + 2 * (n : Int))) ∧ OwnG layPr w' base (.slice (some ⟨g, 0, none⟩) n cap) (upsP q n) ∧ w.grownBy w' (some g) := by
  obtain ⟨g', cap', e', h, hl⟩ := hp
  simp only [Value.slice.injEq, Option.some.injEq, Addr.mk.injEq, and_true] at e'
  obtain ⟨rfl, -, rfl⟩ := e'
  rw [hn] at h hl
  have h : w.ownsRow base 51 2 (.slice (some ⟨g, 0, none⟩) n cap) n (ps.flatMap layPr.cs) := h
  obtain ⟨M, hM⟩ : ∃ M, M = ps.flatMap layPr.cs := ⟨_, rfl⟩
  have hMl : M.length = n * 2 := by rw [hM, cellsP_len, hn]
  rw [← hM] at h
  clear hM hn
  go_enter Tryz.func43, Tryz.ntmps43
  go_wp2_with fail
  go_loopw [1, 5] (fun c i wr => ∃ k : Nat, k ≤ n ∧ i = .int .i64 k ∧ c = .int .i64 (q + 2 * (k : Int)) ∧ wr.ownsRow base 51 2 (.slice (some ⟨g, 0, none⟩) n cap) n ((upsP q k).flatMap layPr.cs ++ M.drop (k * 2)) ∧ w.grownBy wr (some g)) (fun _ i _ => n - (intOf i).toNat)
  case atStart => exact ⟨0, Nat.zero_le _, rfl, by simp, by simpa [upsP] using h, ⟨rfl, rfl, rfl, Nat.le_refl _, fun _ _ _ => rfl⟩⟩
  case round =>
    obtain ⟨k, hk, rfl, rfl, ho, hf⟩ := hrel
    by_cases hlt : k < n
    · have hll : ((upsP q k).flatMap layPr.cs ++ M.drop (k * 2)).length = n * 2 := ho.1
      have hat : ∀ i, i < 2 → ∃ u, wr.cell? ⟨g, k * 2 + i, none⟩ = some u := fun i hi => by
        rw [ho.cellAt (k * 2 + i) (by omega)]
        exact ⟨_, List.getElem?_eq_getElem (by omega)⟩
      obtain ⟨p0, d0⟩ := hat 0 (by omega)
      obtain ⟨p1, d1⟩ := hat 1 (by omega)
      rw [Nat.add_zero] at d0
      have z0 := ho.frozenAt (k * 2)
      have z1 := ho.frozenAt (k * 2 + 1)
      have hst := own2 ho (k * 2) (.int .i64 (q + 2 * (k : Int))) (.int .i64 (q + 2 * (k : Int) + 1))
      rw [marked2 (upsP q k) M k n (upsP_length q k) hlt hMl (q + 2 * (k : Int), q + 2 * (k : Int) + 1), ← upsP_succ] at hst
      clear hat hll ho h
      go_wp2_with fail
      refine ⟨⟨k + 1, by omega, by go_num, ?_, hst.1, grown_tr hf hst.2⟩, ?_⟩
      · congr 1; push_cast; omega
      · simp only [intOf]; omega
    · have ek : k = n := by omega
      have hd : M.drop (k * 2) = [] := List.drop_eq_nil_of_le (by rw [hMl, ek]; omega)
      rw [hd, List.append_nil, ek] at ho
      have HK : Hid (k = n) := ek
      clear ek hd
      go_wp2_with fail
      go_ret
      refine ⟨?_, ⟨g, cap, by rw [upsP_length], by rw [upsP_length]; exact ho, by rw [upsP_length]; exact hl⟩, hf⟩
      have := HK.out
      exact ret_int (by omega)

set_option maxRecDepth 20000 in
set_option maxHeartbeats 2000000 in
theorem heldPr_any (ao : Option Addr) (n cap : Nat) (q : Int) (w : World) (q0 : 0 ≤ q) (q1 : q ≤ 4294967296) (h : ReadsG layPr w ao (upsP q n)) :
    Calls Tryz.prog 44 #[.slice ao n cap, .int .i64 q] w fun e w' => e = .returned (.int .i64 (q + 2 * (n : Int))) ∧ w' = w := by
  have hl : n ≤ 16777216 := by have := h.len; rwa [upsP_length] at this
  go_enter Tryz.func44, Tryz.ntmps44
  go_wp2_with fail
  go_loop [1, 5] (fun c i => ∃ k : Nat, k ≤ n ∧ i = .int .i64 k ∧ c = .int .i64 (q + 2 * (k : Int))) (fun _ i => n - (intOf i).toNat)
  case atStart => exact ⟨0, Nat.zero_le _, rfl, by simp⟩
  case round =>
    obtain ⟨k, hk, rfl, rfl⟩ := hrel
    by_cases hlt : k < n
    · have hlt' : k < (upsP q n).length := by rw [upsP_length]; exact hlt
      obtain ⟨b, off, rfl, c0, c1⟩ := prC h hlt'
      rw [upsP_at] at c0 c1
      simp only at c0 c1
      clear h
      go_wp2_with fail
      go_round
      case rel => exact ⟨k + 1, by omega, by go_num, by congr 1; push_cast; omega⟩
      case measure => simp [intOf]; omega
    · have ek : k = n := by omega
      have HK : Hid (k = n) := ek
      clear ek
      go_wp2_with fail
      go_ret
      have := HK.out
      exact ⟨ret_int (by omega), rfl⟩
end Go.Proofs.YtcofhmikdkkigaaGreatDoor

namespace Go.Proofs.YtcofhmikdkkigaaGreatDoor
open Go.RowKit

theorem hasP_take {ps : List (Int × Int)} {i j : Int} {k : Nat} (hk : k < ps.length) : hasP (ps.take (k + 1)) i j = (hasP (ps.take k) i j || (ps[k].1 == i && ps[k].2 == j)) := by
  unfold hasP
  rw [List.take_succ_eq_append_getElem hk, List.any_append]
  simp

set_option maxRecDepth 20000 in
set_option maxHeartbeats 1000000 in
theorem idxPr_any (ao : Option Addr) (n c : Nat) (ps : List (Int × Int)) (i j : Int) (w : World) (hn : ps.length = n) (h : ReadsG layPr w ao ps) :
    Calls Tryz.prog 180 #[.slice ao n c, .agg #[.int .i64 i, .int .i64 j]] w fun e w' => (∃ r : Int, e = .returned (.int .i64 r) ∧ decide (0 ≤ r) = hasP ps i j) ∧ Fr w w' := by
  subst hn
  have hl := h.len
  have f0 := Fr.alloc w (.cells #[.int .i64 i, .int .i64 j] 51)
  have k0 := heap_alloc_new w (.cells #[.int .i64 i, .int .i64 j] 51)
  go_enter Tryz.func180, Tryz.ntmps180
  go_wp2_with fail
  obtain ⟨U, hU⟩ : ∃ U, U = w.alloc (.cells #[.int .i64 i, .int .i64 j] 51) := ⟨_, rfl⟩
  rw [← hU] at f0 k0 ⊢
  clear hU
  have HB : Hid (∀ u, Fr U u → u.cell? ⟨w.heap.size, 0, none⟩ = some (.int .i64 i) ∧ u.cell? ⟨w.heap.size, 1, none⟩ = some (.int .i64 j)) := fun u f => ⟨f.cell (by rw [cell_of_row _ _ _ _ _ _ k0]; rfl), f.cell (by rw [cell_of_row _ _ _ _ _ _ k0]; rfl)⟩
  have h := h.fr f0
  clear k0
  go_loopw [8] (fun i1 wr => ∃ k : Nat, k ≤ ps.length ∧ i1 = .int .i64 k ∧ Fr U wr ∧ Hid (hasP (ps.take k) i j = false)) (fun i1 _ => ps.length - (intOf i1).toNat)
  case atStart => exact ⟨0, Nat.zero_le _, rfl, Fr.refl _, rfl⟩
  case round =>
    obtain ⟨k, hk, rfl, hf, HN⟩ := hrel
    by_cases hlt : k < ps.length
    · obtain ⟨b, off, rfl, c0, c1⟩ := prC (h.fr hf) hlt
      have hst := hasP_take (i := i) (j := j) hlt
      have HS : Hid (hasP (ps.take (k + 1)) i j = (ps[k].1 == i && ps[k].2 == j)) := by rw [HN.out, Bool.false_or] at hst; exact hst
      have HM : Hid (ps[k].1 = i → ps[k].2 = j → hasP ps i j = true) := fun e1 e2 => by
        rw [hasP_iff]
        have := List.getElem_mem hlt
        have e : ps[k] = (i, j) := Prod.ext e1 e2
        rw [e] at this
        exact this
      obtain ⟨x, hx⟩ : ∃ e, e = ps[k].1 := ⟨_, rfl⟩
      obtain ⟨y, hy⟩ : ∃ e, e = ps[k].2 := ⟨_, rfl⟩
      rw [← hx] at c0 HS HM
      rw [← hy] at c1 HS HM
      obtain ⟨b0, b1⟩ := HB.out _ hf
      clear hx hy hst
      have p0 := fun n : Nat => (Fr.drewN wr n).cell c0
      have p1 := fun n : Nat => (Fr.drewN wr n).cell c1
      have r0 := fun n : Nat => (Fr.drewN wr n).cell b0
      have r1 := fun n : Nat => (Fr.drewN wr n).cell b1
      have HF : Hid (Fr U wr) := hf
      clear b0 b1 c0 c1
      by_cases hxe : x = i
      · by_cases hye : y = j
        · have HY : Hid (hasP ps i j = true) := HM.out hxe hye
          clear HS HM HN
          go_wp2_with fail
          go_quiet (fail)
          go_wp2_with fail
          go_ret
          exact ⟨⟨(k : Int), rfl, by rw [HY.out]; exact decide_eq_true (by omega)⟩, f0.trans (HF.out.trans (Fr.drewN _ _))⟩
        · have HE : Hid (hasP (ps.take (k + 1)) i j = false) := by
            show hasP (ps.take (k + 1)) i j = false
            rw [HS.out]; simp [hye]
          clear HS HM HN
          go_wp2_with fail
          go_quiet (fail)
          go_wp2_with fail
          go_roundw
          case rel => exact ⟨k + 1, by omega, by go_num, hf.trans (Fr.drewN _ _), HE⟩
          case measure => simp [intOf]; omega
      · have HE : Hid (hasP (ps.take (k + 1)) i j = false) := by
          show hasP (ps.take (k + 1)) i j = false
          rw [HS.out]; simp [hxe]
        clear HS HM HN
        by_cases hye : y = j
        · skip
          go_wp2_with fail
          go_quiet (fail)
          go_wp2_with fail
          go_roundw
          case rel => exact ⟨k + 1, by omega, by go_num, hf.trans (Fr.drewN _ _), HE⟩
          case measure => simp [intOf]; omega
        · skip
          go_wp2_with fail
          go_quiet (fail)
          go_wp2_with fail
          go_roundw
          case rel => exact ⟨k + 1, by omega, by go_num, hf.trans (Fr.drewN _ _), HE⟩
          case measure => simp [intOf]; omega
    · have HE : Hid (hasP ps i j = false) := by
        have := HN.out
        rw [List.take_of_length_le (by omega)] at this
        exact this
      go_wp2_with fail
      go_ret
      exact ⟨⟨-1, rfl, by rw [HE.out]; rfl⟩, f0.trans hf⟩

set_option maxHeartbeats 1000000 in
theorem hasPr_any (ao : Option Addr) (n c : Nat) (ps : List (Int × Int)) (i j : Int) (w : World) (hn : ps.length = n) (h : ReadsG layPr w ao ps) :
    Calls Tryz.prog 137 #[.slice ao n c, .agg #[.int .i64 i, .int .i64 j]] w fun e w' => e = .returned (.bool (hasP ps i j)) ∧ Fr w w' := by
  have f0 := Fr.alloc w (.cells #[.int .i64 i, .int .i64 j] 51)
  have cI := idxPr_any ao n c ps i j _ hn (h.fr f0)
  obtain ⟨B, hB⟩ : ∃ B, B = hasP ps i j := ⟨_, rfl⟩
  rw [← hB] at cI ⊢
  clear hB
  go_enter Tryz.func137, Tryz.ntmps137
  go_wp2_with fail
  refine cI.mono ?_
  rintro e u ⟨⟨r, rfl, hr⟩, f1⟩
  cases B
  · go_wp2_with fail
    go_ret
    exact ⟨rfl, f0.trans f1⟩
  · go_wp2_with fail
    go_ret
    exact ⟨rfl, f0.trans f1⟩
end Go.Proofs.YtcofhmikdkkigaaGreatDoor

namespace Go.Proofs.YtcofhmikdkkigaaGreatDoor
open Go.RowKit

theorem boC {w : World} {ao : Option Addr} {xs : List Bool} (h : ReadsG layBo w ao xs) {k : Nat} (hk : k < xs.length) : ∃ b off, ao = some ⟨b, off, none⟩ ∧ w.cell? ⟨b, off + k, none⟩ = some (.bool xs[k]) := by
  obtain ⟨b, off, e, hc⟩ := h.at_ k hk
  refine ⟨b, off, e, ?_⟩
  have := hc k hk 0 (by show 0 < 1; omega)
  have e2 : off + k * layBo.sz + 0 = off + k := by show off + k * 1 + 0 = off + k; omega
  rw [e2] at this
  exact this
theorem bo_step (xs : List Bool) (k : Nat) (h : k < xs.length) :
    (((xs.take k).map Value.bool) ++ List.replicate (xs.length - k) (Value.bool false)).set k (.bool xs[k]) = ((xs.take (k + 1)).map Value.bool) ++ List.replicate (xs.length - (k + 1)) (Value.bool false) := by
  apply List.ext_getElem?
  intro j
  simp only [List.getElem?_set, List.getElem?_append, List.length_append, List.length_map, List.length_take, List.length_replicate, List.getElem?_map, List.getElem?_take, List.getElem?_replicate]
  by_cases hj : j = k
  · subst hj
    have e1 : j < min (j + 1) xs.length := by omega
    rw [if_pos rfl, if_pos (by omega), if_pos e1, if_pos (by omega), List.getElem?_eq_getElem h]
    rfl
  · by_cases hlt : j < k
    · have e1 : j < min k xs.length := by omega
      have e2 : j < min (k + 1) xs.length := by omega
      rw [if_neg (by omega), if_pos e1, if_pos e2, if_pos hlt, if_pos (by omega)]
    · have e1 : ¬ j < min k xs.length := by omega
      have e2 : ¬ j < min (k + 1) xs.length := by omega
      rw [if_neg (by omega), if_neg e1, if_neg e2]
      by_cases h3 : j < xs.length
      · rw [if_pos (by omega), if_pos (by omega)]
      · rw [if_neg (by omega), if_neg (by omega)]
theorem bo_flat (xs : List Bool) : xs.flatMap layBo.cs = xs.map Value.bool := by
  induction xs with
  | nil => rfl
  | cons x xs ih => rw [List.flatMap_cons, ih]; rfl

theorem infoBo8 : (Tryz.prog.info? 4).map (fun i => (i.zero, i.size, i.bytes)) = some (some (.bool false), 1, 1) := by kernel_rfl

set_option maxRecDepth 20000 in
set_option maxHeartbeats 400000 in
theorem toBo_any (ao : Option Addr) (n cap : Nat) (xs : List Bool) (w : World) (hn : xs.length = n) (h : ReadsG layBo w ao xs) :
    Calls Tryz.prog 46 #[.slice ao n cap] w fun e w' => e = .returned (.slice (some ⟨w.heap.size, 0, none⟩) n n) ∧ OwnG layBo w' w.heap.size (.slice (some ⟨w.heap.size, 0, none⟩) n n) xs ∧ Fr w w' := by
  subst hn
  have hl := h.len
  obtain ⟨i0, hi, hz0, hz1, hz2⟩ := info_parts infoBo8
  go_enter Tryz.func46, Tryz.ntmps46
  go_wp2_with (at_make; refine wpList_make_full _ rfl _ _ 44 rfl w.heap.size 4 i0 (.bool false) 1 Tryz.underlying44 hi hz0 hz1 .i64 .i64 _ _ xs.length rfl rfl rfl rfl (by rw [hz2]; omega) (by unfold maxLen; omega) (Nat.le_refl _) ?_; intro w1 hown hgrow)
  go_loopw [4] (fun i wr => ∃ k : Nat, k ≤ xs.length ∧ i = .int .i64 k ∧ wr.ownsRow w.heap.size 4 1 (.slice (some ⟨w.heap.size, 0, none⟩) xs.length xs.length) xs.length (((xs.take k).map Value.bool) ++ List.replicate (xs.length - k) (Value.bool false)) ∧ Fr w wr) (fun i _ => xs.length - (intOf i).toNat)
  case atStart =>
    refine ⟨0, Nat.zero_le _, rfl, ?_, hgrow⟩
    simpa [toList_madeCells_one, Value.cells] using hown
  case round =>
    obtain ⟨k, hk, rfl, ho, hf⟩ := hrel
    by_cases hlt : k < xs.length
    · obtain ⟨b, off, rfl, hc⟩ := boC h hlt
      have hck := hf.cell hc
      have hfz := ho.frozenAt k
      have hce := ho.cellAt k (by omega)
      have hst := ho.stored k (.bool xs[k])
      rw [bo_step xs k hlt] at hst
      obtain ⟨u, hu⟩ : ∃ u, (((xs.take k).map Value.bool) ++ List.replicate (xs.length - k) (Value.bool false))[k]? = some u := ⟨_, List.getElem?_eq_getElem (by simp; omega)⟩
      rw [hu] at hce
      clear hc hown hgrow hu
      go_wp2
      go_roundw
      case rel => exact ⟨k + 1, by omega, by go_num, hst.1, hf.then hst.2 (by intro j hj; simp at hj; omega)⟩
      case measure => simp [intOf]; omega
    · go_wp2
      go_ret
      have hkn : k = xs.length := by omega
      subst hkn
      refine ⟨rfl, ⟨_, _, rfl, ?_, by omega⟩, hf⟩
      rw [bo_flat]
      show wr.ownsRow w.heap.size 4 1 _ _ (xs.map Value.bool)
      simpa using ho

set_option maxHeartbeats 400000 in
theorem eqBo_same (ao bo : Option Addr) (n c d : Nat) (xs : List Bool) (w : World) (hn : xs.length = n) (h : ReadsG layBo w ao xs) (h' : ReadsG layBo w bo xs) :
    Calls Tryz.prog 47 #[.slice ao n c, .slice bo n d] w fun e w' => e = .returned (.bool true) ∧ ∃ nq, w' = w.drewN nq := by
  subst hn
  have hl := h.len
  go_enter Tryz.func47, Tryz.ntmps47
  go_wp2
  go_loopw [5] (fun i wr => ∃ k : Nat, k ≤ xs.length ∧ i = .int .i64 k ∧ ∃ nq, wr = w.drewN nq) (fun i _ => xs.length - (intOf i).toNat)
  case atStart => exact ⟨0, Nat.zero_le _, rfl, 0, rfl⟩
  case round =>
    obtain ⟨k, hk, rfl, nq, rfl⟩ := hrel
    by_cases hlt : k < xs.length
    · obtain ⟨b, off, rfl, hck⟩ := boC h hlt
      obtain ⟨b', off', rfl, hck'⟩ := boC h' hlt
      obtain ⟨x, hx⟩ : ∃ x, x = xs[k] := ⟨_, rfl⟩
      rw [← hx] at hck hck'
      clear hx h h'
      go_wp2
      go_quiet (fail)
      go_wp2
      go_roundw
      case rel => exact ⟨k + 1, by omega, by go_num, _, rfl⟩
      case measure => simp [intOf]; omega
    · go_wp2
      go_ret
      exact ⟨rfl, nq, rfl⟩

set_option maxHeartbeats 1000000 in
theorem markBo_any (g n cap base : Nat) (q : Int) (xs : List Bool) (w : World) (hn : xs.length = n) (q0 : 0 ≤ q) (q1 : q ≤ 4294967296) (hp : OwnG layBo w base (.slice (some ⟨g, 0, none⟩) n cap) xs) :
    Calls Tryz.prog 48 #[.slice (some ⟨g, 0, none⟩) n cap, .int .i64 q] w fun e w' => e = .returned (.int .i64 (q + (n : Int))) ∧ w.grownBy w' (some g) := by
  obtain ⟨g', cap', e', h, hl⟩ := hp
  simp only [Value.slice.injEq, Option.some.injEq, Addr.mk.injEq, and_true] at e'
  obtain ⟨rfl, -, rfl⟩ := e'
  rw [hn] at h hl
  have h : w.ownsRow base 4 1 (.slice (some ⟨g, 0, none⟩) n cap) n (xs.flatMap layBo.cs) := h
  go_enter Tryz.func48, Tryz.ntmps48
  go_wp2
  go_loopw [1, 5] (fun c i wr => ∃ (k : Nat) (M : List Value), k ≤ n ∧ i = .int .i64 k ∧ c = .int .i64 (q + (k : Int)) ∧ wr.ownsRow base 4 1 (.slice (some ⟨g, 0, none⟩) n cap) n M ∧ w.grownBy wr (some g)) (fun _ i _ => n - (intOf i).toNat)
  case atStart => exact ⟨0, _, Nat.zero_le _, rfl, by simp, h, ⟨rfl, rfl, rfl, Nat.le_refl _, fun _ _ _ => rfl⟩⟩
  case round =>
    obtain ⟨k, M, hk, rfl, rfl, ho, hf⟩ := hrel
    by_cases hlt : k < n
    · have hMl : M.length = n * 1 := ho.1
      have hfz := ho.frozenAt k
      have hce := ho.cellAt k (by omega)
      have hst := fun v => ho.stored k v
      obtain ⟨u, hu⟩ : ∃ u, M[k]? = some u := ⟨_, List.getElem?_eq_getElem (by omega)⟩
      rw [hu] at hce
      clear hu ho h
      go_wp2
      go_roundw
      case rel => exact ⟨k + 1, _, by omega, by go_num, by simp; omega, (hst _).1, grown_tr hf (hst _).2⟩
      case measure => simp [intOf]; omega
    · have ek : k = n := by omega
      have HK : Hid (k = n) := ek
      clear ek
      go_wp2
      go_ret
      have := HK.out
      exact ⟨ret_int (by omega), hf⟩
end Go.Proofs.YtcofhmikdkkigaaGreatDoor
