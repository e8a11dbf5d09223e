/-
  The drawing of clocks and of lists that are near to clocks.
-/
import Derived.Test.YteoalolkjfeeaaaDrawNew
import Derived.Test.YteoalolkjfeeaaaTick
namespace Go.Proofs.Yteoalolkjfeeaaa
open Go.RowKit

theorem OwnS.ne {w : World} {base : Nat} {v : Value} {xs : List Int} (h : OwnS w base v xs) {g : Nat} (hg : g < base) : v.ownBlock ≠ some g := by
  intro e
  have := h.blk g e
  omega
theorem OwnS.past {w : World} {base : Nat} {v : Value} {xs : List Int} (h : OwnS w base v xs) {g : Nat} (hg : g < base) : ∀ j, v.ownBlock = some j → g < j := by
  intro j e
  have := h.blk j e
  omega
theorem OwnS.bd {w : World} {base : Nat} {v : Value} {xs : List Int} (h : OwnS w base v xs) : ∀ x ∈ xs, I64 x := by
  obtain ⟨g, cap, rfl, ho⟩ := h
  exact ho.2.2
theorem row_some {g : Nat} {P : Nat → Prop} (h : P g) : ∀ j, some g = some j → P j := by
  intro j e
  simp only [Option.some.injEq] at e
  subst e
  exact h

theorem tr_le (l : List Int) : (tr l).length ≤ l.length := by
  have := (List.dropWhile_sublist (fun x : Int => x == 0) (l := l.reverse)).length_le
  simpa [tr] using this

set_option maxHeartbeats 1000000 in
theorem l1DrawClock_any (g : Nat) (n : Int) (w : World) (hc : Cur w g) (n0 : 0 ≤ n) (n1 : n ≤ 1000) :
    Calls Try.prog 48 #[.pointer (some ⟨g, 0, none⟩), .int .i64 n] w fun e w' => ∃ v xs, e = .returned v ∧ OwnS w' w.heap.size v xs ∧ (xs.length : Int) ≤ n ∧ Cur w' g ∧ w.grownBy w' (some g) := by
  have hgl := hc.lt
  go_enter Try.func48, Try.ntmps48
  have oe := own_empty w w.heap.size (Nat.le_refl _)
  go_wp2_with fail
  refine (l1Below_any _ _ _ (hc.fr (Fr.alloc _ _))).mono ?_
  rintro e w1 ⟨x, rfl, x0, x1, x2, c1, k1⟩
  have x3 : x ≤ n := by have := x1 (by omega); omega
  clear x1 x2
  have o1 := oe.keep k1 (oe.ne hgl)
  have g1 := grown_then (Fr.alloc w (.cells #[] 2)).wide k1 (row_some (.inr rfl))
  clear oe k1 hc
  obtain ⟨q, rfl⟩ := Int.eq_ofNat_of_zero_le x0
  go_wp2_with fail
  go_loopw [5, 6] (fun v i wr => ∃ j : Nat, ∃ xs, i = .int .i64 j ∧ ((xs.length + j : Nat) : Int) ≤ n ∧ OwnS wr w.heap.size v xs ∧ Cur wr g ∧ w.grownBy wr (some g)) (fun _ i _ => (intOf i).toNat)
  case atStart => exact ⟨q, [], rfl, by simpa using x3, o1, c1, g1⟩
  case round =>
    obtain ⟨j, xs, rfl, hj, ho, hcr, hgr⟩ := hrel
    have hs := hgr.size
    clear o1 c1 g1
    by_cases h0 : 0 < j
    · go_wp2_with fail
      refine (l1Below_any _ _ _ hcr).mono ?_
      rintro e w2 ⟨y, rfl, y0, y1, y2, c2, k2⟩
      have ho2 := ho.keep k2 (ho.ne hgl)
      have hg2 := grown_trans hgr k2
      have s2 := k2.size
      have hm := reads_one w2 y ⟨by omega, by omega⟩
      clear y1
      go_wp2_with (at_builtin; refine appI _ rfl _ _ rfl w.heap.size _ xs [y] rfl (ho2.fr (Fr.alloc _ _)) _ _ _ rfl rfl (by simp) hm (by simp; omega) (by simp; omega) ?_; intro v1 w4 hv1 ha1)
      go_roundw
      case rel =>
        refine ⟨j - 1, xs ++ [y], by go_num, by simp; omega, hv1, (c2.fr (Fr.alloc _ _)).other ha1 (ho2.past hgl), grown_then (grown_then hg2 (Fr.alloc _ _) (by simp)) ha1 (fun i hi => .inl (ho2.blk i hi))⟩
      case measure => simp [intOf]; omega
    · obtain ⟨gg, cap2, rfl, hoo⟩ := ho
      go_wp2_with fail
      refine (l1Trim_any gg _ cap2 w.heap.size _ _ rfl hoo).mono ?_
      rintro e w5 ⟨v5, rfl, ov, fv⟩
      go_wp2_with fail
      go_ret
      have := tr_le xs
      exact ⟨v5, tr xs, rfl, ov.lower hs, by omega, hcr.fr fv, grown_then hgr fv (by simp)⟩

set_option maxHeartbeats 2000000 in
theorem l1DrawAny_any (g : Nat) (w : World) (hc : Cur w g) :
    Calls Try.prog 35 #[.pointer (some ⟨g, 0, none⟩)] w fun e w' => ∃ v xs, e = .returned v ∧ OwnS w' w.heap.size v xs ∧ xs.length ≤ 20 ∧ Cur w' g ∧ w.grownBy w' (some g) := by
  have hgl := hc.lt
  go_enter Try.func35, Try.ntmps35
  go_wp2_with fail
  refine (l1DrawClock_any _ _ _ hc (by decide) (by decide)).mono ?_
  rintro e w1 ⟨v, xs, rfl, o1, hl1, c1, g1⟩
  go_wp2_with fail
  refine (l1Once_any _ _ _ c1).mono ?_
  rintro e w2 ⟨b, rfl, c2, k2⟩
  have o2 := o1.keep k2 (o1.ne hgl)
  have g2 := grown_trans g1 k2
  clear o1 c1 g1 k2 hc
  cases b
  · go_wp2_with fail
    go_ret
    exact ⟨v, xs, rfl, o2, by omega, c2, g2⟩
  · go_wp2_with fail
    refine (l1Below_any _ _ _ c2).mono ?_
    rintro e w3 ⟨x, rfl, x0, x1, x2, c3, k3⟩
    have o3 := o2.keep k3 (o2.ne hgl)
    have g3 := grown_trans g2 k3
    have s3 := g3.size
    have x4 : x < 4 := x1 (by omega)
    clear o2 c2 g2 k3 x1 x2
    have hx : x = 0 ∨ x = 1 ∨ x = 2 ∨ x = 3 := by omega
    clear x0 x4
    rcases hx with rfl | rfl | rfl | rfl
    · have hm := reads_one w3 0 ⟨by decide, by decide⟩
      go_wp2_with (at_builtin; refine appI _ rfl _ _ rfl w.heap.size _ xs [0] rfl (o3.fr (Fr.alloc _ _)) _ _ _ rfl rfl (by simp) hm (by simp; omega) (by simp; omega) ?_; intro v1 w4 hv1 ha1)
      go_ret
      exact ⟨v1, _, rfl, hv1, by simp; omega, (c3.fr (Fr.alloc _ _)).other ha1 (o3.past hgl), grown_then (grown_then g3 (Fr.alloc _ _) (by simp)) ha1 (fun i hi => .inl (o3.blk i hi))⟩
    · go_wp2_with fail
      refine (l1Odd_any _ _ c3).mono ?_
      rintro e w4 ⟨o, rfl, hob, c4, k4⟩
      have o4 := o3.keep k4 (o3.ne hgl)
      have g4 := grown_trans g3 k4
      have s4 := g4.size
      have l4 := c4.lt
      go_wp2_with fail
      refine (l1Below_any _ _ _ (c4.fr (Fr.alloc _ _))).mono ?_
      rintro e w5 ⟨y, rfl, y0, y1, y2, c5, k5⟩
      have y4 : y < 4 := y1 (by omega)
      clear y1 y2
      obtain ⟨k, rfl⟩ := Int.eq_ofNat_of_zero_le y0
      obtain ⟨z, hz, hcell⟩ := lit_cell (w := w4) (t := 2) [-1, 281474976710655, 281474976710656, o] (by intro z hz; simp at hz; rcases hz with rfl | rfl | rfl | rfl; exact ⟨by decide, by decide⟩; exact ⟨by decide, by decide⟩; exact ⟨by decide, by decide⟩; exact hob) k (by simp; omega)
      have hcell2 := k5.cell hcell (by simp; omega)
      have hk4 : k < 4 := by omega
      have o5 := (o4.fr (Fr.alloc _ _)).keep k5 (o4.ne hgl)
      have g5 := grown_then (grown_then g4 (Fr.alloc _ _) (by simp)) k5 (row_some (.inr rfl))
      have s5 := g5.size
      have hm := reads_one w5 z hz
      clear hcell o4 o3 g3 g4 c3 c4 k4 k5
      go_wp2_with (at_builtin; refine appI _ rfl _ _ rfl w.heap.size _ xs [z] rfl (o5.fr (Fr.alloc _ _)) _ _ _ rfl rfl (by simp) hm (by simp; omega) (by simp; omega) ?_; intro v1 w6 hv1 ha1)
      go_ret
      exact ⟨v1, _, rfl, hv1, by simp; omega, (c5.fr (Fr.alloc _ _)).other ha1 (o5.past hgl), grown_then (grown_then g5 (Fr.alloc _ _) (by simp)) ha1 (fun i hi => .inl (o5.blk i hi))⟩
    · go_wp2_with fail
      go_loopw [3] (fun v wr => ∃ ys : List Int, ys.length ≤ 17 ∧ OwnS wr w.heap.size v ys ∧ Cur wr g ∧ w.grownBy wr (some g)) (fun v _ => 18 - lenOfV v)
      case atStart => exact ⟨xs, by omega, o3, c3, g3⟩
      case round =>
        obtain ⟨ys, hy, ho, hcr, hgr⟩ := hrel
        have hs := hgr.size
        have ho' := ho
        obtain ⟨gg, cap2, rfl, hoo⟩ := ho'
        clear o3 c3 g3 s3
        go_wp2_with fail
        refine (l1Below_any _ _ _ hcr).mono ?_
        rintro e w4 ⟨y, rfl, y0, y1, y2, c4, k4⟩
        have y3 : y < 2 := y1 (by omega)
        clear y1 y2
        have o4 := ho.keep k4 (ho.ne hgl)
        have g4 := grown_trans hgr k4
        have s4 := g4.size
        by_cases hlt : (ys.length : Int) < 16 + y
        · go_wp2_with fail
          refine (l1Below_any _ _ _ c4).mono ?_
          rintro e w5 ⟨z, rfl, z0, z1, z2, c5, k5⟩
          have z3 : z < 3 := z1 (by omega)
          clear z1 z2
          have o5 := o4.keep k5 (o4.ne hgl)
          have g5 := grown_trans g4 k5
          have s5 := g5.size
          have hm := reads_one w5 (1 + z) ⟨by omega, by omega⟩
          clear hoo k4 k5 o4 ho
          go_wp2_with (at_builtin; refine appI _ rfl _ _ rfl w.heap.size _ ys [1 + z] rfl (o5.fr (Fr.alloc _ _)) _ _ _ rfl rfl (by simp) hm (by simp; omega) (by simp; omega) ?_; intro v1 w6 hv1 ha1)
          go_roundw
          case rel => exact ⟨ys ++ [1 + z], by simp; omega, hv1, (c5.fr (Fr.alloc _ _)).other ha1 (o5.past hgl), grown_then (grown_then g5 (Fr.alloc _ _) (by simp)) ha1 (fun i hi => .inl (o5.blk i hi))⟩
          case measure =>
            obtain ⟨g3, cap3, rfl, _⟩ := hv1
            simp [lenOfV]; omega
        · go_wp2_with fail
          go_ret
          exact ⟨_, ys, rfl, o4, by omega, c4, g4⟩
    · have o3' := o3
      obtain ⟨gg, cap2, rfl, hoo⟩ := o3'
      by_cases h0 : 0 < xs.length
      · have hce := hoo.1.cellAt 0 (by omega)
        rw [List.getElem?_map, List.getElem?_eq_getElem h0] at hce
        simp only [Option.map_some] at hce
        have hfz := hoo.1.frozenAt 0
        have hst := OwnS.stored hoo 0 281474976710655 ⟨by decide, by decide⟩
        have hb := own_row_blk hoo
        obtain ⟨old, hold⟩ : ∃ old, old = xs[0] := ⟨_, rfl⟩
        rw [← hold] at hce
        clear hold
        have HST := hst.1
        have hst2 := hst.2
        have hll : (xs.set 0 281474976710655).length = xs.length := by simp
        have HS : Hid (OwnS (w3.setCell ⟨gg, 0, none⟩ (.int .i64 281474976710655)) w.heap.size (.slice (some ⟨gg, 0, none⟩) xs.length cap2) (xs.set 0 281474976710655)) := ⟨gg, cap2, by rw [hll], HST⟩
        clear HST hst hll hoo o3
        go_wp2_with fail
        go_ret
        exact ⟨_, _, rfl, HS.out, by simp; omega, c3.other hst2 (row_some (by have := hb gg rfl; omega)), grown_then g3 hst2 (row_some (.inl (hb gg rfl)))⟩
      · go_wp2_with fail
        go_ret
        exact ⟨_, xs, rfl, o3, by omega, c3, g3⟩

theorem drawJoined_any (ao : Option Addr) (n cap : Nat) (w : World) (h : ByteRow w ao n) (hn : n ≤ 4096) :
    Calls Try.prog 13 #[.slice ao n cap] w fun e w' => ∃ v u xs ys, e = .returned (.tuple #[v, u]) ∧ OwnS w' w.heap.size v xs ∧ OwnS w' w.heap.size u ys ∧ Fr w w' := by
  go_enter Try.func13, Try.ntmps13
  go_wp2_with fail
  refine (l1New_any _ _ _ _ h (by omega)).mono ?_
  rintro e w1 ⟨rfl, c1, f1⟩
  have s1 := f1.size
  have l1 := c1.lt
  go_wp2_with fail
  refine (l1DrawAny_any _ _ c1).mono ?_
  rintro e w2 ⟨v, xs, rfl, o2, hl2, c2, g2⟩
  have s2 := g2.size
  go_wp2_with fail
  refine (l1DrawAny_any _ _ c2).mono ?_
  rintro e w3 ⟨u, ys, rfl, o3, hl3, c3, g3⟩
  go_wp2_with fail
  go_ret2
  exact ⟨v, u, xs, ys, rfl, (o2.keep g3 (o2.ne l1)).lower s1, o3.lower (by omega), f1.then (grown_trans g2 g3) (row_some (Nat.le_refl _))⟩
end Go.Proofs.Yteoalolkjfeeaaa
