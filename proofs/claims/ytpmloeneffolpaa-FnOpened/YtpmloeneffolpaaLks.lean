/-
  The laws' looks: a right config and right draws.
-/
import Derived.Test.YtpmloeneffolpaaDiceX
import Derived.Test.YtpmloeneffolpaaIntsApp
import Derived.Test.YtpmloeneffolpaaPrd2
namespace Go.Proofs.Ytpmloeneffolpaa
open Go.RowKit

/-- What looks draws. -/
structure LkR (c : Cf) (xs : List Int) : Prop where
  fr : c.r = 500000
  fs : 1 ≤ c.s ∧ c.s ≤ 9
  fb : 1 ≤ c.b ∧ c.b ≤ 3
  fm : 1 ≤ c.m ∧ c.m ≤ 4
  fq : 1 ≤ c.q ∧ c.q ≤ 6
  fc : 1 ≤ c.c ∧ c.c ≤ 64
  fw : 1 ≤ c.w ∧ c.w ≤ 4
  len : xs.length ≤ 29
  el : ∀ x ∈ xs, 0 ≤ x ∧ x ≤ 750000
theorem LkR.ok {c : Cf} {xs : List Int} (h : LkR c xs) : cfB c = true := by
  have h0 := h.fr
  have h1 := h.fs
  have h2 := h.fb
  have h3 := h.fm
  have h4 := h.fq
  have h5 := h.fc
  have h6 := h.fw
  simp only [cfB, Bool.and_eq_true]
  refine ⟨⟨⟨⟨⟨⟨inB_mk ?_ ?_, inB_mk ?_ ?_⟩, inB_mk ?_ ?_⟩, inB_mk ?_ ?_⟩, inB_mk ?_ ?_⟩, inB_mk ?_ ?_⟩, inB_mk ?_ ?_⟩ <;> omega
theorem LkR.dw {c : Cf} {xs : List Int} (h : LkR c xs) : dwB xs = true := by
  have hl := h.len
  refine dwB_mk (by omega) fun j hj => ?_
  have := h.el (xs.getD j 0) (by rw [getD_at hj]; exact List.getElem_mem hj)
  exact inB_mk (by omega) (by omega)

/-- A block that is a config. -/
def CfZ (w : World) (b : Nat) (cs : Array Value) : Prop := w.heap[b]? = some (.cells cs 25 (0, 0))
theorem CfZ.lt {w : World} {b : Nat} {c : Array Value} (h : CfZ w b c) : b < w.heap.size := (Array.getElem?_eq_some_iff.1 h).1
theorem CfZ.keep {w w' : World} {b : Nat} {c : Array Value} {row : Option Nat} (h : CfZ w b c) (k : w.grownBy w' row) (hr : row ≠ some b) : CfZ w' b c := (k.block b h.lt (fun q => hr q.symm)).trans h
theorem CfZ.fr {w w' : World} {b : Nat} {c : Array Value} (h : CfZ w b c) (k : Fr w w') : CfZ w' b c := h.keep k (by simp)
theorem CfZ.free {w : World} {b : Nat} {c : Array Value} (h : CfZ w b c) (i : Nat) : w.frozen? ⟨b, i, none⟩ = false := frozen_of_row w b i _ _ h
theorem CfZ.at {w : World} {b : Nat} {c : Cf} (h : CfZ w b #[.int .i64 c.r, .int .i64 c.s, .int .i64 c.b, .int .i64 c.m, .int .i64 c.q, .int .i64 c.c, .int .i64 c.w]) : CfAt w b 0 c := by
  refine ⟨?_, ?_, ?_, ?_, ?_, ?_, ?_⟩ <;> rw [cell_of_row _ _ _ _ _ _ h] <;> rfl
theorem CfZ.setR {w : World} {b : Nat} {c : Cf} (h : CfZ w b #[.int .i64 c.r, .int .i64 c.s, .int .i64 c.b, .int .i64 c.m, .int .i64 c.q, .int .i64 c.c, .int .i64 c.w]) (x : Int) : CfZ (w.setCell ⟨b, 0, none⟩ (.int .i64 x)) b #[.int .i64 x, .int .i64 c.s, .int .i64 c.b, .int .i64 c.m, .int .i64 c.q, .int .i64 c.c, .int .i64 c.w] := by
  have h1 := heap_setCell_same w b 0 _ _ (.int .i64 x) h
  exact h1
theorem CfZ.setC {w : World} {b : Nat} {c : Cf} (h : CfZ w b #[.int .i64 c.r, .int .i64 c.s, .int .i64 c.b, .int .i64 c.m, .int .i64 c.q, .int .i64 c.c, .int .i64 c.w]) (x : Int) : CfZ (w.setCell ⟨b, 5, none⟩ (.int .i64 x)) b #[.int .i64 c.r, .int .i64 c.s, .int .i64 c.b, .int .i64 c.m, .int .i64 c.q, .int .i64 x, .int .i64 c.w] := by
  have h1 := heap_setCell_same w b 5 _ _ (.int .i64 x) h
  exact h1
theorem put7 (w : World) (b : Nat) (v0 v1 v2 v3 v4 v5 v6 : Value) : w.grownBy (((((((w.setCell ⟨b, 0, none⟩ v0).setCell ⟨b, 1, none⟩ v1).setCell ⟨b, 2, none⟩ v2).setCell ⟨b, 3, none⟩ v3).setCell ⟨b, 4, none⟩ v4).setCell ⟨b, 5, none⟩ v5).setCell ⟨b, 6, none⟩ v6) (some b) :=
  (grown_trans (grown_trans (grown_trans (grown_trans (grown_trans (grown_trans (grown_set _ b 0 v0) (grown_set _ b 1 v1)) (grown_set _ b 2 v2)) (grown_set _ b 3 v3)) (grown_set _ b 4 v4)) (grown_set _ b 5 v5)) (grown_set _ b 6 v6))

set_option maxRecDepth 20000 in
set_option maxHeartbeats 4000000 in
theorem looks_any {w : World} {d n cap : Nat} {ao : Option Addr} (X : DX w w d ao n cap) (hn : n ≤ 4096) (hd : d < w.heap.size) (hb : 0 < n → ∀ q, blk ao = some q → q < w.heap.size) :
    Calls Try.prog 17 #[.pointer (some ⟨d, 0, none⟩)] w fun e w' => ∃ c : Cf, ∃ v xs, e = .returned (.tuple #[.agg #[.int .i64 c.r, .int .i64 c.s, .int .i64 c.b, .int .i64 c.m, .int .i64 c.q, .int .i64 c.c, .int .i64 c.w], v]) ∧ LkR c xs ∧ OwnS w' w.heap.size v xs ∧ DX w w' d ao n cap := by
  have X0 := X.fr (Fr.alloc w (.cells #[.int .i64 0, .int .i64 0, .int .i64 0, .int .i64 0, .int .i64 0, .int .i64 0, .int .i64 0] 25))
  have kz : CfZ (w.alloc (.cells #[.int .i64 0, .int .i64 0, .int .i64 0, .int .i64 0, .int .i64 0, .int .i64 0, .int .i64 0] 25)) w.heap.size #[.int .i64 0, .int .i64 0, .int .i64 0, .int .i64 0, .int .i64 0, .int .i64 0, .int .i64 0] := heap_alloc_new w _
  clear X
  go_enter Try.func17, Try.ntmps17
  go_wp2_with fail
  refine (belowX X0 hn 9 (by omega) (by omega)).mono ?_
  rintro e u1 ⟨a1, rfl, p1, q1, g1, Y1⟩
  clear X0
  have X1 := Y1
  replace kz := kz.keep g1 (by simp only [ne_eq, Option.some.injEq]; omega)
  go_wp2_with fail
  refine (belowX X1 hn 3 (by omega) (by omega)).mono ?_
  rintro e u2 ⟨a2, rfl, p2, q2, g2, Y2⟩
  clear X1
  have X2 := Y2
  replace kz := kz.keep g2 (by simp only [ne_eq, Option.some.injEq]; omega)
  go_wp2_with fail
  refine (belowX X2 hn 4 (by omega) (by omega)).mono ?_
  rintro e u3 ⟨a3, rfl, p3, q3, g3, Y3⟩
  clear X2
  have X3 := Y3
  replace kz := kz.keep g3 (by simp only [ne_eq, Option.some.injEq]; omega)
  go_wp2_with fail
  refine (belowX X3 hn 6 (by omega) (by omega)).mono ?_
  rintro e u4 ⟨a4, rfl, p4, q4, g4, Y4⟩
  clear X3
  have X4 := Y4
  replace kz := kz.keep g4 (by simp only [ne_eq, Option.some.injEq]; omega)
  go_wp2_with fail
  refine (belowX X4 hn 6 (by omega) (by omega)).mono ?_
  rintro e u5 ⟨a5, rfl, p5, q5, g5, Y5⟩
  clear X4
  have X5 := Y5
  replace kz := kz.keep g5 (by simp only [ne_eq, Option.some.injEq]; omega)
  go_wp2_with fail
  refine (belowX X5 hn 4 (by omega) (by omega)).mono ?_
  rintro e u6 ⟨a6, rfl, p6, q6, g6, Y6⟩
  clear X5
  have X6 := Y6
  replace kz := kz.keep g6 (by simp only [ne_eq, Option.some.injEq]; omega)
  have s6 := X6.g.size
  have hlt := kz.lt
  have K6 : CfZ (u6.alloc (.cells #[.int .i64 500000, .int .i64 (1 + a1), .int .i64 (1 + a2), .int .i64 (1 + a3), .int .i64 (1 + a4), .int .i64 (1 + a5), .int .i64 (1 + a6)] 25)) u6.heap.size #[.int .i64 500000, .int .i64 (1 + a1), .int .i64 (1 + a2), .int .i64 (1 + a3), .int .i64 (1 + a4), .int .i64 (1 + a5), .int .i64 (1 + a6)] := heap_alloc_new u6 _
  have X7 := X6.fr (Fr.alloc u6 (.cells #[.int .i64 500000, .int .i64 (1 + a1), .int .i64 (1 + a2), .int .i64 (1 + a3), .int .i64 (1 + a4), .int .i64 (1 + a5), .int .i64 (1 + a6)] 25))
  replace kz := kz.fr (Fr.alloc u6 (.cells #[.int .i64 500000, .int .i64 (1 + a1), .int .i64 (1 + a2), .int .i64 (1 + a3), .int .i64 (1 + a4), .int .i64 (1 + a5), .int .i64 (1 + a6)] 25))
  clear X6
  go_wp2_with fail
  refine (belowX X7 hn 2 (by omega) (by omega)).mono ?_
  rintro e u8 ⟨a7, rfl, p7, q7, g7, X8⟩
  replace kz := kz.keep g7 (by simp only [ne_eq, Option.some.injEq]; omega)
  have K8 := K6.keep g7 (by simp only [ne_eq, Option.some.injEq]; omega)
  have s8 := g7.size
  clear K6 X7 g7
  simp only [World.size_alloc] at s8
  obtain ⟨E, hE⟩ : ∃ E, E = u6.heap.size := ⟨_, rfl⟩
  rw [← hE] at K8 s8 s6 hlt ⊢
  clear hE
  obtain ⟨k0, k1, k2, k3, k4, k5, k6⟩ := CfZ.at (c := ⟨500000, 1 + a1, 1 + a2, 1 + a3, 1 + a4, 1 + a5, 1 + a6⟩) K8
  simp only [Nat.zero_add] at k0 k1 k2 k3 k4 k5 k6
  have hf5 := K8.free 5
  by_cases h7 : a7 = 0
  · have KV := CfZ.setC (c := ⟨500000, 1 + a1, 1 + a2, 1 + a3, 1 + a4, 1 + a5, 1 + a6⟩) K8 64
    have gV := grown_set u8 E 5 (.int .i64 64)
    have sV : (u8.setCell ⟨E, 5, none⟩ (.int .i64 64)).heap.size = u8.heap.size := by simp
    have XV := X8.past gV (fun i hi => by cases hi; omega) hd hb
    replace kz := kz.keep gV (by simp only [ne_eq, Option.some.injEq]; omega)
    have hlt' := KV.lt
    clear K8 X8 gV
    go_wp2_with fail
    clear k0 k1 k2 k3 k4 k5 k6 hf5
    obtain ⟨V, hV⟩ : ∃ V, V = u8.setCell ⟨E, 5, none⟩ (.int .i64 64) := ⟨_, rfl⟩
    rw [← hV] at KV XV kz sV hlt' ⊢
    rw [← sV]
    rw [← sV] at s8
    clear hV sV
    have F9 := Fr.alloc V (.cells #[] 2)
    have oe := own_empty V (E + 1) (by omega)
    replace KV := KV.fr F9
    replace kz := kz.fr F9
    replace XV := XV.fr F9
    clear F9
    go_wp2_with fail
    refine (belowX XV hn 30 (by omega) (by omega)).mono ?_
    rintro e u9 ⟨a8, rfl, p8, q8, g8, X9⟩
    have o9 := oe.keep g8 (oe.ne (by omega))
    replace KV := KV.keep g8 (by simp only [ne_eq, Option.some.injEq]; omega)
    replace kz := kz.keep g8 (by simp only [ne_eq, Option.some.injEq]; omega)
    clear XV oe g8
    obtain ⟨q, rfl⟩ := Int.eq_ofNat_of_zero_le p8
    clear p8
    go_wp2_with fail
    go_loopw [5, 6] (fun v i wr => ∃ j : Nat, ∃ xs, i = .int .i64 j ∧ Hid (xs.length + j ≤ 29) ∧ Hid (∀ x ∈ xs, 0 ≤ x ∧ x ≤ 750000) ∧ OwnS wr (E + 1) v xs ∧ DX w wr d ao n cap ∧ CfZ wr w.heap.size #[.int .i64 0, .int .i64 0, .int .i64 0, .int .i64 0, .int .i64 0, .int .i64 0, .int .i64 0] ∧ CfZ wr E #[.int .i64 500000, .int .i64 (1 + a1), .int .i64 (1 + a2), .int .i64 (1 + a3), .int .i64 (1 + a4), .int .i64 64, .int .i64 (1 + a6)]) (fun _ i _ => (intOf i).toNat)
    case atStart => exact ⟨q, [], rfl, by show 0 + q ≤ 29; omega, (by intro x hx; cases hx), o9, X9, kz, KV⟩
    case round =>
      obtain ⟨j, xs, rfl, Hj, Hx, ho, hX, hz, hK⟩ := hrel
      have hj := Hj.out
      have hs := hX.g.size
      have hKl := hK.lt
      clear o9 X9 kz KV q8
      by_cases h0 : 0 < j
      · go_wp2_with fail
        refine (belowX hX hn 4 (by omega) (by omega)).mono ?_
        rintro e w2 ⟨y, rfl, y0, y1, k2, X2⟩
        have ho2 := ho.keep k2 (ho.ne (by omega))
        have hz2 := hz.keep k2 (by simp only [ne_eq, Option.some.injEq]; omega)
        have hK2 := hK.keep k2 (by simp only [ne_eq, Option.some.injEq]; omega)
        have s2 := k2.size
        have hm := reads_one w2 (y * 1000000 / 4) ⟨by omega, by omega⟩
        clear ho hX hz hK k2
        go_wp2_with (at_builtin; refine appI _ rfl _ _ rfl (E + 1) _ xs [y * 1000000 / 4] rfl (ho2.fr (Fr.alloc _ _)) _ _ _ rfl rfl (by simp) hm (by simp; omega) (by simp; omega) ?_; intro v1 w4 hv1 ha1)
        have hbk := ho2.blk
        go_roundw
        case rel =>
          refine ⟨j - 1, xs ++ [y * 1000000 / 4], by go_num, ?_, ?_, hv1, (X2.fr (Fr.alloc _ _)).past ha1 (fun i hi => by have := hbk i hi; omega) hd hb, (hz2.fr (Fr.alloc _ _)).keep ha1 (fun e => by have := hbk _ e; omega), (hK2.fr (Fr.alloc _ _)).keep ha1 (fun e => by have := hbk _ e; omega)⟩
          · show (xs ++ [y * 1000000 / 4]).length + (j - 1) ≤ 29
            simp
            omega
          · intro x hx
            rcases List.mem_append.1 hx with q | q
            · exact Hx.out x q
            · simp only [List.mem_singleton] at q
              omega
        case measure => simp [intOf]; omega
      · obtain ⟨gg, cap2, rfl, hoo⟩ := ho
        have hs := OwnI.lower hoo (show w.heap.size ≤ E + 1 by omega)
        obtain ⟨k0, k1, k2, k3, k4, k5, k6⟩ := CfZ.at (c := ⟨500000, 1 + a1, 1 + a2, 1 + a3, 1 + a4, 64, 1 + a6⟩) hK
        obtain ⟨j0, j1, j2, j3, j4, j5, j6⟩ := CfZ.at (c := ⟨0, 0, 0, 0, 0, 0, 0⟩) hz
        simp only [Nat.zero_add] at k0 k1 k2 k3 k4 k5 k6 j0 j1 j2 j3 j4 j5 j6
        have jf := fun i => hz.free i
        have hgg : E + 1 ≤ gg := (hoo.1.lt gg rfl).1
        go_wp2_with fail
        have g7 := put7 wr w.heap.size (.int .i64 500000) (.int .i64 (1 + a1)) (.int .i64 (1 + a2)) (.int .i64 (1 + a3)) (.int .i64 (1 + a4)) (.int .i64 64) (.int .i64 (1 + a6))
        refine bodyPost_ret (v := .tuple #[.agg #[.int .i64 500000, .int .i64 (1 + a1), .int .i64 (1 + a2), .int .i64 (1 + a3), .int .i64 (1 + a4), .int .i64 64, .int .i64 (1 + a6)], .slice (some ⟨gg, 0, none⟩) xs.length cap2]) (by simp [results, Try.results17, go_sem, j0, j1, j2, j3, j4, j5, j6]) rfl ⟨⟨500000, 1 + a1, 1 + a2, 1 + a3, 1 + a4, 64, 1 + a6⟩, _, xs, rfl, ⟨rfl, by dsimp only; omega, by dsimp only; omega, by dsimp only; omega, by dsimp only; omega, by dsimp only; omega, by dsimp only; omega, by omega, Hx.out⟩, ⟨gg, cap2, rfl, hs.keep g7 (.inr (by simp only [Value.ownBlock, ne_eq, Option.some.injEq]; omega))⟩, hX.past g7 (fun i hi => by cases hi; omega) hd hb⟩
  · clear hf5
    have hlt' := K8.lt
    go_wp2_with fail
    clear k0 k1 k2 k3 k4 k5 k6
    have KV := K8
    have XV := X8
    obtain ⟨V, hV⟩ : ∃ V, V = u8 := ⟨_, rfl⟩
    rw [← hV] at KV XV kz s8 hlt' ⊢
    clear hV K8 X8
    have F9 := Fr.alloc V (.cells #[] 2)
    have oe := own_empty V (E + 1) (by omega)
    replace KV := KV.fr F9
    replace kz := kz.fr F9
    replace XV := XV.fr F9
    clear F9
    go_wp2_with fail
    refine (belowX XV hn 30 (by omega) (by omega)).mono ?_
    rintro e u9 ⟨a8, rfl, p8, q8, g8, X9⟩
    have o9 := oe.keep g8 (oe.ne (by omega))
    replace KV := KV.keep g8 (by simp only [ne_eq, Option.some.injEq]; omega)
    replace kz := kz.keep g8 (by simp only [ne_eq, Option.some.injEq]; omega)
    clear XV oe g8
    obtain ⟨q, rfl⟩ := Int.eq_ofNat_of_zero_le p8
    clear p8
    go_wp2_with fail
    go_loopw [5, 6] (fun v i wr => ∃ j : Nat, ∃ xs, i = .int .i64 j ∧ Hid (xs.length + j ≤ 29) ∧ Hid (∀ x ∈ xs, 0 ≤ x ∧ x ≤ 750000) ∧ OwnS wr (E + 1) v xs ∧ DX w wr d ao n cap ∧ CfZ wr w.heap.size #[.int .i64 0, .int .i64 0, .int .i64 0, .int .i64 0, .int .i64 0, .int .i64 0, .int .i64 0] ∧ CfZ wr E #[.int .i64 500000, .int .i64 (1 + a1), .int .i64 (1 + a2), .int .i64 (1 + a3), .int .i64 (1 + a4), .int .i64 (1 + a5), .int .i64 (1 + a6)]) (fun _ i _ => (intOf i).toNat)
    case atStart => exact ⟨q, [], rfl, by show 0 + q ≤ 29; omega, (by intro x hx; cases hx), o9, X9, kz, KV⟩
    case round =>
      obtain ⟨j, xs, rfl, Hj, Hx, ho, hX, hz, hK⟩ := hrel
      have hj := Hj.out
      have hs := hX.g.size
      have hKl := hK.lt
      clear o9 X9 kz KV q8
      by_cases h0 : 0 < j
      · go_wp2_with fail
        refine (belowX hX hn 4 (by omega) (by omega)).mono ?_
        rintro e w2 ⟨y, rfl, y0, y1, k2, X2⟩
        have ho2 := ho.keep k2 (ho.ne (by omega))
        have hz2 := hz.keep k2 (by simp only [ne_eq, Option.some.injEq]; omega)
        have hK2 := hK.keep k2 (by simp only [ne_eq, Option.some.injEq]; omega)
        have s2 := k2.size
        have hm := reads_one w2 (y * 1000000 / 4) ⟨by omega, by omega⟩
        clear ho hX hz hK k2
        go_wp2_with (at_builtin; refine appI _ rfl _ _ rfl (E + 1) _ xs [y * 1000000 / 4] rfl (ho2.fr (Fr.alloc _ _)) _ _ _ rfl rfl (by simp) hm (by simp; omega) (by simp; omega) ?_; intro v1 w4 hv1 ha1)
        have hbk := ho2.blk
        go_roundw
        case rel =>
          refine ⟨j - 1, xs ++ [y * 1000000 / 4], by go_num, ?_, ?_, hv1, (X2.fr (Fr.alloc _ _)).past ha1 (fun i hi => by have := hbk i hi; omega) hd hb, (hz2.fr (Fr.alloc _ _)).keep ha1 (fun e => by have := hbk _ e; omega), (hK2.fr (Fr.alloc _ _)).keep ha1 (fun e => by have := hbk _ e; omega)⟩
          · show (xs ++ [y * 1000000 / 4]).length + (j - 1) ≤ 29
            simp
            omega
          · intro x hx
            rcases List.mem_append.1 hx with q | q
            · exact Hx.out x q
            · simp only [List.mem_singleton] at q
              omega
        case measure => simp [intOf]; omega
      · obtain ⟨gg, cap2, rfl, hoo⟩ := ho
        have hs := OwnI.lower hoo (show w.heap.size ≤ E + 1 by omega)
        obtain ⟨k0, k1, k2, k3, k4, k5, k6⟩ := CfZ.at (c := ⟨500000, 1 + a1, 1 + a2, 1 + a3, 1 + a4, (1 + a5), 1 + a6⟩) hK
        obtain ⟨j0, j1, j2, j3, j4, j5, j6⟩ := CfZ.at (c := ⟨0, 0, 0, 0, 0, 0, 0⟩) hz
        simp only [Nat.zero_add] at k0 k1 k2 k3 k4 k5 k6 j0 j1 j2 j3 j4 j5 j6
        have jf := fun i => hz.free i
        have hgg : E + 1 ≤ gg := (hoo.1.lt gg rfl).1
        go_wp2_with fail
        have g7 := put7 wr w.heap.size (.int .i64 500000) (.int .i64 (1 + a1)) (.int .i64 (1 + a2)) (.int .i64 (1 + a3)) (.int .i64 (1 + a4)) (.int .i64 (1 + a5)) (.int .i64 (1 + a6))
        refine bodyPost_ret (v := .tuple #[.agg #[.int .i64 500000, .int .i64 (1 + a1), .int .i64 (1 + a2), .int .i64 (1 + a3), .int .i64 (1 + a4), .int .i64 (1 + a5), .int .i64 (1 + a6)], .slice (some ⟨gg, 0, none⟩) xs.length cap2]) (by simp [results, Try.results17, go_sem, j0, j1, j2, j3, j4, j5, j6]) rfl ⟨⟨500000, 1 + a1, 1 + a2, 1 + a3, 1 + a4, (1 + a5), 1 + a6⟩, _, xs, rfl, ⟨rfl, by dsimp only; omega, by dsimp only; omega, by dsimp only; omega, by dsimp only; omega, by dsimp only; omega, by dsimp only; omega, by omega, Hx.out⟩, ⟨gg, cap2, rfl, hs.keep g7 (.inr (by simp only [Value.ownBlock, ne_eq, Option.some.injEq]; omega))⟩, hX.past g7 (fun i hi => by cases hi; omega) hd hb⟩
end Go.Proofs.Ytpmloeneffolpaa
