/-
  The drawing of configs, draws and numbers: l9Draw, l9DrawAny, l9DrawAt, DrawOnAt.
-/
import Derived.Test.YtpmloeneffolpaaLks
import Derived.Test.YtpmloeneffolpaaArgCf
namespace Go.Proofs.Ytpmloeneffolpaa
open Go.RowKit

theorem CfZ.set0 {w : World} {b : Nat} {c : Cf} (h : CfZ w b #[.int .i64 c.r, .int .i64 c.s, .int .i64 c.b, .int .i64 c.m, .int .i64 c.q, .int .i64 c.c, .int .i64 c.w]) (x : Int) : CfZ (w.setCell ⟨b, 0, none⟩ (.int .i64 x)) b #[.int .i64 x, .int .i64 c.s, .int .i64 c.b, .int .i64 c.m, .int .i64 c.q, .int .i64 c.c, .int .i64 c.w] := by
  have h1 := heap_setCell_same w b 0 _ _ (.int .i64 x) h
  exact h1
theorem CfZ.set1 {w : World} {b : Nat} {c : Cf} (h : CfZ w b #[.int .i64 c.r, .int .i64 c.s, .int .i64 c.b, .int .i64 c.m, .int .i64 c.q, .int .i64 c.c, .int .i64 c.w]) (x : Int) : CfZ (w.setCell ⟨b, 1, none⟩ (.int .i64 x)) b #[.int .i64 c.r, .int .i64 x, .int .i64 c.b, .int .i64 c.m, .int .i64 c.q, .int .i64 c.c, .int .i64 c.w] := by
  have h1 := heap_setCell_same w b 1 _ _ (.int .i64 x) h
  exact h1
theorem CfZ.set2 {w : World} {b : Nat} {c : Cf} (h : CfZ w b #[.int .i64 c.r, .int .i64 c.s, .int .i64 c.b, .int .i64 c.m, .int .i64 c.q, .int .i64 c.c, .int .i64 c.w]) (x : Int) : CfZ (w.setCell ⟨b, 2, none⟩ (.int .i64 x)) b #[.int .i64 c.r, .int .i64 c.s, .int .i64 x, .int .i64 c.m, .int .i64 c.q, .int .i64 c.c, .int .i64 c.w] := by
  have h1 := heap_setCell_same w b 2 _ _ (.int .i64 x) h
  exact h1
theorem CfZ.set3 {w : World} {b : Nat} {c : Cf} (h : CfZ w b #[.int .i64 c.r, .int .i64 c.s, .int .i64 c.b, .int .i64 c.m, .int .i64 c.q, .int .i64 c.c, .int .i64 c.w]) (x : Int) : CfZ (w.setCell ⟨b, 3, none⟩ (.int .i64 x)) b #[.int .i64 c.r, .int .i64 c.s, .int .i64 c.b, .int .i64 x, .int .i64 c.q, .int .i64 c.c, .int .i64 c.w] := by
  have h1 := heap_setCell_same w b 3 _ _ (.int .i64 x) h
  exact h1
theorem CfZ.set4 {w : World} {b : Nat} {c : Cf} (h : CfZ w b #[.int .i64 c.r, .int .i64 c.s, .int .i64 c.b, .int .i64 c.m, .int .i64 c.q, .int .i64 c.c, .int .i64 c.w]) (x : Int) : CfZ (w.setCell ⟨b, 4, none⟩ (.int .i64 x)) b #[.int .i64 c.r, .int .i64 c.s, .int .i64 c.b, .int .i64 c.m, .int .i64 x, .int .i64 c.c, .int .i64 c.w] := by
  have h1 := heap_setCell_same w b 4 _ _ (.int .i64 x) h
  exact h1
theorem CfZ.set5 {w : World} {b : Nat} {c : Cf} (h : CfZ w b #[.int .i64 c.r, .int .i64 c.s, .int .i64 c.b, .int .i64 c.m, .int .i64 c.q, .int .i64 c.c, .int .i64 c.w]) (x : Int) : CfZ (w.setCell ⟨b, 5, none⟩ (.int .i64 x)) b #[.int .i64 c.r, .int .i64 c.s, .int .i64 c.b, .int .i64 c.m, .int .i64 c.q, .int .i64 x, .int .i64 c.w] := by
  have h1 := heap_setCell_same w b 5 _ _ (.int .i64 x) h
  exact h1
theorem CfZ.set6 {w : World} {b : Nat} {c : Cf} (h : CfZ w b #[.int .i64 c.r, .int .i64 c.s, .int .i64 c.b, .int .i64 c.m, .int .i64 c.q, .int .i64 c.c, .int .i64 c.w]) (x : Int) : CfZ (w.setCell ⟨b, 6, none⟩ (.int .i64 x)) b #[.int .i64 c.r, .int .i64 c.s, .int .i64 c.b, .int .i64 c.m, .int .i64 c.q, .int .i64 c.c, .int .i64 x] := by
  have h1 := heap_setCell_same w b 6 _ _ (.int .i64 x) h
  exact h1
theorem CfZ.put {w : World} {b : Nat} {c : Cf} (h : CfZ w b #[.int .i64 c.r, .int .i64 c.s, .int .i64 c.b, .int .i64 c.m, .int .i64 c.q, .int .i64 c.c, .int .i64 c.w]) (v0 v1 v2 v3 v4 v5 v6 : Int) : CfZ (((((((w.setCell ⟨b, 0, none⟩ (.int .i64 v0)).setCell ⟨b, 1, none⟩ (.int .i64 v1)).setCell ⟨b, 2, none⟩ (.int .i64 v2)).setCell ⟨b, 3, none⟩ (.int .i64 v3)).setCell ⟨b, 4, none⟩ (.int .i64 v4)).setCell ⟨b, 5, none⟩ (.int .i64 v5)).setCell ⟨b, 6, none⟩ (.int .i64 v6)) b #[.int .i64 v0, .int .i64 v1, .int .i64 v2, .int .i64 v3, .int .i64 v4, .int .i64 v5, .int .i64 v6] := by
  have h0 := h.set0 v0
  have h1 := CfZ.set1 (c := ⟨v0, c.s, c.b, c.m, c.q, c.c, c.w⟩) h0 v1
  have h2 := CfZ.set2 (c := ⟨v0, v1, c.b, c.m, c.q, c.c, c.w⟩) h1 v2
  have h3 := CfZ.set3 (c := ⟨v0, v1, v2, c.m, c.q, c.c, c.w⟩) h2 v3
  have h4 := CfZ.set4 (c := ⟨v0, v1, v2, v3, c.q, c.c, c.w⟩) h3 v4
  have h5 := CfZ.set5 (c := ⟨v0, v1, v2, v3, v4, c.c, c.w⟩) h4 v5
  have h6 := CfZ.set6 (c := ⟨v0, v1, v2, v3, v4, v5, c.w⟩) h5 v6
  exact h6

set_option maxRecDepth 20000 in
set_option maxHeartbeats 4000000 in
theorem l9Draw_any (g : Nat) (w : World) (hc : Cur w g) :
    Calls Try.prog 43 #[.pointer (some ⟨g, 0, none⟩)] w fun e w' => ∃ c : Cf, ∃ v xs, e = .returned (.tuple #[.agg #[.int .i64 c.r, .int .i64 c.s, .int .i64 c.b, .int .i64 c.m, .int .i64 c.q, .int .i64 c.c, .int .i64 c.w], v]) ∧ CfI c ∧ OwnS w' w.heap.size v xs ∧ xs.length ≤ 19 ∧ Cur w' g ∧ w.grownBy w' (some g) := by
  have hgl := hc.lt
  have C0 := hc.fr (Fr.alloc w (.cells #[.int .i64 0, .int .i64 0, .int .i64 0, .int .i64 0, .int .i64 0, .int .i64 0, .int .i64 0] 25))
  have G0 : w.grownBy (w.alloc (.cells #[.int .i64 0, .int .i64 0, .int .i64 0, .int .i64 0, .int .i64 0, .int .i64 0, .int .i64 0] 25)) (some g) := (Fr.alloc w _).wide
  have kz : CfZ (w.alloc (.cells #[.int .i64 0, .int .i64 0, .int .i64 0, .int .i64 0, .int .i64 0, .int .i64 0, .int .i64 0] 25)) w.heap.size #[.int .i64 0, .int .i64 0, .int .i64 0, .int .i64 0, .int .i64 0, .int .i64 0, .int .i64 0] := heap_alloc_new w _
  clear hc
  go_enter Try.func43, Try.ntmps43
  go_wp2_with fail
  refine (l1Below_any _ _ _ C0).mono ?_
  rintro e u1 ⟨a1, rfl, p1, q1, r1, D1, g1⟩
  have q1 := q1 (by omega)
  have G1 := grown_then G0 g1 (row_some (.inr rfl))
  replace kz := kz.keep g1 (by simp only [ne_eq, Option.some.injEq]; omega)
  clear C0 G0 g1
  have C1 := D1
  clear D1
  go_wp2_with fail
  refine (l1Below_any _ _ _ C1).mono ?_
  rintro e u2 ⟨a2, rfl, p2, q2, r2, D2, g2⟩
  have q2 := q2 (by omega)
  have G2 := grown_then G1 g2 (row_some (.inr rfl))
  replace kz := kz.keep g2 (by simp only [ne_eq, Option.some.injEq]; omega)
  clear C1 G1 g2
  have C2 := D2
  clear D2
  go_wp2_with fail
  refine (l1Below_any _ _ _ C2).mono ?_
  rintro e u3 ⟨a3, rfl, p3, q3, r3, D3, g3⟩
  have q3 := q3 (by omega)
  have G3 := grown_then G2 g3 (row_some (.inr rfl))
  replace kz := kz.keep g3 (by simp only [ne_eq, Option.some.injEq]; omega)
  clear C2 G2 g3
  have C3 := D3
  clear D3
  go_wp2_with fail
  refine (l1Below_any _ _ _ C3).mono ?_
  rintro e u4 ⟨a4, rfl, p4, q4, r4, D4, g4⟩
  have q4 := q4 (by omega)
  have G4 := grown_then G3 g4 (row_some (.inr rfl))
  replace kz := kz.keep g4 (by simp only [ne_eq, Option.some.injEq]; omega)
  clear C3 G3 g4
  have C4 := D4
  clear D4
  go_wp2_with fail
  refine (l1Below_any _ _ _ C4).mono ?_
  rintro e u5 ⟨a5, rfl, p5, q5, r5, D5, g5⟩
  have q5 := q5 (by omega)
  have G5 := grown_then G4 g5 (row_some (.inr rfl))
  replace kz := kz.keep g5 (by simp only [ne_eq, Option.some.injEq]; omega)
  clear C4 G4 g5
  have C5 := D5
  clear D5
  go_wp2_with fail
  refine (l1Below_any _ _ _ C5).mono ?_
  rintro e u6 ⟨a6, rfl, p6, q6, r6, D6, g6⟩
  have q6 := q6 (by omega)
  have G6 := grown_then G5 g6 (row_some (.inr rfl))
  replace kz := kz.keep g6 (by simp only [ne_eq, Option.some.injEq]; omega)
  clear C5 G5 g6
  have C6 := D6
  clear D6
  have s6 := G6.size
  have hlt := kz.lt
  have K6 : CfZ (u6.alloc (.cells #[.int .i64 500000, .int .i64 (1 + a1), .int .i64 (1 + a2), .int .i64 (1 + a3), .int .i64 a4, .int .i64 (1 + a5), .int .i64 (1 + a6)] 25)) u6.heap.size #[.int .i64 500000, .int .i64 (1 + a1), .int .i64 (1 + a2), .int .i64 (1 + a3), .int .i64 a4, .int .i64 (1 + a5), .int .i64 (1 + a6)] := heap_alloc_new u6 _
  have F7 := Fr.alloc u6 (.cells #[.int .i64 500000, .int .i64 (1 + a1), .int .i64 (1 + a2), .int .i64 (1 + a3), .int .i64 a4, .int .i64 (1 + a5), .int .i64 (1 + a6)] 25)
  replace kz := kz.fr F7
  go_wp2_with fail
  refine (l1Once_any _ _ _ (C6.fr F7)).mono ?_
  rintro e u7 ⟨bb, rfl, C7, g7⟩
  have G7 := grown_then (grown_then G6 F7 (by simp)) g7 (row_some (.inr rfl))
  replace kz := kz.keep g7 (by simp only [ne_eq, Option.some.injEq]; omega)
  have K7 := K6.keep g7 (by simp only [ne_eq, Option.some.injEq]; omega)
  have s7 := g7.size
  simp only [World.size_alloc] at s7
  obtain ⟨E, hE⟩ : ∃ E, E = u6.heap.size := ⟨_, rfl⟩
  rw [← hE] at K7 s7 s6 hlt ⊢
  clear hE K6 F7 C6 G6 g7
  cases bb
  · have hlt' := K7.lt
    go_wp2_with fail
    have KV := K7
    have CV := C7
    have GV := G7
    obtain ⟨V, hV⟩ : ∃ V, V = u7 := ⟨_, rfl⟩
    rw [← hV] at KV CV GV kz s7 hlt' ⊢
    clear hV K7 C7 G7
    have oe := own_empty V (E + 1) (by omega)
    have F9 := Fr.alloc V (.cells #[] 2)
    replace KV := KV.fr F9
    replace kz := kz.fr F9
    replace CV := CV.fr F9
    replace GV := grown_then GV F9 (by simp)
    clear F9
    go_wp2_with fail
    refine (l1Below_any _ _ _ CV).mono ?_
    rintro e u9 ⟨a9, rfl, p9, q9, r9, C9, g9⟩
    have q9 := q9 (by omega)
    have o9 := oe.keep g9 (oe.ne (by omega))
    replace KV := KV.keep g9 (by simp only [ne_eq, Option.some.injEq]; omega)
    replace kz := kz.keep g9 (by simp only [ne_eq, Option.some.injEq]; omega)
    have G9 := grown_then GV g9 (row_some (.inr rfl))
    clear CV oe g9 GV r9
    obtain ⟨q, rfl⟩ := Int.eq_ofNat_of_zero_le p9
    clear p9
    go_wp2_with fail
    go_loopw [5, 6] (fun v i wr => ∃ j : Nat, ∃ xs, i = .int .i64 j ∧ Hid (xs.length + j ≤ 19) ∧ OwnS wr (E + 1) v xs ∧ Cur wr g ∧ w.grownBy wr (some g) ∧ CfZ wr w.heap.size #[.int .i64 0, .int .i64 0, .int .i64 0, .int .i64 0, .int .i64 0, .int .i64 0, .int .i64 0] ∧ CfZ wr E #[.int .i64 500000, .int .i64 (1 + a1), .int .i64 (1 + a2), .int .i64 (1 + a3), .int .i64 a4, .int .i64 (1 + a5), .int .i64 (1 + a6)]) (fun _ i _ => (intOf i).toNat)
    case atStart => exact ⟨q, [], rfl, by show 0 + q ≤ 19; omega, o9, C9, G9, kz, KV⟩
    case round =>
      obtain ⟨j, xs, rfl, Hj, ho, hC, hG, hz, hK⟩ := hrel
      have hj := Hj.out
      have hs := hG.size
      have hKl := hK.lt
      clear o9 C9 G9 kz KV q9
      by_cases h0 : 0 < j
      · go_wp2_with fail
        refine (l1Below_any _ _ _ hC).mono ?_
        rintro e w2 ⟨y, rfl, y0, y1, y2, C2, k2⟩
        have y1 := y1 (by omega)
        have ho2 := ho.keep k2 (ho.ne (by omega))
        have hz2 := hz.keep k2 (by simp only [ne_eq, Option.some.injEq]; omega)
        have hK2 := hK.keep k2 (by simp only [ne_eq, Option.some.injEq]; omega)
        have G2 := grown_then hG k2 (row_some (.inr rfl))
        have s2 := k2.size
        have hm := reads_one w2 (y * 1000000 / 4) ⟨by omega, by omega⟩
        clear ho hC hz hK k2 hG
        go_wp2_with (at_builtin; refine appI _ rfl _ _ rfl (E + 1) _ xs [y * 1000000 / 4] rfl (ho2.fr (Fr.alloc _ _)) _ _ _ rfl rfl (by simp) hm (by simp; omega) (by simp; omega) ?_; intro v1 w4 hv1 ha1)
        have hbk := ho2.blk
        go_roundw
        case rel =>
          refine ⟨j - 1, xs ++ [y * 1000000 / 4], by go_num, ?_, hv1, (C2.fr (Fr.alloc _ _)).other ha1 (fun i hi => by have := hbk i hi; omega), grown_then (grown_then G2 (Fr.alloc _ _) (by simp)) ha1 (fun i hi => .inl (by have := hbk i hi; omega)), (hz2.fr (Fr.alloc _ _)).keep ha1 (fun e => by have := hbk _ e; omega), (hK2.fr (Fr.alloc _ _)).keep ha1 (fun e => by have := hbk _ e; omega)⟩
          show (xs ++ [y * 1000000 / 4]).length + (j - 1) ≤ 19
          simp
          omega
        case measure => simp [intOf]; omega
      · obtain ⟨gg, cap2, rfl, hoo⟩ := ho
        have hs := OwnI.lower hoo (show w.heap.size ≤ E + 1 by omega)
        obtain ⟨k0, k1, k2, k3, k4, k5, k6⟩ := CfZ.at (c := ⟨500000, 1 + a1, 1 + a2, 1 + a3, a4, 1 + a5, 1 + a6⟩) hK
        obtain ⟨j0, j1, j2, j3, j4, j5, j6⟩ := CfZ.at (c := ⟨0, 0, 0, 0, 0, 0, 0⟩) hz
        simp only [Nat.zero_add] at k0 k1 k2 k3 k4 k5 k6 j0 j1 j2 j3 j4 j5 j6
        have jf := fun i => hz.free i
        have hgg : E + 1 ≤ gg := (hoo.1.lt gg rfl).1
        go_wp2_with fail
        have g7 := put7 wr w.heap.size (.int .i64 500000) (.int .i64 (1 + a1)) (.int .i64 (1 + a2)) (.int .i64 (1 + a3)) (.int .i64 a4) (.int .i64 (1 + a5)) (.int .i64 (1 + a6))
        refine bodyPost_ret (v := .tuple #[.agg #[.int .i64 500000, .int .i64 (1 + a1), .int .i64 (1 + a2), .int .i64 (1 + a3), .int .i64 a4, .int .i64 (1 + a5), .int .i64 (1 + a6)], .slice (some ⟨gg, 0, none⟩) xs.length cap2]) (by simp [results, Try.results43, go_sem, j0, j1, j2, j3, j4, j5, j6]) rfl ⟨⟨500000, 1 + a1, 1 + a2, 1 + a3, a4, 1 + a5, 1 + a6⟩, _, xs, rfl, ⟨⟨by dsimp only; omega, by dsimp only; omega⟩, ⟨by dsimp only; omega, by dsimp only; omega⟩, ⟨by dsimp only; omega, by dsimp only; omega⟩, ⟨by dsimp only; omega, by dsimp only; omega⟩, ⟨by dsimp only; omega, by dsimp only; omega⟩, ⟨by dsimp only; omega, by dsimp only; omega⟩, by dsimp only; omega, by dsimp only; omega⟩, ⟨gg, cap2, rfl, hs.keep g7 (.inr (by simp only [Value.ownBlock, ne_eq, Option.some.injEq]; omega))⟩, by omega, hC.other g7 (fun i hi => by cases hi; omega), grown_then hG g7 (fun i hi => by cases hi; exact .inl (Nat.le_refl _))⟩
  · go_wp2_with fail
    refine (l1Below_any _ _ _ C7).mono ?_
    rintro e u8 ⟨a8, rfl, p8, q8, r8, C8, g8⟩
    have q8 := q8 (by omega)
    have G8 := grown_then G7 g8 (row_some (.inr rfl))
    replace kz := kz.keep g8 (by simp only [ne_eq, Option.some.injEq]; omega)
    have K8 := K7.keep g8 (by simp only [ne_eq, Option.some.injEq]; omega)
    have s8 := g8.size
    have jf := fun i => K8.free i
    have KV := CfZ.put (c := ⟨500000, 1 + a1, 1 + a2, 1 + a3, a4, 1 + a5, 1 + a6⟩) K8 1000000 (1 + a8) 1000 1 100000 512 64
    have g9 := put7 u8 E (.int .i64 1000000) (.int .i64 (1 + a8)) (.int .i64 1000) (.int .i64 1) (.int .i64 100000) (.int .i64 512) (.int .i64 64)
    have CV := C8.other g9 (fun i hi => by cases hi; omega)
    have GV := grown_then G8 g9 (fun i hi => by cases hi; exact .inl s6)
    replace kz := kz.keep g9 (by simp only [ne_eq, Option.some.injEq]; omega)
    have hlt' := KV.lt
    obtain ⟨j0, j1, j2, j3, j4, j5, j6⟩ := CfZ.at (c := ⟨500000, 1 + a1, 1 + a2, 1 + a3, a4, 1 + a5, 1 + a6⟩) K8
    simp only [Nat.zero_add] at j0 j1 j2 j3 j4 j5 j6
    have sV := g9.size
    clear K8 C8 G8 K7 G7 g8 g9 r8
    go_wp2_with fail
    clear jf j0 j1 j2 j3 j4 j5 j6
    obtain ⟨V, hV⟩ : ∃ V, V = (((((((u8.setCell ⟨E, 0, none⟩ (.int .i64 1000000)).setCell ⟨E, 1, none⟩ (.int .i64 (1 + a8))).setCell ⟨E, 2, none⟩ (.int .i64 1000)).setCell ⟨E, 3, none⟩ (.int .i64 1)).setCell ⟨E, 4, none⟩ (.int .i64 100000)).setCell ⟨E, 5, none⟩ (.int .i64 512)).setCell ⟨E, 6, none⟩ (.int .i64 64)) := ⟨_, rfl⟩
    have sE : V.heap.size = u8.heap.size := by rw [hV]; simp
    rw [← hV] at KV CV GV kz hlt' sV ⊢
    rw [← sE]
    replace s8 : u7.heap.size ≤ V.heap.size := by omega
    clear hV sE sV
    have oe := own_empty V (E + 1) (by omega)
    have F9 := Fr.alloc V (.cells #[] 2)
    replace KV := KV.fr F9
    replace kz := kz.fr F9
    replace CV := CV.fr F9
    replace GV := grown_then GV F9 (by simp)
    clear F9
    go_wp2_with fail
    refine (l1Below_any _ _ _ CV).mono ?_
    rintro e u9 ⟨a9, rfl, p9, q9, r9, C9, g9⟩
    have q9 := q9 (by omega)
    have o9 := oe.keep g9 (oe.ne (by omega))
    replace KV := KV.keep g9 (by simp only [ne_eq, Option.some.injEq]; omega)
    replace kz := kz.keep g9 (by simp only [ne_eq, Option.some.injEq]; omega)
    have G9 := grown_then GV g9 (row_some (.inr rfl))
    clear CV oe g9 GV r9
    obtain ⟨q, rfl⟩ := Int.eq_ofNat_of_zero_le p9
    clear p9
    go_wp2_with fail
    go_loopw [5, 6] (fun v i wr => ∃ j : Nat, ∃ xs, i = .int .i64 j ∧ Hid (xs.length + j ≤ 19) ∧ OwnS wr (E + 1) v xs ∧ Cur wr g ∧ w.grownBy wr (some g) ∧ CfZ wr w.heap.size #[.int .i64 0, .int .i64 0, .int .i64 0, .int .i64 0, .int .i64 0, .int .i64 0, .int .i64 0] ∧ CfZ wr E #[.int .i64 1000000, .int .i64 (1 + a8), .int .i64 1000, .int .i64 1, .int .i64 100000, .int .i64 512, .int .i64 64]) (fun _ i _ => (intOf i).toNat)
    case atStart => exact ⟨q, [], rfl, by show 0 + q ≤ 19; omega, o9, C9, G9, kz, KV⟩
    case round =>
      obtain ⟨j, xs, rfl, Hj, ho, hC, hG, hz, hK⟩ := hrel
      have hj := Hj.out
      have hs := hG.size
      have hKl := hK.lt
      clear o9 C9 G9 kz KV q9
      by_cases h0 : 0 < j
      · go_wp2_with fail
        refine (l1Below_any _ _ _ hC).mono ?_
        rintro e w2 ⟨y, rfl, y0, y1, y2, C2, k2⟩
        have y1 := y1 (by omega)
        have ho2 := ho.keep k2 (ho.ne (by omega))
        have hz2 := hz.keep k2 (by simp only [ne_eq, Option.some.injEq]; omega)
        have hK2 := hK.keep k2 (by simp only [ne_eq, Option.some.injEq]; omega)
        have G2 := grown_then hG k2 (row_some (.inr rfl))
        have s2 := k2.size
        have hm := reads_one w2 (y * 1000000 / 4) ⟨by omega, by omega⟩
        clear ho hC hz hK k2 hG
        go_wp2_with (at_builtin; refine appI _ rfl _ _ rfl (E + 1) _ xs [y * 1000000 / 4] rfl (ho2.fr (Fr.alloc _ _)) _ _ _ rfl rfl (by simp) hm (by simp; omega) (by simp; omega) ?_; intro v1 w4 hv1 ha1)
        have hbk := ho2.blk
        go_roundw
        case rel =>
          refine ⟨j - 1, xs ++ [y * 1000000 / 4], by go_num, ?_, hv1, (C2.fr (Fr.alloc _ _)).other ha1 (fun i hi => by have := hbk i hi; omega), grown_then (grown_then G2 (Fr.alloc _ _) (by simp)) ha1 (fun i hi => .inl (by have := hbk i hi; omega)), (hz2.fr (Fr.alloc _ _)).keep ha1 (fun e => by have := hbk _ e; omega), (hK2.fr (Fr.alloc _ _)).keep ha1 (fun e => by have := hbk _ e; omega)⟩
          show (xs ++ [y * 1000000 / 4]).length + (j - 1) ≤ 19
          simp
          omega
        case measure => simp [intOf]; omega
      · obtain ⟨gg, cap2, rfl, hoo⟩ := ho
        have hs := OwnI.lower hoo (show w.heap.size ≤ E + 1 by omega)
        obtain ⟨k0, k1, k2, k3, k4, k5, k6⟩ := CfZ.at (c := ⟨1000000, 1 + a8, 1000, 1, 100000, 512, 64⟩) hK
        obtain ⟨j0, j1, j2, j3, j4, j5, j6⟩ := CfZ.at (c := ⟨0, 0, 0, 0, 0, 0, 0⟩) hz
        simp only [Nat.zero_add] at k0 k1 k2 k3 k4 k5 k6 j0 j1 j2 j3 j4 j5 j6
        have jf := fun i => hz.free i
        have hgg : E + 1 ≤ gg := (hoo.1.lt gg rfl).1
        go_wp2_with fail
        have g7 := put7 wr w.heap.size (.int .i64 1000000) (.int .i64 (1 + a8)) (.int .i64 1000) (.int .i64 1) (.int .i64 100000) (.int .i64 512) (.int .i64 64)
        refine bodyPost_ret (v := .tuple #[.agg #[.int .i64 1000000, .int .i64 (1 + a8), .int .i64 1000, .int .i64 1, .int .i64 100000, .int .i64 512, .int .i64 64], .slice (some ⟨gg, 0, none⟩) xs.length cap2]) (by simp [results, Try.results43, go_sem, j0, j1, j2, j3, j4, j5, j6]) rfl ⟨⟨1000000, 1 + a8, 1000, 1, 100000, 512, 64⟩, _, xs, rfl, ⟨⟨by dsimp only; omega, by dsimp only; omega⟩, ⟨by dsimp only; omega, by dsimp only; omega⟩, ⟨by dsimp only; omega, by dsimp only; omega⟩, ⟨by dsimp only; omega, by dsimp only; omega⟩, ⟨by dsimp only; omega, by dsimp only; omega⟩, ⟨by dsimp only; omega, by dsimp only; omega⟩, by dsimp only; omega, by dsimp only; omega⟩, ⟨gg, cap2, rfl, hs.keep g7 (.inr (by simp only [Value.ownBlock, ne_eq, Option.some.injEq]; omega))⟩, by omega, hC.other g7 (fun i hi => by cases hi; omega), grown_then hG g7 (fun i hi => by cases hi; exact .inl (Nat.le_refl _))⟩
end Go.Proofs.Ytpmloeneffolpaa
