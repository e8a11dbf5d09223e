/-
  The specification puts an Own in its place.
-/
import Derived.Test.YtkfcchapfklpgaaPackAE
import Derived.BigQuiet
import Derived.Test.YtkfcchapfklpgaaPackAD
import Derived.Test.YtkfcchapfklpgaaPackAC
import Derived.Test.YtkfcchapfklpgaaPackAA
import Derived.Test.YtkfcchapfklpgaaPackAB
namespace Go.Proofs.Ytkfcchapfklpgaa
open Go.RowKit
set_option linter.unusedSimpArgs false

theorem own_news {w : World} {b : Nat} {o : Ow} (h : OwZ w b #[.int .i64 o.g, .int .i64 o.f, .int .i64 o.b.l, .int .i64 o.b.s, .int .i64 o.b.g]) : ∀ k, k < LO.sz → w.cell? ⟨b, k, none⟩ = (LO.cs o)[k]? := fun k hk => by
  have hk : k < 5 := hk
  obtain ⟨c0, c1, c2, c3, c4⟩ := h.cs
  rcases k with _ | _ | _ | _ | _ | k
  · exact c0
  · exact c1
  · exact c2
  · exact c3
  · exact c4
  · omega
theorem stP_len {x : Ow} {s : List Ow × Bool} {o : Ow} : (stP x s o).1.length ≤ s.1.length + 2 := by
  unfold stP
  simp only [List.length_append]
  split <;> split <;> simp
theorem take_fold (os : List Ow) (x : Ow) (k : Nat) (h : k < os.length) : (os.take (k + 1)).foldl (stP x) ([], false) = stP x ((os.take k).foldl (stP x) ([], false)) os[k] := by
  rw [List.take_succ_eq_append_getElem h, List.foldl_append]
  rfl

set_option maxRecDepth 20000 in
set_option maxHeartbeats 8000000 in
theorem put_any (ao : Option Addr) (n cap : Nat) (os : List Ow) (x : Ow) (W : World) (hn : os.length = n) (h300 : n ≤ 300) (h : ReadsG LO W ao os) :
    Calls Try.prog 39 #[.slice ao n cap, .agg #[.int .i64 x.g, .int .i64 x.f, .int .i64 x.b.l, .int .i64 x.b.s, .int .i64 x.b.g]] W fun e w' => ∃ g c, e = .returned (.slice (some ⟨g, 0, none⟩) (putL os x).length c) ∧ OwnG LO w' W.heap.size (.slice (some ⟨g, 0, none⟩) (putL os x).length c) (putL os x) ∧ Fr W w' := by
  subst hn
  obtain ⟨xg, xf, ⟨xl, xs, xp⟩⟩ := x
  simp only
  have fB := Fr.alloc W (.cells #[.int .i64 xg, .int .i64 xf, .int .i64 xl, .int .i64 xs, .int .i64 xp] 53)
  have zB : OwZ (W.alloc (.cells #[.int .i64 xg, .int .i64 xf, .int .i64 xl, .int .i64 xs, .int .i64 xp] 53)) W.heap.size #[.int .i64 xg, .int .i64 xf, .int .i64 xl, .int .i64 xs, .int .i64 xp] := heap_alloc_new _ _
  have hs1 : (W.alloc (.cells #[.int .i64 xg, .int .i64 xf, .int .i64 xl, .int .i64 xs, .int .i64 xp] 53)).heap.size = W.heap.size + 1 := by simp
  have fE := Fr.alloc (W.alloc (.cells #[.int .i64 xg, .int .i64 xf, .int .i64 xl, .int .i64 xs, .int .i64 xp] 53)) (.cells #[] 53)
  have zE : KyZ ((W.alloc (.cells #[.int .i64 xg, .int .i64 xf, .int .i64 xl, .int .i64 xs, .int .i64 xp] 53)).alloc (.cells #[] 53)) (W.heap.size + 1) 53 #[] := by
    have := heap_alloc_new (W.alloc (.cells #[.int .i64 xg, .int .i64 xf, .int .i64 xl, .int .i64 xs, .int .i64 xp] 53)) (.cells #[] 53)
    rwa [hs1] at this
  replace zB := zB.fr fE
  have F := fB.trans fE
  clear fB fE hs1
  have hO : OwnG LO ((W.alloc (.cells #[.int .i64 xg, .int .i64 xf, .int .i64 xl, .int .i64 xs, .int .i64 xp] 53)).alloc (.cells #[] 53)) (W.heap.size + 1) (.slice (some ⟨W.heap.size + 1, 0, none⟩) 0 0) [] := ⟨W.heap.size + 1, 0, rfl, ⟨by simp, .inr ⟨W.heap.size + 1, 0, #[], rfl, Nat.le_refl _, zE, Nat.le_refl _, by unfold maxLen; omega, by simp, by simp⟩⟩, by simp⟩
  have HP : Hid (putL os ⟨xg, xf, ⟨xl, xs, xp⟩⟩ = ((os.take os.length).foldl (stP ⟨xg, xf, ⟨xl, xs, xp⟩⟩) ([], false)).1 ++ (if ((os.take os.length).foldl (stP ⟨xg, xf, ⟨xl, xs, xp⟩⟩) ([], false)).2 then [] else [⟨xg, xf, ⟨xl, xs, xp⟩⟩])) := by rw [List.take_length]; rfl
  have HS : Hid (∀ k (hk : k < os.length), (os.take (k + 1)).foldl (stP ⟨xg, xf, ⟨xl, xs, xp⟩⟩) ([], false) = stP ⟨xg, xf, ⟨xl, xs, xp⟩⟩ ((os.take k).foldl (stP ⟨xg, xf, ⟨xl, xs, xp⟩⟩) ([], false)) os[k]) := take_fold os ⟨xg, xf, ⟨xl, xs, xp⟩⟩
  have cA := fun (o : Ow) u => ahead_any o xg xf u
  have HW : Hid (∀ o : Ow, ahB o.g o.f xg xf = true ∨ ahB o.g o.f xg xf = false) := fun o => by cases ahB o.g o.f xg xf <;> simp
  go_enter Try.func39, Try.ntmps39
  go_upto_region 4 with fail
  obtain ⟨U, hU⟩ : ∃ U, U = (W.alloc (.cells #[.int .i64 xg, .int .i64 xf, .int .i64 xl, .int .i64 xs, .int .i64 xp] 53)).alloc (.cells #[] 53) := ⟨_, rfl⟩
  rw [← hU] at zB F hO ⊢
  clear hU zE
  go_loopw [5, 6, 7] (fun v pb i wr => ∃ k : Nat, k ≤ os.length ∧ i = .int .i64 k ∧ (∃ B, pb = .bool B ∧ Hid (B = ((os.take k).foldl (stP ⟨xg, xf, ⟨xl, xs, xp⟩⟩) ([], false)).2)) ∧ OwnG LO wr (W.heap.size + 1) v ((os.take k).foldl (stP ⟨xg, xf, ⟨xl, xs, xp⟩⟩) ([], false)).1 ∧ Hid (((os.take k).foldl (stP ⟨xg, xf, ⟨xl, xs, xp⟩⟩) ([], false)).1.length ≤ 2 * k) ∧ OwZ wr W.heap.size #[.int .i64 xg, .int .i64 xf, .int .i64 xl, .int .i64 xs, .int .i64 xp] ∧ Fr W wr) (fun _ _ i _ => os.length - (intOf i).toNat)
  case atStart => exact ⟨0, Nat.zero_le _, rfl, ⟨false, rfl, rfl⟩, hO, by simp [Hid], zB, F⟩
  case round =>
    obtain ⟨k, hk, rfl, ⟨B, rfl, HB⟩, hO', HL, zB', F'⟩ := hrel
    clear hO zB F
    have hO := hO'
    have zB := zB'
    have F := F'
    clear hO' zB' F'
    by_cases hlt : k < os.length
    · have HK := HS.out k hlt
      obtain ⟨acc, hacc⟩ : ∃ acc, acc = ((os.take k).foldl (stP ⟨xg, xf, ⟨xl, xs, xp⟩⟩) ([], false)).1 := ⟨_, rfl⟩
      have hpair : (os.take k).foldl (stP ⟨xg, xf, ⟨xl, xs, xp⟩⟩) ([], false) = (acc, B) := by rw [hacc, HB.out]
      rw [hpair] at HK
      rw [← hacc] at hO HL
      clear hpair hacc HB
      obtain ⟨eb, off, rfl, d0, d1, d2, d3, d4⟩ := ow_at (h.fr F) k hlt
      obtain ⟨o, ho⟩ : ∃ o, o = os[k] := ⟨_, rfl⟩
      have HX : Hid (o = os[k]) := ho
      rw [← ho] at d0 d1 d2 d3 d4 HK
      clear ho
      have cA := fun u => cA o u
      have hA := HW.out o
      obtain ⟨og, of, ⟨ol, oss, op⟩⟩ := o
      simp only at d0 d1 d2 d3 d4 cA hA
      simp only [stP] at HK
      obtain ⟨A, hAe⟩ : ∃ A, A = ahB og of xg xf := ⟨_, rfl⟩
      rw [← hAe] at HK cA hA
      clear hAe
      have HK : Hid (_ = _) := HK
      obtain ⟨b0, b1, b2, b3, b4⟩ := zB.cs
      have hne := Later.some wr
      have p0 := fun s : Later wr => s.fr.cell d0
      have p1 := fun s : Later wr => s.fr.cell d1
      have p2 := fun s : Later wr => s.fr.cell d2
      have p3 := fun s : Later wr => s.fr.cell d3
      have p4 := fun s : Later wr => s.fr.cell d4
      have q0 := fun s : Later wr => s.fr.cell b0
      have q1 := fun s : Later wr => s.fr.cell b1
      clear d0 d1 d2 d3 d4 b0 b1 b2 b3 b4
      have HL1 : Hid (acc.length ≤ 2 * k) := HL
      cases B
      · go_wp2_with fail
        refine wp_region_grown (by kernel_rfl) (by kernel_rfl) ?_
        repeat (go_big_quiet_step (with_reducible exact Calls.grown_of (cA _)))
        refine wpQuiet_nil ?_
        rintro _ ⟨s, rfl⟩
        have F1 := F.trans s.fr
        have hO1 := hO.fr s.fr
        have zB := zB.fr s.fr
        obtain ⟨w1, hw1⟩ : ∃ w1, w1 = s.u := ⟨_, rfl⟩
        rw [← hw1] at F1 hO1 zB ⊢
        clear hw1 s p0 p1 p2 p3 p4 q0 q1 hne hO F
        rcases hA with rfl | rfl
        · have HA1 := HK.out
          simp only [Bool.not_true, Bool.not_false, Bool.and_false, Bool.or_false, Bool.or_true, Bool.false_eq_true, if_false, Bool.and_true] at HA1
          obtain ⟨acc1, he1⟩ : ∃ acc1, acc1 = acc := ⟨_, rfl⟩
          rw [← he1] at HA1 hO1 HL1
          replace HL1 : Hid (acc1.length ≤ 2 * k + 1) := by have := HL1.out; show acc1.length ≤ 2 * k + 1; omega
          clear he1 HK HL
          obtain ⟨eb', off', e', d0, d1, d2, d3, d4⟩ := ow_at (h.fr F1) k hlt
          simp only [Option.some.injEq, Addr.mk.injEq, and_true] at e'
          obtain ⟨rfl, rfl⟩ := e'
          rw [← HX.out] at d0 d1 d2 d3 d4
          simp only at d0 d1 d2 d3 d4
          obtain ⟨b0, b1, b2, b3, b4⟩ := zB.cs
          by_cases hs : samB ⟨og, of, ⟨ol, oss, op⟩⟩ xg xf = true
          · have hg1 : (og != xg) = false := by have e := (samB_true.1 hs).1; simp only at e; simp [e]
            have hf1 : (of != xf) = false := by have e := (samB_true.1 hs).2; simp only at e; simp [e]
            rw [if_pos hs, List.append_nil] at HA1
            have HA1 : Hid (_ = _) := HA1
            clear hs
            have hne := Later.some w1
            have p0 := fun s : Later w1 => s.fr.cell d0
            have p1 := fun s : Later w1 => s.fr.cell d1
            have p2 := fun s : Later w1 => s.fr.cell d2
            have p3 := fun s : Later w1 => s.fr.cell d3
            have p4 := fun s : Later w1 => s.fr.cell d4
            have q0 := fun s : Later w1 => s.fr.cell b0
            have q1 := fun s : Later w1 => s.fr.cell b1
            clear d0 d1 d2 d3 d4 b0 b1 b2 b3 b4
            go_wp2_with fail
            refine wp_region_grown (by kernel_rfl) (by kernel_rfl) ?_
            repeat (go_big_quiet_step (fail))
            refine wpQuiet_nil ?_
            rintro _ ⟨s, rfl⟩
            have FQ := F1.trans s.fr
            have hOQ := hO1.fr s.fr
            have zB := zB.fr s.fr
            obtain ⟨wq, hwq⟩ : ∃ wq, wq = s.u := ⟨_, rfl⟩
            rw [← hwq] at FQ hOQ zB ⊢
            clear hwq s p0 p1 p2 p3 p4 q0 q1 hne
            go_wp2_with fail
            go_roundw
            case rel => exact ⟨k + 1, by omega, by go_num, ⟨_, rfl, by rw [HA1.out]; rfl⟩, by rw [HA1.out]; exact hOQ, by rw [HA1.out]; have := HL1.out; show acc1.length ≤ _; omega, zB, FQ⟩
            case measure => simp [intOf]; omega
          · rw [if_neg hs] at HA1
            have HA1 : Hid (_ = _) := HA1
            have hd : (og != xg || of != xf) = true := by
              have := mt samB_true.2 hs
              simp only at this
              by_cases e : og = xg
              · by_cases e2 : of = xf
                · exact absurd ⟨e, e2⟩ this
                · simp [e2]
              · simp [e]
            clear hs
            by_cases hg : og = xg
            · have hg1 : (og != xg) = false := by simp [hg]
              have hf1 : (of != xf) = true := by rw [hg1] at hd; simpa using hd
              clear hg hd
              have hne := Later.some w1
              have p0 := fun s : Later w1 => s.fr.cell d0
              have p1 := fun s : Later w1 => s.fr.cell d1
              have p2 := fun s : Later w1 => s.fr.cell d2
              have p3 := fun s : Later w1 => s.fr.cell d3
              have p4 := fun s : Later w1 => s.fr.cell d4
              have q0 := fun s : Later w1 => s.fr.cell b0
              have q1 := fun s : Later w1 => s.fr.cell b1
              clear d0 d1 d2 d3 d4 b0 b1 b2 b3 b4
              go_wp2_with fail
              refine wp_region_grown (by kernel_rfl) (by kernel_rfl) ?_
              repeat (go_big_quiet_step (fail))
              refine wpQuiet_nil ?_
              rintro _ ⟨s, rfl⟩
              have FQ := F1.trans s.fr
              have hOQ := hO1.fr s.fr
              have zB := zB.fr s.fr
              obtain ⟨wq, hwq⟩ : ∃ wq, wq = s.u := ⟨_, rfl⟩
              rw [← hwq] at FQ hOQ zB ⊢
              clear hwq s p0 p1 p2 p3 p4 q0 q1 hne
              obtain ⟨eb', off', e', d0, d1, d2, d3, d4⟩ := ow_at (h.fr FQ) k hlt
              simp only [Option.some.injEq, Addr.mk.injEq, and_true] at e'
              obtain ⟨rfl, rfl⟩ := e'
              rw [← HX.out] at d0 d1 d2 d3 d4
              simp only at d0 d1 d2 d3 d4
              have nz := (heap_alloc_new wq (.cells #[.int .i64 og, .int .i64 of, .int .i64 ol, .int .i64 oss, .int .i64 op] 53) : OwZ (wq.alloc (.cells #[.int .i64 og, .int .i64 of, .int .i64 ol, .int .i64 oss, .int .i64 op] 53)) wq.heap.size #[.int .i64 og, .int .i64 of, .int .i64 ol, .int .i64 oss, .int .i64 op])
              have fz := Fr.alloc wq (.cells #[.int .i64 og, .int .i64 of, .int .i64 ol, .int .i64 oss, .int .i64 op] 53)
              have hO2 := hOQ.fr fz
              have hb2 : W.heap.size + 1 ≤ (wq.alloc (.cells #[.int .i64 og, .int .i64 of, .int .i64 ol, .int .i64 oss, .int .i64 op] 53)).heap.size := by have := fz.size; have := zB.lt; omega
              go_wp2_with (at_builtin; refine appG LO _ rfl _ _ 31 (.agg #[.int .i64 0, .int .i64 0, .int .i64 0, .int .i64 0, .int .i64 0]) 40 rfl Try.underlying31 infoOwn5 rfl (by omega) (W.heap.size + 1) _ acc1 ⟨og, of, ⟨ol, oss, op⟩⟩ rfl hO2 _ _ rfl (own_news (o := ⟨og, of, ⟨ol, oss, op⟩⟩) nz) (by have := HL1.out; omega) hb2 ?_; intro v2 w2 hO3 g3 at1)
              have bk := hO2.blk
              have g1 := grown_trans (fz.wide (row := _)) g3
              have zB := zB.keep g1 (fun e => by have := bk W.heap.size e; omega)
              have F3 := FQ.then g1 (fun j e => by have := bk j e; omega)
              clear g1 g3 fz nz hO2 hb2 bk at1
              clear d0 d1 d2 d3 d4
              go_wp2_with fail
              go_roundw
              case rel => exact ⟨k + 1, by omega, by go_num, ⟨_, rfl, by rw [HA1.out]; rfl⟩, by rw [HA1.out]; exact hO3, by rw [HA1.out]; have := HL1.out; show (acc1 ++ [_]).length ≤ _; simp only [List.length_append, List.length_cons, List.length_nil]; omega, zB, F3⟩
              case measure => simp [intOf]; omega
            · have hg1 : (og != xg) = true := by simp [hg]
              clear hg hd
              have hne := Later.some w1
              have p0 := fun s : Later w1 => s.fr.cell d0
              have p1 := fun s : Later w1 => s.fr.cell d1
              have p2 := fun s : Later w1 => s.fr.cell d2
              have p3 := fun s : Later w1 => s.fr.cell d3
              have p4 := fun s : Later w1 => s.fr.cell d4
              have q0 := fun s : Later w1 => s.fr.cell b0
              have q1 := fun s : Later w1 => s.fr.cell b1
              clear d0 d1 d2 d3 d4 b0 b1 b2 b3 b4
              go_wp2_with fail
              refine wp_region_grown (by kernel_rfl) (by kernel_rfl) ?_
              repeat (go_big_quiet_step (fail))
              refine wpQuiet_nil ?_
              rintro _ ⟨s, rfl⟩
              have FQ := F1.trans s.fr
              have hOQ := hO1.fr s.fr
              have zB := zB.fr s.fr
              obtain ⟨wq, hwq⟩ : ∃ wq, wq = s.u := ⟨_, rfl⟩
              rw [← hwq] at FQ hOQ zB ⊢
              clear hwq s p0 p1 p2 p3 p4 q0 q1 hne
              obtain ⟨eb', off', e', d0, d1, d2, d3, d4⟩ := ow_at (h.fr FQ) k hlt
              simp only [Option.some.injEq, Addr.mk.injEq, and_true] at e'
              obtain ⟨rfl, rfl⟩ := e'
              rw [← HX.out] at d0 d1 d2 d3 d4
              simp only at d0 d1 d2 d3 d4
              have nz := (heap_alloc_new wq (.cells #[.int .i64 og, .int .i64 of, .int .i64 ol, .int .i64 oss, .int .i64 op] 53) : OwZ (wq.alloc (.cells #[.int .i64 og, .int .i64 of, .int .i64 ol, .int .i64 oss, .int .i64 op] 53)) wq.heap.size #[.int .i64 og, .int .i64 of, .int .i64 ol, .int .i64 oss, .int .i64 op])
              have fz := Fr.alloc wq (.cells #[.int .i64 og, .int .i64 of, .int .i64 ol, .int .i64 oss, .int .i64 op] 53)
              have hO2 := hOQ.fr fz
              have hb2 : W.heap.size + 1 ≤ (wq.alloc (.cells #[.int .i64 og, .int .i64 of, .int .i64 ol, .int .i64 oss, .int .i64 op] 53)).heap.size := by have := fz.size; have := zB.lt; omega
              go_wp2_with (at_builtin; refine appG LO _ rfl _ _ 31 (.agg #[.int .i64 0, .int .i64 0, .int .i64 0, .int .i64 0, .int .i64 0]) 40 rfl Try.underlying31 infoOwn5 rfl (by omega) (W.heap.size + 1) _ acc1 ⟨og, of, ⟨ol, oss, op⟩⟩ rfl hO2 _ _ rfl (own_news (o := ⟨og, of, ⟨ol, oss, op⟩⟩) nz) (by have := HL1.out; omega) hb2 ?_; intro v2 w2 hO3 g3 at1)
              have bk := hO2.blk
              have g1 := grown_trans (fz.wide (row := _)) g3
              have zB := zB.keep g1 (fun e => by have := bk W.heap.size e; omega)
              have F3 := FQ.then g1 (fun j e => by have := bk j e; omega)
              clear g1 g3 fz nz hO2 hb2 bk at1
              clear d0 d1 d2 d3 d4
              go_wp2_with fail
              go_roundw
              case rel => exact ⟨k + 1, by omega, by go_num, ⟨_, rfl, by rw [HA1.out]; rfl⟩, by rw [HA1.out]; exact hO3, by rw [HA1.out]; have := HL1.out; show (acc1 ++ [_]).length ≤ _; simp only [List.length_append, List.length_cons, List.length_nil]; omega, zB, F3⟩
              case measure => simp [intOf]; omega
        · have HA1 := HK.out
          simp only [Bool.not_true, Bool.not_false, Bool.and_false, Bool.or_false, Bool.or_true, Bool.false_eq_true, if_false, Bool.and_true, if_true] at HA1
          obtain ⟨b0, b1, b2, b3, b4⟩ := zB.cs
          have nz := (heap_alloc_new w1 (.cells #[.int .i64 xg, .int .i64 xf, .int .i64 xl, .int .i64 xs, .int .i64 xp] 53) : OwZ (w1.alloc (.cells #[.int .i64 xg, .int .i64 xf, .int .i64 xl, .int .i64 xs, .int .i64 xp] 53)) w1.heap.size #[.int .i64 xg, .int .i64 xf, .int .i64 xl, .int .i64 xs, .int .i64 xp])
          have fz := Fr.alloc w1 (.cells #[.int .i64 xg, .int .i64 xf, .int .i64 xl, .int .i64 xs, .int .i64 xp] 53)
          have hO2 := hO1.fr fz
          have hb2 : W.heap.size + 1 ≤ (w1.alloc (.cells #[.int .i64 xg, .int .i64 xf, .int .i64 xl, .int .i64 xs, .int .i64 xp] 53)).heap.size := by have := fz.size; have := zB.lt; omega
          go_upto_region 9 with (at_builtin; refine appG LO _ rfl _ _ 31 (.agg #[.int .i64 0, .int .i64 0, .int .i64 0, .int .i64 0, .int .i64 0]) 40 rfl Try.underlying31 infoOwn5 rfl (by omega) (W.heap.size + 1) _ acc ⟨xg, xf, ⟨xl, xs, xp⟩⟩ rfl hO2 _ _ rfl (own_news (o := ⟨xg, xf, ⟨xl, xs, xp⟩⟩) nz) (by have := HL1.out; omega) hb2 ?_; intro v1 w3 hO4 g4 at1)
          have bk := hO2.blk
          have g1 := grown_trans (fz.wide (row := _)) g4
          have zB := zB.keep g1 (fun e => by have := bk W.heap.size e; omega)
          have F4 := F1.then g1 (fun j e => by have := bk j e; omega)
          clear g1 g4 fz nz hO2 hb2 bk at1
          clear b0 b1 b2 b3 b4
          obtain ⟨acc1, he1⟩ : ∃ acc1, acc1 = acc ++ [⟨xg, xf, ⟨xl, xs, xp⟩⟩] := ⟨_, rfl⟩
          rw [← he1] at HA1 hO4
          replace HL1 : Hid (acc1.length ≤ 2 * k + 1) := by have := HL1.out; show acc1.length ≤ 2 * k + 1; rw [he1]; simp; omega
          clear he1 HK HL hO1 F1
          obtain ⟨eb', off', e', d0, d1, d2, d3, d4⟩ := ow_at (h.fr F4) k hlt
          simp only [Option.some.injEq, Addr.mk.injEq, and_true] at e'
          obtain ⟨rfl, rfl⟩ := e'
          rw [← HX.out] at d0 d1 d2 d3 d4
          simp only at d0 d1 d2 d3 d4
          obtain ⟨b0, b1, b2, b3, b4⟩ := zB.cs
          by_cases hs : samB ⟨og, of, ⟨ol, oss, op⟩⟩ xg xf = true
          · have hg1 : (og != xg) = false := by have e := (samB_true.1 hs).1; simp only at e; simp [e]
            have hf1 : (of != xf) = false := by have e := (samB_true.1 hs).2; simp only at e; simp [e]
            rw [if_pos hs, List.append_nil] at HA1
            have HA1 : Hid (_ = _) := HA1
            clear hs
            have hne := Later.some w3
            have p0 := fun s : Later w3 => s.fr.cell d0
            have p1 := fun s : Later w3 => s.fr.cell d1
            have p2 := fun s : Later w3 => s.fr.cell d2
            have p3 := fun s : Later w3 => s.fr.cell d3
            have p4 := fun s : Later w3 => s.fr.cell d4
            have q0 := fun s : Later w3 => s.fr.cell b0
            have q1 := fun s : Later w3 => s.fr.cell b1
            clear d0 d1 d2 d3 d4 b0 b1 b2 b3 b4
            go_wp2_with fail
            refine wp_region_grown (by kernel_rfl) (by kernel_rfl) ?_
            repeat (go_big_quiet_step (fail))
            refine wpQuiet_nil ?_
            rintro _ ⟨s, rfl⟩
            have FQ := F4.trans s.fr
            have hOQ := hO4.fr s.fr
            have zB := zB.fr s.fr
            obtain ⟨wq, hwq⟩ : ∃ wq, wq = s.u := ⟨_, rfl⟩
            rw [← hwq] at FQ hOQ zB ⊢
            clear hwq s p0 p1 p2 p3 p4 q0 q1 hne
            go_wp2_with fail
            go_roundw
            case rel => exact ⟨k + 1, by omega, by go_num, ⟨_, rfl, by rw [HA1.out]; rfl⟩, by rw [HA1.out]; exact hOQ, by rw [HA1.out]; have := HL1.out; show acc1.length ≤ _; omega, zB, FQ⟩
            case measure => simp [intOf]; omega
          · rw [if_neg hs] at HA1
            have HA1 : Hid (_ = _) := HA1
            have hd : (og != xg || of != xf) = true := by
              have := mt samB_true.2 hs
              simp only at this
              by_cases e : og = xg
              · by_cases e2 : of = xf
                · exact absurd ⟨e, e2⟩ this
                · simp [e2]
              · simp [e]
            clear hs
            by_cases hg : og = xg
            · have hg1 : (og != xg) = false := by simp [hg]
              have hf1 : (of != xf) = true := by rw [hg1] at hd; simpa using hd
              clear hg hd
              have hne := Later.some w3
              have p0 := fun s : Later w3 => s.fr.cell d0
              have p1 := fun s : Later w3 => s.fr.cell d1
              have p2 := fun s : Later w3 => s.fr.cell d2
              have p3 := fun s : Later w3 => s.fr.cell d3
              have p4 := fun s : Later w3 => s.fr.cell d4
              have q0 := fun s : Later w3 => s.fr.cell b0
              have q1 := fun s : Later w3 => s.fr.cell b1
              clear d0 d1 d2 d3 d4 b0 b1 b2 b3 b4
              go_wp2_with fail
              refine wp_region_grown (by kernel_rfl) (by kernel_rfl) ?_
              repeat (go_big_quiet_step (fail))
              refine wpQuiet_nil ?_
              rintro _ ⟨s, rfl⟩
              have FQ := F4.trans s.fr
              have hOQ := hO4.fr s.fr
              have zB := zB.fr s.fr
              obtain ⟨wq, hwq⟩ : ∃ wq, wq = s.u := ⟨_, rfl⟩
              rw [← hwq] at FQ hOQ zB ⊢
              clear hwq s p0 p1 p2 p3 p4 q0 q1 hne
              obtain ⟨eb', off', e', d0, d1, d2, d3, d4⟩ := ow_at (h.fr FQ) k hlt
              simp only [Option.some.injEq, Addr.mk.injEq, and_true] at e'
              obtain ⟨rfl, rfl⟩ := e'
              rw [← HX.out] at d0 d1 d2 d3 d4
              simp only at d0 d1 d2 d3 d4
              have nz := (heap_alloc_new wq (.cells #[.int .i64 og, .int .i64 of, .int .i64 ol, .int .i64 oss, .int .i64 op] 53) : OwZ (wq.alloc (.cells #[.int .i64 og, .int .i64 of, .int .i64 ol, .int .i64 oss, .int .i64 op] 53)) wq.heap.size #[.int .i64 og, .int .i64 of, .int .i64 ol, .int .i64 oss, .int .i64 op])
              have fz := Fr.alloc wq (.cells #[.int .i64 og, .int .i64 of, .int .i64 ol, .int .i64 oss, .int .i64 op] 53)
              have hO2 := hOQ.fr fz
              have hb2 : W.heap.size + 1 ≤ (wq.alloc (.cells #[.int .i64 og, .int .i64 of, .int .i64 ol, .int .i64 oss, .int .i64 op] 53)).heap.size := by have := fz.size; have := zB.lt; omega
              go_wp2_with (at_builtin; refine appG LO _ rfl _ _ 31 (.agg #[.int .i64 0, .int .i64 0, .int .i64 0, .int .i64 0, .int .i64 0]) 40 rfl Try.underlying31 infoOwn5 rfl (by omega) (W.heap.size + 1) _ acc1 ⟨og, of, ⟨ol, oss, op⟩⟩ rfl hO2 _ _ rfl (own_news (o := ⟨og, of, ⟨ol, oss, op⟩⟩) nz) (by have := HL1.out; omega) hb2 ?_; intro v2 w2 hO3 g3 at1)
              have bk := hO2.blk
              have g1 := grown_trans (fz.wide (row := _)) g3
              have zB := zB.keep g1 (fun e => by have := bk W.heap.size e; omega)
              have F3 := FQ.then g1 (fun j e => by have := bk j e; omega)
              clear g1 g3 fz nz hO2 hb2 bk at1
              clear d0 d1 d2 d3 d4
              go_wp2_with fail
              go_roundw
              case rel => exact ⟨k + 1, by omega, by go_num, ⟨_, rfl, by rw [HA1.out]; rfl⟩, by rw [HA1.out]; exact hO3, by rw [HA1.out]; have := HL1.out; show (acc1 ++ [_]).length ≤ _; simp only [List.length_append, List.length_cons, List.length_nil]; omega, zB, F3⟩
              case measure => simp [intOf]; omega
            · have hg1 : (og != xg) = true := by simp [hg]
              clear hg hd
              have hne := Later.some w3
              have p0 := fun s : Later w3 => s.fr.cell d0
              have p1 := fun s : Later w3 => s.fr.cell d1
              have p2 := fun s : Later w3 => s.fr.cell d2
              have p3 := fun s : Later w3 => s.fr.cell d3
              have p4 := fun s : Later w3 => s.fr.cell d4
              have q0 := fun s : Later w3 => s.fr.cell b0
              have q1 := fun s : Later w3 => s.fr.cell b1
              clear d0 d1 d2 d3 d4 b0 b1 b2 b3 b4
              go_wp2_with fail
              refine wp_region_grown (by kernel_rfl) (by kernel_rfl) ?_
              repeat (go_big_quiet_step (fail))
              refine wpQuiet_nil ?_
              rintro _ ⟨s, rfl⟩
              have FQ := F4.trans s.fr
              have hOQ := hO4.fr s.fr
              have zB := zB.fr s.fr
              obtain ⟨wq, hwq⟩ : ∃ wq, wq = s.u := ⟨_, rfl⟩
              rw [← hwq] at FQ hOQ zB ⊢
              clear hwq s p0 p1 p2 p3 p4 q0 q1 hne
              obtain ⟨eb', off', e', d0, d1, d2, d3, d4⟩ := ow_at (h.fr FQ) k hlt
              simp only [Option.some.injEq, Addr.mk.injEq, and_true] at e'
              obtain ⟨rfl, rfl⟩ := e'
              rw [← HX.out] at d0 d1 d2 d3 d4
              simp only at d0 d1 d2 d3 d4
              have nz := (heap_alloc_new wq (.cells #[.int .i64 og, .int .i64 of, .int .i64 ol, .int .i64 oss, .int .i64 op] 53) : OwZ (wq.alloc (.cells #[.int .i64 og, .int .i64 of, .int .i64 ol, .int .i64 oss, .int .i64 op] 53)) wq.heap.size #[.int .i64 og, .int .i64 of, .int .i64 ol, .int .i64 oss, .int .i64 op])
              have fz := Fr.alloc wq (.cells #[.int .i64 og, .int .i64 of, .int .i64 ol, .int .i64 oss, .int .i64 op] 53)
              have hO2 := hOQ.fr fz
              have hb2 : W.heap.size + 1 ≤ (wq.alloc (.cells #[.int .i64 og, .int .i64 of, .int .i64 ol, .int .i64 oss, .int .i64 op] 53)).heap.size := by have := fz.size; have := zB.lt; omega
              go_wp2_with (at_builtin; refine appG LO _ rfl _ _ 31 (.agg #[.int .i64 0, .int .i64 0, .int .i64 0, .int .i64 0, .int .i64 0]) 40 rfl Try.underlying31 infoOwn5 rfl (by omega) (W.heap.size + 1) _ acc1 ⟨og, of, ⟨ol, oss, op⟩⟩ rfl hO2 _ _ rfl (own_news (o := ⟨og, of, ⟨ol, oss, op⟩⟩) nz) (by have := HL1.out; omega) hb2 ?_; intro v2 w2 hO3 g3 at1)
              have bk := hO2.blk
              have g1 := grown_trans (fz.wide (row := _)) g3
              have zB := zB.keep g1 (fun e => by have := bk W.heap.size e; omega)
              have F3 := FQ.then g1 (fun j e => by have := bk j e; omega)
              clear g1 g3 fz nz hO2 hb2 bk at1
              clear d0 d1 d2 d3 d4
              go_wp2_with fail
              go_roundw
              case rel => exact ⟨k + 1, by omega, by go_num, ⟨_, rfl, by rw [HA1.out]; rfl⟩, by rw [HA1.out]; exact hO3, by rw [HA1.out]; have := HL1.out; show (acc1 ++ [_]).length ≤ _; simp only [List.length_append, List.length_cons, List.length_nil]; omega, zB, F3⟩
              case measure => simp [intOf]; omega
      · go_wp2_with fail
        refine wp_region_grown (by kernel_rfl) (by kernel_rfl) ?_
        repeat (go_big_quiet_step (with_reducible exact Calls.grown_of (cA _)))
        refine wpQuiet_nil ?_
        rintro _ ⟨s, rfl⟩
        have F1 := F.trans s.fr
        have hO1 := hO.fr s.fr
        have zB := zB.fr s.fr
        obtain ⟨w1, hw1⟩ : ∃ w1, w1 = s.u := ⟨_, rfl⟩
        rw [← hw1] at F1 hO1 zB ⊢
        clear hw1 s p0 p1 p2 p3 p4 q0 q1 hne hO F hA
        have HA1 := HK.out
        simp only [Bool.not_true, Bool.not_false, Bool.and_false, Bool.or_false, Bool.or_true, Bool.false_eq_true, if_false, Bool.and_true, Bool.true_or, Bool.false_and] at HA1
        obtain ⟨acc1, he1⟩ : ∃ acc1, acc1 = acc := ⟨_, rfl⟩
        rw [← he1] at HA1 hO1 HL1
        replace HL1 : Hid (acc1.length ≤ 2 * k + 1) := by have := HL1.out; show acc1.length ≤ 2 * k + 1; omega
        clear he1 HK HL
        obtain ⟨eb', off', e', d0, d1, d2, d3, d4⟩ := ow_at (h.fr F1) k hlt
        simp only [Option.some.injEq, Addr.mk.injEq, and_true] at e'
        obtain ⟨rfl, rfl⟩ := e'
        rw [← HX.out] at d0 d1 d2 d3 d4
        simp only at d0 d1 d2 d3 d4
        obtain ⟨b0, b1, b2, b3, b4⟩ := zB.cs
        by_cases hs : samB ⟨og, of, ⟨ol, oss, op⟩⟩ xg xf = true
        · have hg1 : (og != xg) = false := by have e := (samB_true.1 hs).1; simp only at e; simp [e]
          have hf1 : (of != xf) = false := by have e := (samB_true.1 hs).2; simp only at e; simp [e]
          rw [if_pos hs, List.append_nil] at HA1
          have HA1 : Hid (_ = _) := HA1
          clear hs
          have hne := Later.some w1
          have p0 := fun s : Later w1 => s.fr.cell d0
          have p1 := fun s : Later w1 => s.fr.cell d1
          have p2 := fun s : Later w1 => s.fr.cell d2
          have p3 := fun s : Later w1 => s.fr.cell d3
          have p4 := fun s : Later w1 => s.fr.cell d4
          have q0 := fun s : Later w1 => s.fr.cell b0
          have q1 := fun s : Later w1 => s.fr.cell b1
          clear d0 d1 d2 d3 d4 b0 b1 b2 b3 b4
          go_wp2_with fail
          refine wp_region_grown (by kernel_rfl) (by kernel_rfl) ?_
          repeat (go_big_quiet_step (fail))
          refine wpQuiet_nil ?_
          rintro _ ⟨s, rfl⟩
          have FQ := F1.trans s.fr
          have hOQ := hO1.fr s.fr
          have zB := zB.fr s.fr
          obtain ⟨wq, hwq⟩ : ∃ wq, wq = s.u := ⟨_, rfl⟩
          rw [← hwq] at FQ hOQ zB ⊢
          clear hwq s p0 p1 p2 p3 p4 q0 q1 hne
          go_wp2_with fail
          go_roundw
          case rel => exact ⟨k + 1, by omega, by go_num, ⟨_, rfl, by rw [HA1.out]; rfl⟩, by rw [HA1.out]; exact hOQ, by rw [HA1.out]; have := HL1.out; show acc1.length ≤ _; omega, zB, FQ⟩
          case measure => simp [intOf]; omega
        · rw [if_neg hs] at HA1
          have HA1 : Hid (_ = _) := HA1
          have hd : (og != xg || of != xf) = true := by
            have := mt samB_true.2 hs
            simp only at this
            by_cases e : og = xg
            · by_cases e2 : of = xf
              · exact absurd ⟨e, e2⟩ this
              · simp [e2]
            · simp [e]
          clear hs
          by_cases hg : og = xg
          · have hg1 : (og != xg) = false := by simp [hg]
            have hf1 : (of != xf) = true := by rw [hg1] at hd; simpa using hd
            clear hg hd
            have hne := Later.some w1
            have p0 := fun s : Later w1 => s.fr.cell d0
            have p1 := fun s : Later w1 => s.fr.cell d1
            have p2 := fun s : Later w1 => s.fr.cell d2
            have p3 := fun s : Later w1 => s.fr.cell d3
            have p4 := fun s : Later w1 => s.fr.cell d4
            have q0 := fun s : Later w1 => s.fr.cell b0
            have q1 := fun s : Later w1 => s.fr.cell b1
            clear d0 d1 d2 d3 d4 b0 b1 b2 b3 b4
            go_wp2_with fail
            refine wp_region_grown (by kernel_rfl) (by kernel_rfl) ?_
            repeat (go_big_quiet_step (fail))
            refine wpQuiet_nil ?_
            rintro _ ⟨s, rfl⟩
            have FQ := F1.trans s.fr
            have hOQ := hO1.fr s.fr
            have zB := zB.fr s.fr
            obtain ⟨wq, hwq⟩ : ∃ wq, wq = s.u := ⟨_, rfl⟩
            rw [← hwq] at FQ hOQ zB ⊢
            clear hwq s p0 p1 p2 p3 p4 q0 q1 hne
            obtain ⟨eb', off', e', d0, d1, d2, d3, d4⟩ := ow_at (h.fr FQ) k hlt
            simp only [Option.some.injEq, Addr.mk.injEq, and_true] at e'
            obtain ⟨rfl, rfl⟩ := e'
            rw [← HX.out] at d0 d1 d2 d3 d4
            simp only at d0 d1 d2 d3 d4
            have nz := (heap_alloc_new wq (.cells #[.int .i64 og, .int .i64 of, .int .i64 ol, .int .i64 oss, .int .i64 op] 53) : OwZ (wq.alloc (.cells #[.int .i64 og, .int .i64 of, .int .i64 ol, .int .i64 oss, .int .i64 op] 53)) wq.heap.size #[.int .i64 og, .int .i64 of, .int .i64 ol, .int .i64 oss, .int .i64 op])
            have fz := Fr.alloc wq (.cells #[.int .i64 og, .int .i64 of, .int .i64 ol, .int .i64 oss, .int .i64 op] 53)
            have hO2 := hOQ.fr fz
            have hb2 : W.heap.size + 1 ≤ (wq.alloc (.cells #[.int .i64 og, .int .i64 of, .int .i64 ol, .int .i64 oss, .int .i64 op] 53)).heap.size := by have := fz.size; have := zB.lt; omega
            go_wp2_with (at_builtin; refine appG LO _ rfl _ _ 31 (.agg #[.int .i64 0, .int .i64 0, .int .i64 0, .int .i64 0, .int .i64 0]) 40 rfl Try.underlying31 infoOwn5 rfl (by omega) (W.heap.size + 1) _ acc1 ⟨og, of, ⟨ol, oss, op⟩⟩ rfl hO2 _ _ rfl (own_news (o := ⟨og, of, ⟨ol, oss, op⟩⟩) nz) (by have := HL1.out; omega) hb2 ?_; intro v2 w2 hO3 g3 at1)
            have bk := hO2.blk
            have g1 := grown_trans (fz.wide (row := _)) g3
            have zB := zB.keep g1 (fun e => by have := bk W.heap.size e; omega)
            have F3 := FQ.then g1 (fun j e => by have := bk j e; omega)
            clear g1 g3 fz nz hO2 hb2 bk at1
            clear d0 d1 d2 d3 d4
            go_wp2_with fail
            go_roundw
            case rel => exact ⟨k + 1, by omega, by go_num, ⟨_, rfl, by rw [HA1.out]; rfl⟩, by rw [HA1.out]; exact hO3, by rw [HA1.out]; have := HL1.out; show (acc1 ++ [_]).length ≤ _; simp only [List.length_append, List.length_cons, List.length_nil]; omega, zB, F3⟩
            case measure => simp [intOf]; omega
          · have hg1 : (og != xg) = true := by simp [hg]
            clear hg hd
            have hne := Later.some w1
            have p0 := fun s : Later w1 => s.fr.cell d0
            have p1 := fun s : Later w1 => s.fr.cell d1
            have p2 := fun s : Later w1 => s.fr.cell d2
            have p3 := fun s : Later w1 => s.fr.cell d3
            have p4 := fun s : Later w1 => s.fr.cell d4
            have q0 := fun s : Later w1 => s.fr.cell b0
            have q1 := fun s : Later w1 => s.fr.cell b1
            clear d0 d1 d2 d3 d4 b0 b1 b2 b3 b4
            go_wp2_with fail
            refine wp_region_grown (by kernel_rfl) (by kernel_rfl) ?_
            repeat (go_big_quiet_step (fail))
            refine wpQuiet_nil ?_
            rintro _ ⟨s, rfl⟩
            have FQ := F1.trans s.fr
            have hOQ := hO1.fr s.fr
            have zB := zB.fr s.fr
            obtain ⟨wq, hwq⟩ : ∃ wq, wq = s.u := ⟨_, rfl⟩
            rw [← hwq] at FQ hOQ zB ⊢
            clear hwq s p0 p1 p2 p3 p4 q0 q1 hne
            obtain ⟨eb', off', e', d0, d1, d2, d3, d4⟩ := ow_at (h.fr FQ) k hlt
            simp only [Option.some.injEq, Addr.mk.injEq, and_true] at e'
            obtain ⟨rfl, rfl⟩ := e'
            rw [← HX.out] at d0 d1 d2 d3 d4
            simp only at d0 d1 d2 d3 d4
            have nz := (heap_alloc_new wq (.cells #[.int .i64 og, .int .i64 of, .int .i64 ol, .int .i64 oss, .int .i64 op] 53) : OwZ (wq.alloc (.cells #[.int .i64 og, .int .i64 of, .int .i64 ol, .int .i64 oss, .int .i64 op] 53)) wq.heap.size #[.int .i64 og, .int .i64 of, .int .i64 ol, .int .i64 oss, .int .i64 op])
            have fz := Fr.alloc wq (.cells #[.int .i64 og, .int .i64 of, .int .i64 ol, .int .i64 oss, .int .i64 op] 53)
            have hO2 := hOQ.fr fz
            have hb2 : W.heap.size + 1 ≤ (wq.alloc (.cells #[.int .i64 og, .int .i64 of, .int .i64 ol, .int .i64 oss, .int .i64 op] 53)).heap.size := by have := fz.size; have := zB.lt; omega
            go_wp2_with (at_builtin; refine appG LO _ rfl _ _ 31 (.agg #[.int .i64 0, .int .i64 0, .int .i64 0, .int .i64 0, .int .i64 0]) 40 rfl Try.underlying31 infoOwn5 rfl (by omega) (W.heap.size + 1) _ acc1 ⟨og, of, ⟨ol, oss, op⟩⟩ rfl hO2 _ _ rfl (own_news (o := ⟨og, of, ⟨ol, oss, op⟩⟩) nz) (by have := HL1.out; omega) hb2 ?_; intro v2 w2 hO3 g3 at1)
            have bk := hO2.blk
            have g1 := grown_trans (fz.wide (row := _)) g3
            have zB := zB.keep g1 (fun e => by have := bk W.heap.size e; omega)
            have F3 := FQ.then g1 (fun j e => by have := bk j e; omega)
            clear g1 g3 fz nz hO2 hb2 bk at1
            clear d0 d1 d2 d3 d4
            go_wp2_with fail
            go_roundw
            case rel => exact ⟨k + 1, by omega, by go_num, ⟨_, rfl, by rw [HA1.out]; rfl⟩, by rw [HA1.out]; exact hO3, by rw [HA1.out]; have := HL1.out; show (acc1 ++ [_]).length ≤ _; simp only [List.length_append, List.length_cons, List.length_nil]; omega, zB, F3⟩
            case measure => simp [intOf]; omega
    · have ek : k = os.length := by omega
      have HPk := HP.out
      rw [← ek] at HPk
      obtain ⟨acc, hacc⟩ : ∃ acc, acc = ((os.take k).foldl (stP ⟨xg, xf, ⟨xl, xs, xp⟩⟩) ([], false)).1 := ⟨_, rfl⟩
      rw [← hacc, ← HB.out] at HPk
      rw [← hacc] at hO HL
      clear hacc HB ek
      have HPk : Hid (_ = _) := HPk
      cases B
      · have HQ := HPk.out
        simp only [Bool.false_eq_true, if_false] at HQ
        have HQ : Hid (_ = _) := HQ
        obtain ⟨b0, b1, b2, b3, b4⟩ := zB.cs
        have nz := (heap_alloc_new wr (.cells #[.int .i64 xg, .int .i64 xf, .int .i64 xl, .int .i64 xs, .int .i64 xp] 53) : OwZ (wr.alloc (.cells #[.int .i64 xg, .int .i64 xf, .int .i64 xl, .int .i64 xs, .int .i64 xp] 53)) wr.heap.size #[.int .i64 xg, .int .i64 xf, .int .i64 xl, .int .i64 xs, .int .i64 xp])
        have fz := Fr.alloc wr (.cells #[.int .i64 xg, .int .i64 xf, .int .i64 xl, .int .i64 xs, .int .i64 xp] 53)
        have hO2 := hO.fr fz
        have hb2 : W.heap.size + 1 ≤ (wr.alloc (.cells #[.int .i64 xg, .int .i64 xf, .int .i64 xl, .int .i64 xs, .int .i64 xp] 53)).heap.size := by have := fz.size; have := zB.lt; omega
        go_wp2_with (at_builtin; refine appG LO _ rfl _ _ 31 (.agg #[.int .i64 0, .int .i64 0, .int .i64 0, .int .i64 0, .int .i64 0]) 40 rfl Try.underlying31 infoOwn5 rfl (by omega) (W.heap.size + 1) _ acc ⟨xg, xf, ⟨xl, xs, xp⟩⟩ rfl hO2 _ _ rfl (own_news (o := ⟨xg, xf, ⟨xl, xs, xp⟩⟩) nz) (by have := HL.out; omega) hb2 ?_; intro v1 w3 hO5 g5 at1)
        have bk := hO2.blk
        have g1 := grown_trans (fz.wide (row := _)) g5
        have zB := zB.keep g1 (fun e => by have := bk W.heap.size e; omega)
        have F5 := F.then g1 (fun j e => by have := bk j e; omega)
        clear g1 g5 fz nz hO2 hb2 bk at1
        go_wp2_with fail
        go_ret
        obtain ⟨g, cc, rfl, r1, r2⟩ := hO5
        rw [← HQ.out] at r1 r2 ⊢
        exact ⟨g, cc, rfl, OwnG.lower ⟨g, cc, rfl, r1, r2⟩ (by omega), F5⟩
      · have HQ := HPk.out
        simp only [if_true, List.append_nil] at HQ
        have HQ : Hid (_ = _) := HQ
        go_wp2_with fail
        go_ret
        obtain ⟨g, cc, rfl, r1, r2⟩ := hO
        rw [← HQ.out] at r1 r2 ⊢
        exact ⟨g, cc, rfl, OwnG.lower ⟨g, cc, rfl, r1, r2⟩ (by omega), F⟩
end Go.Proofs.Ytkfcchapfklpgaa
/-
  The specification's burst of an owner.
-/
namespace Go.Proofs.Ytkfcchapfklpgaa
open Go.RowKit

theorem getO_first {os : List Ow} {g f : Int} {k : Nat} (h : k < os.length) (hb : ∀ j (hj : j < os.length), j < k → samB os[j] g f = false) (hk : samB os[k] g f = true) : getO os g f = some os[k].b := by
  induction os generalizing k with
  | nil => simp at h
  | cons o os ih =>
    cases k with
    | zero => simp only [List.getElem_cons_zero] at hk ⊢; simp [getO, hk]
    | succ k =>
      have h0 := hb 0 (by simp) (by omega)
      simp only [List.getElem_cons_zero] at h0
      simp only [List.getElem_cons_succ] at hk ⊢
      rw [getO, h0]
      simp only [Bool.false_eq_true, if_false]
      exact ih (by simpa using h) (fun j hj hjk => by have := hb (j + 1) (by simpa using hj) (by omega); simpa using this) hk
theorem getO_never {os : List Ow} {g f : Int} (hb : ∀ j (hj : j < os.length), samB os[j] g f = false) : getO os g f = none := by
  rw [getO_none]
  intro o ho
  obtain ⟨j, hj, rfl⟩ := List.mem_iff_getElem.1 ho
  exact samB_false.1 (hb j hj)

set_option maxRecDepth 20000 in
set_option maxHeartbeats 4000000 in
theorem of_any (c : Cf) (ao : Option Addr) (n cap : Nat) (os : List Ow) (p v g f : Int) (W : World) (hn : os.length = n) (h : ReadsG LO W ao os) :
    Calls Try.prog 38 #[.agg #[.int .i64 c.r, .int .i64 c.s, .int .i64 c.b, .int .i64 c.m, .int .i64 c.q, .int .i64 c.c, .int .i64 c.w], .agg #[.slice ao n cap, .int .i64 p, .int .i64 v], .int .i64 g, .int .i64 f] W fun e w' => e = .returned (.agg #[.int .i64 (ofO c os g f).l, .int .i64 (ofO c os g f).s, .int .i64 (ofO c os g f).g]) ∧ Fr W w' := by
  subst hn
  have hl := h.len
  have cN := fun u => nwB_spec c u
  have f1 := Fr.alloc W (.cells #[.int .i64 c.r, .int .i64 c.s, .int .i64 c.b, .int .i64 c.m, .int .i64 c.q, .int .i64 c.c, .int .i64 c.w] 29)
  have aC := CfAt.new W c 29
  have f2 := Fr.alloc (W.alloc (.cells #[.int .i64 c.r, .int .i64 c.s, .int .i64 c.b, .int .i64 c.m, .int .i64 c.q, .int .i64 c.c, .int .i64 c.w] 29)) (.cells #[.slice ao os.length cap, .int .i64 p, .int .i64 v] 33)
  have zS : KyZ ((W.alloc (.cells #[.int .i64 c.r, .int .i64 c.s, .int .i64 c.b, .int .i64 c.m, .int .i64 c.q, .int .i64 c.c, .int .i64 c.w] 29)).alloc (.cells #[.slice ao os.length cap, .int .i64 p, .int .i64 v] 33)) (W.alloc (.cells #[.int .i64 c.r, .int .i64 c.s, .int .i64 c.b, .int .i64 c.m, .int .i64 c.q, .int .i64 c.c, .int .i64 c.w] 29)).heap.size 33 #[.slice ao os.length cap, .int .i64 p, .int .i64 v] := heap_alloc_new _ _
  have f3 := Fr.alloc ((W.alloc (.cells #[.int .i64 c.r, .int .i64 c.s, .int .i64 c.b, .int .i64 c.m, .int .i64 c.q, .int .i64 c.c, .int .i64 c.w] 29)).alloc (.cells #[.slice ao os.length cap, .int .i64 p, .int .i64 v] 33)) (.cells #[.int .i64 0, .int .i64 0, .int .i64 0] 51)
  have zR : KyZ (((W.alloc (.cells #[.int .i64 c.r, .int .i64 c.s, .int .i64 c.b, .int .i64 c.m, .int .i64 c.q, .int .i64 c.c, .int .i64 c.w] 29)).alloc (.cells #[.slice ao os.length cap, .int .i64 p, .int .i64 v] 33)).alloc (.cells #[.int .i64 0, .int .i64 0, .int .i64 0] 51)) ((W.alloc (.cells #[.int .i64 c.r, .int .i64 c.s, .int .i64 c.b, .int .i64 c.m, .int .i64 c.q, .int .i64 c.c, .int .i64 c.w] 29)).alloc (.cells #[.slice ao os.length cap, .int .i64 p, .int .i64 v] 33)).heap.size 51 #[.int .i64 0, .int .i64 0, .int .i64 0] := heap_alloc_new _ _
  simp only [World.size_alloc] at zS zR
  replace aC := (aC.fr f2).fr f3
  replace zS := zS.fr f3
  replace f1 := (f1.trans f2).trans f3
  clear f2 f3
  have hR := h.fr f1
  obtain ⟨Z, hZ⟩ : ∃ Z, Z = W.heap.size := ⟨_, rfl⟩
  have HO : Hid (∀ k (hk : k < os.length), (∀ j (hj : j < os.length), j < k → samB os[j] g f = false) → samB os[k] g f = true → ofO c os g f = os[k].b) := fun k hk hb h1 => by unfold ofO; rw [getO_first hk hb h1]; rfl
  have HN : Hid ((∀ j (hj : j < os.length), samB os[j] g f = false) → ofO c os g f = nwB c) := fun hb => by unfold ofO; rw [getO_never hb]; rfl
  obtain ⟨B, hB⟩ : ∃ B, B = ofO c os g f := ⟨_, rfl⟩
  rw [← hB] at HO HN ⊢
  clear hB h
  generalize nwB c = N at cN HN
  obtain ⟨r, s, b, m, q, cc, cw⟩ := c
  simp only at cN aC f1 zS zR hR ⊢
  go_enter Try.func38, Try.ntmps38
  go_upto_region 1 with fail
  obtain ⟨V, hV⟩ : ∃ V, V = ((W.alloc (.cells #[.int .i64 r, .int .i64 s, .int .i64 b, .int .i64 m, .int .i64 q, .int .i64 cc, .int .i64 cw] 29)).alloc (.cells #[.slice ao os.length cap, .int .i64 p, .int .i64 v] 33)).alloc (.cells #[.int .i64 0, .int .i64 0, .int .i64 0] 51) := ⟨_, rfl⟩
  rw [← hV] at aC f1 zS zR hR ⊢
  have HZ : Hid (Z = W.heap.size) := hZ
  rw [← hZ] at aC zS zR ⊢
  clear hV hZ
  obtain ⟨ak0, ak1, ak2, ak3, ak4, ak5, ak6⟩ := aC
  simp only [Nat.zero_add] at ak0 ak1 ak2 ak3 ak4 ak5 ak6
  obtain ⟨z0, z1, z2⟩ := zS.c3
  obtain ⟨r0, r1, r2⟩ := zR.c3
  have rf := fun i => zR.free i
  go_upto_region 2 with fail
  go_loop [9] (fun i => ∃ k : Nat, k ≤ os.length ∧ i = .int .i64 k ∧ Hid (∀ j (hj : j < os.length), j < k → samB os[j] g f = false)) (fun i => os.length - (intOf i).toNat)
  case atStart => exact ⟨0, Nat.zero_le _, rfl, fun j _ hj => by omega⟩
  case round =>
    obtain ⟨k, hk, rfl, HA⟩ := hrel
    by_cases hlt : k < os.length
    · obtain ⟨eb, off, rfl, d0, d1, d2, d3, d4⟩ := ow_at hR k hlt
      have HX : Hid (samB os[k] g f = true → B = os[k].b) := HO.out k hlt HA.out
      have HY : Hid (samB os[k] g f = false → ∀ j (hj : j < os.length), j < k + 1 → samB os[j] g f = false) := fun h0 j hj hjk => by
        by_cases e : j = k
        · subst e; exact h0
        · exact HA.out j hj (by omega)
      obtain ⟨x, hx⟩ : ∃ x, x = os[k] := ⟨_, rfl⟩
      rw [← hx] at d0 d1 d2 d3 d4 HX HY
      clear hx HA
      obtain ⟨xg, xf, xl, xs, xp⟩ := x
      simp only at d0 d1 d2 d3 d4 HX
      by_cases h1 : xg = g
      · by_cases h2 : xf = f
        · have HE : Hid (B = ⟨xl, xs, xp⟩) := HX.out (samB_true.2 ⟨h1, h2⟩)
          have e1 : (xg == g) = true := beq_iff_eq.2 h1
          have e2 : (xf == f) = true := beq_iff_eq.2 h2
          clear h1 h2 HX HY
          have zQ := ((zR.put0 (.int .i64 xl)).put1 (.int .i64 xs)).put2 (.int .i64 xp)
          have g2 := grown_trans (grown_trans (grown_set V (Z + 1 + 1) 0 (.int .i64 xl)) (grown_set _ (Z + 1 + 1) 1 (.int .i64 xs))) (grown_set _ (Z + 1 + 1) 2 (.int .i64 xp))
          obtain ⟨q0, q1, q2⟩ := zQ.c3
          clear zQ zR zS
          go_wp2_with fail
          refine bodyPost_ret (v := .agg #[.int .i64 xl, .int .i64 xs, .int .i64 xp]) (by simp [results, Try.results38, go_sem, q0, q1, q2]) rfl ⟨by rw [HE.out], f1.then g2 (fun j e => by cases e; have := HZ.out; omega)⟩
        · have HE := HY.out (samB_false.2 fun e => h2 e.2)
          have e1 : (xg == g) = true := beq_iff_eq.2 h1
          have e2 : (xf == f) = false := beq_eq_false_iff_ne.2 h2
          have HE : Hid (∀ j (hj : j < os.length), j < k + 1 → samB os[j] g f = false) := HE
          clear h1 h2 HX HY
          go_wp2_with fail
          go_round
          case rel => exact ⟨k + 1, by omega, by go_num, HE⟩
          case measure => simp [intOf]; omega
      · have HE := HY.out (samB_false.2 fun e => h1 e.1)
        have e1 : (xg == g) = false := beq_eq_false_iff_ne.2 h1
        have HE : Hid (∀ j (hj : j < os.length), j < k + 1 → samB os[j] g f = false) := HE
        clear h1 HX HY
        go_wp2_with fail
        go_round
        case rel => exact ⟨k + 1, by omega, by go_num, HE⟩
        case measure => simp [intOf]; omega
    · have HE : Hid (B = N) := HN.out fun j hj => HA.out j hj (by omega)
      clear HO HN HA
      obtain ⟨nl, ns, ng⟩ := N
      simp only at cN
      go_wp2_with fail
      refine (cN _).mono ?_
      rintro e u1 ⟨rfl, k1⟩
      have zR := zR.fr k1
      have f1 := f1.trans k1
      clear r0 r1 r2 rf k1 zS
      obtain ⟨r0, r1, r2⟩ := zR.c3
      have rf := fun i => zR.free i
      have zQ := ((zR.put0 (.int .i64 nl)).put1 (.int .i64 ns)).put2 (.int .i64 ng)
      have g2 := grown_trans (grown_trans (grown_set u1 (Z + 1 + 1) 0 (.int .i64 nl)) (grown_set _ (Z + 1 + 1) 1 (.int .i64 ns))) (grown_set _ (Z + 1 + 1) 2 (.int .i64 ng))
      obtain ⟨q0, q1, q2⟩ := zQ.c3
      clear zQ zR
      go_wp2_with fail
      refine bodyPost_ret (v := .agg #[.int .i64 nl, .int .i64 ns, .int .i64 ng]) (by simp [results, Try.results38, go_sem, q0, q1, q2]) rfl ⟨by rw [HE.out], f1.then g2 (fun j e => by cases e; have := HZ.out; omega)⟩
end Go.Proofs.Ytkfcchapfklpgaa
/-
  Periods: how many are opened: the program's OpenedIn.
-/
namespace Go.Proofs.Ytkfcchapfklpgaa
open Go.RowKit

theorem opV_no {c : Cf} {xs : List Int} {n : Int} (h : stB c xs = false ∨ inB 0 300 n = false) : opV c xs n = -1 := by
  unfold opV
  rw [if_neg]
  rcases h with h | h <;> simp [h]
theorem opV_yes {c : Cf} {xs : List Int} {n : Int} (h : stB c xs = true) (k : inB 0 300 n = true) : opV c xs n = opN c xs n.toNat := by
  unfold opV
  rw [if_pos (by simp [h, k])]

end Go.Proofs.Ytkfcchapfklpgaa
/-
  Periods: the specification's functions.
-/
namespace Go.Proofs.Ytkfcchapfklpgaa
open Go.RowKit

set_option maxHeartbeats 1000000 in
theorem dwOk_spec (ao : Option Addr) (n cap : Nat) (xs : List Int) (w : World) (hn : xs.length = n) (h : Reads w ao xs) :
    Calls Try.prog 34 #[.slice ao n cap] w fun e w' => e = .returned (.bool (dwB xs)) ∧ w' = w := by
  subst hn
  have hl := h.len
  go_enter Try.func34, Try.ntmps34
  go_wp2
  go_loop [3] (fun i => ∃ k : Nat, k ≤ xs.length ∧ i = .int .i64 k ∧ Hid (∀ j, j < k → inB 0 999999 (xs.getD j 0) = true)) (fun i => xs.length - (intOf i).toNat)
  case atStart => exact ⟨0, Nat.zero_le _, rfl, fun j hj => by omega⟩
  case round =>
    obtain ⟨k, hk, rfl, HA⟩ := hrel
    by_cases hlt : k < xs.length
    · obtain ⟨b, off, rfl, hc⟩ := h.at_ k hlt
      have hck := hc k hlt
      rw [getD_at hlt] at hck
      clear hc
      cases hin : inB 0 999999 xs[k]
      · go_wp2_with (go_at_call 23; refine (l1In_any _ _ _ _).mono ?_; rintro e w' ⟨rfl, rfl⟩)
        go_ret
        exact ⟨ret_bool (dwB_bad hlt hin).symm, rfl⟩
      · go_wp2_with (go_at_call 23; refine (l1In_any _ _ _ _).mono ?_; rintro e w' ⟨rfl, rfl⟩)
        go_round
        case rel =>
          refine ⟨k + 1, by omega, by go_num, fun j hj => ?_⟩
          by_cases e : j = k
          · subst e; rw [getD_at hlt]; exact hin
          · exact HA.out j (by omega)
        case measure => simp [intOf]; omega
    · have e : dwB xs = decide ((xs.length : Int) ≤ 300) := by
        by_cases h3 : xs.length ≤ 300
        · rw [dwB_mk h3 fun j hj => HA.out j (by omega)]; exact (decide_eq_true (by omega)).symm
        · rw [dwB_long (by omega)]; exact (decide_eq_false (by omega)).symm
      have HE : Hid (dwB xs = decide ((xs.length : Int) ≤ 300)) := e
      clear e
      go_wp2
      go_ret
      exact ⟨ret_bool HE.out.symm, rfl⟩

set_option maxRecDepth 20000 in
set_option maxHeartbeats 2000000 in
theorem onAt_spec (c : Cf) (ao : Option Addr) (N cap : Nat) (xs : List Int) (n : Int) (W : World) (hn : xs.length = N) (h : Reads W ao xs) (hI : n ≤ 9223372036854775807) :
    Calls Try.prog 36 #[.agg #[.int .i64 c.r, .int .i64 c.s, .int .i64 c.b, .int .i64 c.m, .int .i64 c.q, .int .i64 c.c, .int .i64 c.w], .slice ao N cap, .int .i64 n] W fun e w' => e = .returned (.bool (onAtB c xs n)) ∧ Fr W w' := by
  subst hn
  have cA := fun u => cfOk_spec c u
  have cD := fun u (k : Fr W u) => dwOk_spec ao xs.length cap xs u rfl (h.fr k)
  have kb := CfAt.new W c 29
  have f := Fr.alloc W (.cells #[.int .i64 c.r, .int .i64 c.s, .int .i64 c.b, .int .i64 c.m, .int .i64 c.q, .int .i64 c.c, .int .i64 c.w] 29)
  have hno := fun hq => onAtB_no (c := c) (xs := xs) (n := n) hq
  have hyes := fun h0 hq => onAtB_yes (c := c) (xs := xs) (n := n) h0 hq
  have hcf := cfB_in (c := c)
  have hdw := dwB_len (xs := xs)
  unfold onB at hyes
  unfold stB at hno hyes
  obtain ⟨r, s, b, m, q, c, w⟩ := c
  generalize onAtB ⟨r, s, b, m, q, c, w⟩ xs n = G at hno hyes ⊢
  generalize cfB ⟨r, s, b, m, q, c, w⟩ = A at cA hno hyes hcf
  generalize dwB xs = D at cD hno hyes hdw
  simp only at cA cD f kb hyes hcf ⊢
  cases A
  · have e : G = false := hno (.inr rfl)
    subst e
    clear hno hyes cD hcf hdw
    go_enter Try.func36, Try.ntmps36
    go_wp2_with fail
    refine (cA _).mono ?_
    rintro e u1 ⟨rfl, f1⟩
    go_wp2_with fail
    go_ret
    exact ⟨rfl, f.trans f1⟩
  cases D
  · have e : G = false := hno (.inr rfl)
    subst e
    clear hno hyes hcf hdw
    go_enter Try.func36, Try.ntmps36
    go_wp2_with fail
    refine (cA _).mono ?_
    rintro e u1 ⟨rfl, f1⟩
    go_wp2_with fail
    refine (cD _ (f.trans f1)).mono ?_
    rintro e u2 ⟨rfl, rfl⟩
    go_wp2_with fail
    go_ret
    exact ⟨rfl, f.trans f1⟩
  by_cases h0 : n < 0
  · have e : G = false := hno (.inl h0)
    subst e
    clear hno hyes hcf hdw
    go_enter Try.func36, Try.ntmps36
    go_wp2_with fail
    refine (cA _).mono ?_
    rintro e u1 ⟨rfl, f1⟩
    go_wp2_with fail
    refine (cD _ (f.trans f1)).mono ?_
    rintro e u2 ⟨rfl, rfl⟩
    go_wp2_with fail
    go_ret
    exact ⟨rfl, f.trans f1⟩
  have h0' : 0 ≤ n := by omega
  have hs := (hcf rfl).2.1.1
  have hl := hdw rfl
  have e := hyes h0' rfl
  clear hno hyes hcf hdw h0
  subst e
  have hq0 : 0 ≤ n / s := Int.ediv_nonneg h0' (by omega)
  have hle := Int.ediv_le_self s h0'
  have HQ : Hid (∀ u, Fr (W.alloc (.cells #[.int .i64 r, .int .i64 s, .int .i64 b, .int .i64 m, .int .i64 q, .int .i64 c, .int .i64 w] 29)) u → CfAt u W.heap.size 0 ⟨r, s, b, m, q, c, w⟩) := fun u k => kb.fr k
  clear kb
  by_cases hp : n / s < (xs.length : Int)
  · obtain ⟨p, hpe⟩ : ∃ p : Nat, n / s = (p : Int) := ⟨(n / s).toNat, by omega⟩
    have hlt : p < xs.length := by omega
    rw [hpe, Int.toNat_natCast]
    obtain ⟨z, hz⟩ : ∃ z, z = xs.getD p 0 := ⟨_, rfl⟩
    obtain ⟨bb, off, rfl, hc⟩ := h.at_ p hlt
    have hck := hc p hlt
    rw [← hz] at hck ⊢
    have hd : decide ((p : Int) < (xs.length : Int)) = true := decide_eq_true (by omega)
    rw [hd, Bool.true_and]
    clear hz hc hd h
    go_enter Try.func36, Try.ntmps36
    go_wp2_with fail
    refine (cA _).mono ?_
    rintro e u1 ⟨rfl, f1⟩
    obtain ⟨k0, k1, k2, k3, k4, k5, k6⟩ := HQ.out _ f1
    simp only [Nat.zero_add] at k0 k1 k2 k3 k4 k5 k6
    replace f1 := f.trans f1
    go_wp2_with fail
    refine (cD _ f1).mono ?_
    rintro e u2 ⟨rfl, rfl⟩
    have hck := f1.cell hck
    go_wp2_with fail
    rw [hpe]
    have hd : decide ((p : Int) < (xs.length : Int)) = true := decide_eq_true (by omega)
    go_quiet (fail)
    go_wp2
    go_ret
    exact ⟨rfl, f1.trans (Fr.drewN _ _)⟩
  · have hd : decide (n / s < (xs.length : Int)) = false := decide_eq_false hp
    rw [hd, Bool.false_and]
    clear h
    go_enter Try.func36, Try.ntmps36
    go_wp2_with fail
    refine (cA _).mono ?_
    rintro e u1 ⟨rfl, f1⟩
    obtain ⟨k0, k1, k2, k3, k4, k5, k6⟩ := HQ.out _ f1
    simp only [Nat.zero_add] at k0 k1 k2 k3 k4 k5 k6
    replace f1 := f.trans f1
    go_wp2_with fail
    refine (cD _ f1).mono ?_
    rintro e u2 ⟨rfl, rfl⟩
    go_wp2_with fail
    go_quiet (fail)
    go_wp2
    go_ret
    exact ⟨rfl, f1.trans (Fr.drewN _ _)⟩

end Go.Proofs.Ytkfcchapfklpgaa
