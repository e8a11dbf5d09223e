/-
  The law FnExactBurstStep answers true at every config and burst (no condition), and leaves what it was given as it was.
-/
import Derived.Test.YtcdjblgjcdkdnaaRows
import Derived.Test.YtcdjblgjcdkdnaaArgCf
import Derived.Test.YtcdjblgjcdkdnaaArgBu
import Derived.Test.YtcdjblgjcdkdnaaBrs5
import Derived.Test.YtcdjblgjcdkdnaaRegBox
import Derived.BigQuiet
import Derived.Deep.Cut
import Derived.WalkKit
import Derived.ProofKit
import Derived.OpenShut
import Derived.LaidMore
import Derived.Stop.Joined
import Derived.OpenVars
namespace Go.Proofs.Ytcdjblgjcdkdnaa.fnExactBurstStep
open Go.ChangeShapes Go.WideShapes Go.ChangeAt Go.RowKit
set_option linter.unusedVariables false

def valB (cv bv yv : Value) (t : Bool) (i : Nat) : Value := [cv, cv, bv, bv, .tuple #[yv, .bool t], .tuple #[yv, .bool t], yv, .bool t, undef, undef, .bool t].getD i undef
def sg1 (i : Nat) : Nat := [10, 11, 12, 13, 14, 9, 15, 16, 5, 200, 6].getD i 0
def sg2 (i : Nat) : Nat := [18, 19, 20, 21, 22, 17, 23, 24, 7, 200, 8].getD i 0
def mkB1 (cv bv : Value) (A : Nat) (X : Nat → Value) : Act :=
  { tmps := #[cv, bv, .pointer (some ⟨A, 0, none⟩), .pointer (some ⟨A + 1, 0, none⟩), .bool false, X 5, X 6, undef, undef, X 9, X 10, X 11, X 12, X 13, X 14, X 15, X 16, undef, undef, undef, undef, undef, undef, undef, undef, undef, undef, undef, undef, undef, undef, undef, undef, undef], defers := [] }
def mkB2 (cv bv yv : Value) (t : Bool) (A p : Nat) (X : Nat → Value) : Act :=
  { tmps := #[cv, bv, .pointer (some ⟨A, 0, none⟩), .pointer (some ⟨A + 1, 0, none⟩), .bool false, .pointer (some ⟨p, 0, none⟩), .bool t, X 7, X 8, .tuple #[yv, .bool t], cv, cv, bv, bv, .tuple #[yv, .bool t], yv, .bool t, X 17, X 18, X 19, X 20, X 21, X 22, X 23, X 24, undef, undef, undef, undef, undef, undef, undef, undef, undef], defers := [] }

set_option maxHeartbeats 4000000 in
set_option maxRecDepth 20000 in
theorem walk (c0 : Cf) (b1 : Bu) (w : World) (i0 : CfI c0) (i1 : BuI b1)  :
    Calls Try.prog 6 #[.agg #[.int .i64 c0.r, .int .i64 c0.s, .int .i64 c0.b, .int .i64 c0.m, .int .i64 c0.q, .int .i64 c0.c, .int .i64 c0.w], .agg #[.int .i64 b1.l, .int .i64 b1.s, .int .i64 b1.g]] w fun e w' => e = .returned (.bool true) ∧ Below w.heap.size w w' := by
  have ka := CfAt.new w c0 38
  have fW := Fr.alloc w (.cells #[.int .i64 c0.r, .int .i64 c0.s, .int .i64 c0.b, .int .i64 c0.m, .int .i64 c0.q, .int .i64 c0.c, .int .i64 c0.w] 38)
  have kb := heap_alloc_new (w.alloc (.cells #[.int .i64 c0.r, .int .i64 c0.s, .int .i64 c0.b, .int .i64 c0.m, .int .i64 c0.q, .int .i64 c0.c, .int .i64 c0.w] 38)) (.cells #[.int .i64 b1.l, .int .i64 b1.s, .int .i64 b1.g] 39)
  have fB := Fr.alloc (w.alloc (.cells #[.int .i64 c0.r, .int .i64 c0.s, .int .i64 c0.b, .int .i64 c0.m, .int .i64 c0.q, .int .i64 c0.c, .int .i64 c0.w] 38)) (.cells #[.int .i64 b1.l, .int .i64 b1.s, .int .i64 b1.g] 39)
  have cT := fun u => toConfig_any c0 u
  have cU := fun u => toBurst_any b1 u
  have cS := fun u => buStep_spec c0 b1 u
  have cI := fun u => buStep_impl c0 b1 u
  generalize stB1 c0 b1 = S1 at cS cI
  generalize stB2 c0 b1 = S2 at cS cI
  obtain ⟨r, s, b, m, q, c, k⟩ := c0
  obtain ⟨xl, xs, xg⟩ := b1
  obtain ⟨yl, ys, yg⟩ := S1
  have cE := fun u => eqBurst_same ⟨yl, ys, yg⟩ u
  simp only at cT cU cS cI cE ka kb fW fB ⊢
  have hs : (w.alloc (.cells #[.int .i64 r, .int .i64 s, .int .i64 b, .int .i64 m, .int .i64 q, .int .i64 c, .int .i64 k] 38)).heap.size = w.heap.size + 1 := by simp
  rw [hs] at kb
  replace ka := ka.fr fB
  have F := fW.trans fB
  clear fW fB hs
  go_enter Try.func6, Try.ntmps6
  go_upto_region 1 with fail
  obtain ⟨U, hU⟩ : ∃ U, U = (w.alloc (.cells #[.int .i64 r, .int .i64 s, .int .i64 b, .int .i64 m, .int .i64 q, .int .i64 c, .int .i64 k] 38)).alloc (.cells #[.int .i64 xl, .int .i64 xs, .int .i64 xg] 39) := ⟨_, rfl⟩
  rw [← hU] at ka kb F ⊢
  clear hU
  have HQ : Hid (∀ u, Fr U u → CfAt u w.heap.size 0 ⟨r, s, b, m, q, c, k⟩ ∧ u.cell? ⟨w.heap.size + 1, 0, none⟩ = some (.int .i64 xl) ∧ u.cell? ⟨w.heap.size + 1, 1, none⟩ = some (.int .i64 xs) ∧ u.cell? ⟨w.heap.size + 1, 2, none⟩ = some (.int .i64 xg)) := fun u f => ⟨ka.fr f, f.cell (by rw [cell_of_row _ _ _ _ _ _ kb]; rfl), f.cell (by rw [cell_of_row _ _ _ _ _ _ kb]; rfl), f.cell (by rw [cell_of_row _ _ _ _ _ _ kb]; rfl)⟩
  clear ka kb
  have f1 := Fr.refl U
  go_wp2_with fail
  refine wp_region_box 11 8 9 sg1 (valB (.agg #[.int .i64 r, .int .i64 s, .int .i64 b, .int .i64 m, .int .i64 q, .int .i64 c, .int .i64 k]) (.agg #[.int .i64 xl, .int .i64 xs, .int .i64 xg]) (.agg #[.int .i64 yl, .int .i64 ys, .int .i64 yg]) S2) (mkB1 (.agg #[.int .i64 r, .int .i64 s, .int .i64 b, .int .i64 m, .int .i64 q, .int .i64 c, .int .i64 k]) (.agg #[.int .i64 xl, .int .i64 xs, .int .i64 xg]) w.heap.size) (fun u p t => BuZ u p (if t then #[.int .i64 yl, .int .i64 ys, .int .i64 yg] else #[.int .i64 0, .int .i64 0, .int .i64 0])) (by kernel_rfl) (by kernel_rfl) (by kernel_rfl) (by omega) (by omega) (by omega) (dst_of (by kernel_rfl)) (fun u u' p t h f => h.fr f) rfl (fun o ho => ?_) ?_ ?_ ?_ ?_
  · simp only [List.getElem?_toArray, List.getElem?_cons_succ, List.getElem?_cons_zero, Option.some.injEq] at ho
    subst ho
    exact ⟨⟨8, .data⟩, by simp, rfl, rfl⟩
  · intro i o X u hi h8 h9 ho hF hX
    have FW := f1.trans hF
    obtain ⟨⟨k0, k1, k2, k3, k4, k5, k6⟩, x0, x1, x2⟩ := HQ.out u FW
    simp only [Nat.zero_add] at k0 k1 k2 k3 k4 k5 k6
    have cT := cT u
    have cU := cU u
    have cX := cS u
    clear cI cE
    rcases i with _ | _ | _ | _ | _ | _ | _ | _ | _ | _ | _ | i
    · simp only [List.getElem?_toArray, List.getElem?_cons_zero, Option.some.injEq] at ho
      subst ho
      refine ⟨by simp [Region.wanted], ?_⟩
      simp only [mkB1]
      go_simp
      exact ⟨by simp [upd, sg1, valB], Fr.refl _⟩
    · simp only [List.getElem?_toArray, List.getElem?_cons_succ, List.getElem?_cons_zero, Option.some.injEq] at ho
      subst ho
      refine ⟨by simp [Region.wanted], ?_⟩
      simp only [mkB1]
      have e0 : X 10 = _ := hX ⟨0, .data⟩ (by simp) rfl (by simp) (by simp)
      simp only [valB, List.getD_cons_zero] at e0
      go_simp
      refine cT.mono ?_
      rintro x u' ⟨rfl, f'⟩
      exact ⟨by simp [upd, sg1, valB, e0], f'⟩
    · simp only [List.getElem?_toArray, List.getElem?_cons_succ, List.getElem?_cons_zero, Option.some.injEq] at ho
      subst ho
      refine ⟨by simp [Region.wanted], ?_⟩
      simp only [mkB1]
      go_simp
      exact ⟨by simp [upd, sg1, valB], Fr.refl _⟩
    · simp only [List.getElem?_toArray, List.getElem?_cons_succ, List.getElem?_cons_zero, Option.some.injEq] at ho
      subst ho
      refine ⟨by simp [Region.wanted], ?_⟩
      simp only [mkB1]
      have e2 : X 12 = _ := hX ⟨2, .data⟩ (by simp) rfl (by simp) (by simp)
      simp only [valB, List.getD_cons_zero, List.getD_cons_succ] at e2
      go_simp
      refine cU.mono ?_
      rintro x u' ⟨rfl, f'⟩
      exact ⟨by simp [upd, sg1, valB, e2], f'⟩
    · simp only [List.getElem?_toArray, List.getElem?_cons_succ, List.getElem?_cons_zero, Option.some.injEq] at ho
      subst ho
      refine ⟨by simp [Region.wanted], ?_⟩
      simp only [mkB1]
      have e1 : X 11 = _ := hX ⟨1, .data⟩ (by simp) rfl (by simp) (by simp)
      have e3 : X 13 = _ := hX ⟨3, .data⟩ (by simp) rfl (by simp) (by simp)
      simp only [valB, List.getD_cons_zero, List.getD_cons_succ] at e1 e3
      go_simp
      refine cX.mono ?_
      rintro x u' ⟨rfl, f'⟩
      exact ⟨by simp [upd, sg1, valB, e1, e3], f'⟩
    · simp only [List.getElem?_toArray, List.getElem?_cons_succ, List.getElem?_cons_zero, Option.some.injEq] at ho
      subst ho
      refine ⟨by simp [Region.wanted], ?_⟩
      simp only [mkB1]
      have e4 : X 14 = _ := hX ⟨4, .data⟩ (by simp) rfl (by simp) (by simp)
      simp only [valB, List.getD_cons_zero, List.getD_cons_succ] at e4
      go_simp
      exact ⟨by simp [upd, sg1, valB, e4], Fr.refl _⟩
    · simp only [List.getElem?_toArray, List.getElem?_cons_succ, List.getElem?_cons_zero, Option.some.injEq] at ho
      subst ho
      refine ⟨by simp [Region.wanted], ?_⟩
      simp only [mkB1]
      have e5 : X 9 = _ := hX ⟨5, .data⟩ (by simp) rfl (by simp) (by simp)
      simp only [valB, List.getD_cons_zero, List.getD_cons_succ] at e5
      go_simp
      exact ⟨by simp [upd, sg1, valB, e5], Fr.refl _⟩
    · simp only [List.getElem?_toArray, List.getElem?_cons_succ, List.getElem?_cons_zero, Option.some.injEq] at ho
      subst ho
      refine ⟨by simp [Region.wanted], ?_⟩
      simp only [mkB1]
      have e5 : X 9 = _ := hX ⟨5, .data⟩ (by simp) rfl (by simp) (by simp)
      simp only [valB, List.getD_cons_zero, List.getD_cons_succ] at e5
      go_simp
      exact ⟨by simp [upd, sg1, valB, e5], Fr.refl _⟩
    · exact absurd rfl h8
    · exact absurd rfl h9
    · simp only [List.getElem?_toArray, List.getElem?_cons_succ, List.getElem?_cons_zero, Option.some.injEq] at ho
      subst ho
      refine ⟨by simp [Region.wanted], ?_⟩
      simp only [mkB1]
      have e7 : X 16 = _ := hX ⟨7, .data⟩ (by simp) rfl (by simp) (by simp)
      simp only [valB, List.getD_cons_zero, List.getD_cons_succ] at e7
      go_simp
      exact ⟨by simp [upd, sg1, valB, e7], Fr.refl _⟩
    · omega
  · intro o X u ho hF
    simp only [List.getElem?_toArray, List.getElem?_cons_succ, List.getElem?_cons_zero, Option.some.injEq] at ho
    subst ho
    refine ⟨by simp [Region.wanted], ?_⟩
    have HZ : Hid (BuZ (u.alloc (.cells #[.int .i64 0, .int .i64 0, .int .i64 0] 33)) u.heap.size #[.int .i64 0, .int .i64 0, .int .i64 0]) := heap_alloc_new u _
    simp only [mkB1]
    go_simp
    refine ⟨u.heap.size, ?_, Fr.alloc _ _, Nat.le_refl _, HZ.out⟩
    simp [upd, sg1]
  · intro o X p u ho hF hp z hp2 hX
    simp only [List.getElem?_toArray, List.getElem?_cons_succ, List.getElem?_cons_zero, Option.some.injEq] at ho
    subst ho
    refine ⟨by simp [Region.wanted], ?_⟩
    have e6 : X 15 = _ := hX ⟨6, .data⟩ (by simp) rfl (by simp) (by simp)
    have e8 : X 5 = _ := hp2
    simp only [valB, List.getD_cons_zero, List.getD_cons_succ] at e6
    have z : BuZ u p #[.int .i64 0, .int .i64 0, .int .i64 0] := z
    have n0 := z.free
    have z0 := z.c0
    have z1 := z.c1
    have z2 := z.c2
    have HZ : Hid (BuZ (((u.setCell ⟨p, 0, none⟩ (.int .i64 yl)).setCell ⟨p, 1, none⟩ (.int .i64 ys)).setCell ⟨p, 2, none⟩ (.int .i64 yg)) p #[.int .i64 yl, .int .i64 ys, .int .i64 yg]) := ((z.set0 (.int .i64 yl)).set1 (.int .i64 ys)).set2 (.int .i64 yg)
    simp only [mkB1]
    go_simp
    exact ⟨grown_trans (grown_trans (grown_set u p 0 (.int .i64 yl)) (grown_set _ p 1 (.int .i64 ys))) (grown_set _ p 2 (.int .i64 yg)), HZ.out⟩
  intro X p u F1 hp zS e8 hX
  have h0 : X 10 = _ := hX 0 (by omega) (by omega) (by omega)
  have h1 : X 11 = _ := hX 1 (by omega) (by omega) (by omega)
  have h2 : X 12 = _ := hX 2 (by omega) (by omega) (by omega)
  have h3 : X 13 = _ := hX 3 (by omega) (by omega) (by omega)
  have h4 : X 14 = _ := hX 4 (by omega) (by omega) (by omega)
  have h5 : X 9 = _ := hX 5 (by omega) (by omega) (by omega)
  have h6 : X 15 = _ := hX 6 (by omega) (by omega) (by omega)
  have h7 : X 16 = _ := hX 7 (by omega) (by omega) (by omega)
  have h10 : X 6 = _ := hX 10 (by omega) (by omega) (by omega)
  have h8 : X 5 = _ := e8
  simp only [valB, List.getD_cons_zero, List.getD_cons_succ] at h0 h1 h2 h3 h4 h5 h6 h7 h10
  have zS : BuZ u p #[.int .i64 yl, .int .i64 ys, .int .i64 yg] := zS
  simp only [mkB1, h0, h1, h2, h3, h4, h5, h6, h7, h8, h10]
  clear h0 h1 h2 h3 h4 h5 h6 h7 h8 h10 hX e8 X
  have f2 := F1
  clear hp
  go_wp2_with fail
  refine wp_region_box 11 8 9 sg2 (valB (.agg #[.int .i64 r, .int .i64 s, .int .i64 b, .int .i64 m, .int .i64 q, .int .i64 c, .int .i64 k]) (.agg #[.int .i64 xl, .int .i64 xs, .int .i64 xg]) (.agg #[.int .i64 yl, .int .i64 ys, .int .i64 yg]) S2) (mkB2 (.agg #[.int .i64 r, .int .i64 s, .int .i64 b, .int .i64 m, .int .i64 q, .int .i64 c, .int .i64 k]) (.agg #[.int .i64 xl, .int .i64 xs, .int .i64 xg]) (.agg #[.int .i64 yl, .int .i64 ys, .int .i64 yg]) S2 w.heap.size p) (fun u p t => BuZ u p (if t then #[.int .i64 yl, .int .i64 ys, .int .i64 yg] else #[.int .i64 0, .int .i64 0, .int .i64 0])) (by kernel_rfl) (by kernel_rfl) (by kernel_rfl) (by omega) (by omega) (by omega) (dst_of (by kernel_rfl)) (fun u u' p t h f => h.fr f) rfl (fun o ho => ?_) ?_ ?_ ?_ ?_
  · simp only [List.getElem?_toArray, List.getElem?_cons_succ, List.getElem?_cons_zero, Option.some.injEq] at ho
    subst ho
    exact ⟨⟨8, .data⟩, by simp, rfl, rfl⟩
  · intro i o X u hi h8 h9 ho hF hX
    have FW := f2.trans hF
    obtain ⟨⟨k0, k1, k2, k3, k4, k5, k6⟩, x0, x1, x2⟩ := HQ.out u FW
    simp only [Nat.zero_add] at k0 k1 k2 k3 k4 k5 k6
    have cT := cT u
    have cU := cU u
    have cX := cI u
    clear cS cE
    rcases i with _ | _ | _ | _ | _ | _ | _ | _ | _ | _ | _ | i
    · simp only [List.getElem?_toArray, List.getElem?_cons_zero, Option.some.injEq] at ho
      subst ho
      refine ⟨by simp [Region.wanted], ?_⟩
      simp only [mkB2]
      go_simp
      exact ⟨by simp [upd, sg2, valB], Fr.refl _⟩
    · simp only [List.getElem?_toArray, List.getElem?_cons_succ, List.getElem?_cons_zero, Option.some.injEq] at ho
      subst ho
      refine ⟨by simp [Region.wanted], ?_⟩
      simp only [mkB2]
      have e0 : X 18 = _ := hX ⟨0, .data⟩ (by simp) rfl (by simp) (by simp)
      simp only [valB, List.getD_cons_zero] at e0
      go_simp
      refine cT.mono ?_
      rintro x u' ⟨rfl, f'⟩
      exact ⟨by simp [upd, sg2, valB, e0], f'⟩
    · simp only [List.getElem?_toArray, List.getElem?_cons_succ, List.getElem?_cons_zero, Option.some.injEq] at ho
      subst ho
      refine ⟨by simp [Region.wanted], ?_⟩
      simp only [mkB2]
      go_simp
      exact ⟨by simp [upd, sg2, valB], Fr.refl _⟩
    · simp only [List.getElem?_toArray, List.getElem?_cons_succ, List.getElem?_cons_zero, Option.some.injEq] at ho
      subst ho
      refine ⟨by simp [Region.wanted], ?_⟩
      simp only [mkB2]
      have e2 : X 20 = _ := hX ⟨2, .data⟩ (by simp) rfl (by simp) (by simp)
      simp only [valB, List.getD_cons_zero, List.getD_cons_succ] at e2
      go_simp
      refine cU.mono ?_
      rintro x u' ⟨rfl, f'⟩
      exact ⟨by simp [upd, sg2, valB, e2], f'⟩
    · simp only [List.getElem?_toArray, List.getElem?_cons_succ, List.getElem?_cons_zero, Option.some.injEq] at ho
      subst ho
      refine ⟨by simp [Region.wanted], ?_⟩
      simp only [mkB2]
      have e1 : X 19 = _ := hX ⟨1, .data⟩ (by simp) rfl (by simp) (by simp)
      have e3 : X 21 = _ := hX ⟨3, .data⟩ (by simp) rfl (by simp) (by simp)
      simp only [valB, List.getD_cons_zero, List.getD_cons_succ] at e1 e3
      go_simp
      refine cX.mono ?_
      rintro x u' ⟨rfl, f'⟩
      exact ⟨by simp [upd, sg2, valB, e1, e3], f'⟩
    · simp only [List.getElem?_toArray, List.getElem?_cons_succ, List.getElem?_cons_zero, Option.some.injEq] at ho
      subst ho
      refine ⟨by simp [Region.wanted], ?_⟩
      simp only [mkB2]
      have e4 : X 22 = _ := hX ⟨4, .data⟩ (by simp) rfl (by simp) (by simp)
      simp only [valB, List.getD_cons_zero, List.getD_cons_succ] at e4
      go_simp
      exact ⟨by simp [upd, sg2, valB, e4], Fr.refl _⟩
    · simp only [List.getElem?_toArray, List.getElem?_cons_succ, List.getElem?_cons_zero, Option.some.injEq] at ho
      subst ho
      refine ⟨by simp [Region.wanted], ?_⟩
      simp only [mkB2]
      have e5 : X 17 = _ := hX ⟨5, .data⟩ (by simp) rfl (by simp) (by simp)
      simp only [valB, List.getD_cons_zero, List.getD_cons_succ] at e5
      go_simp
      exact ⟨by simp [upd, sg2, valB, e5], Fr.refl _⟩
    · simp only [List.getElem?_toArray, List.getElem?_cons_succ, List.getElem?_cons_zero, Option.some.injEq] at ho
      subst ho
      refine ⟨by simp [Region.wanted], ?_⟩
      simp only [mkB2]
      have e5 : X 17 = _ := hX ⟨5, .data⟩ (by simp) rfl (by simp) (by simp)
      simp only [valB, List.getD_cons_zero, List.getD_cons_succ] at e5
      go_simp
      exact ⟨by simp [upd, sg2, valB, e5], Fr.refl _⟩
    · exact absurd rfl h8
    · exact absurd rfl h9
    · simp only [List.getElem?_toArray, List.getElem?_cons_succ, List.getElem?_cons_zero, Option.some.injEq] at ho
      subst ho
      refine ⟨by simp [Region.wanted], ?_⟩
      simp only [mkB2]
      have e7 : X 24 = _ := hX ⟨7, .data⟩ (by simp) rfl (by simp) (by simp)
      simp only [valB, List.getD_cons_zero, List.getD_cons_succ] at e7
      go_simp
      exact ⟨by simp [upd, sg2, valB, e7], Fr.refl _⟩
    · omega
  · intro o X u ho hF
    simp only [List.getElem?_toArray, List.getElem?_cons_succ, List.getElem?_cons_zero, Option.some.injEq] at ho
    subst ho
    refine ⟨by simp [Region.wanted], ?_⟩
    have HZ : Hid (BuZ (u.alloc (.cells #[.int .i64 0, .int .i64 0, .int .i64 0] 33)) u.heap.size #[.int .i64 0, .int .i64 0, .int .i64 0]) := heap_alloc_new u _
    simp only [mkB2]
    go_simp
    refine ⟨u.heap.size, ?_, Fr.alloc _ _, Nat.le_refl _, HZ.out⟩
    simp [upd, sg2]
  · intro o X p u ho hF hp z hp2 hX
    simp only [List.getElem?_toArray, List.getElem?_cons_succ, List.getElem?_cons_zero, Option.some.injEq] at ho
    subst ho
    refine ⟨by simp [Region.wanted], ?_⟩
    have e6 : X 23 = _ := hX ⟨6, .data⟩ (by simp) rfl (by simp) (by simp)
    have e8 : X 7 = _ := hp2
    simp only [valB, List.getD_cons_zero, List.getD_cons_succ] at e6
    have z : BuZ u p #[.int .i64 0, .int .i64 0, .int .i64 0] := z
    have n0 := z.free
    have z0 := z.c0
    have z1 := z.c1
    have z2 := z.c2
    have HZ : Hid (BuZ (((u.setCell ⟨p, 0, none⟩ (.int .i64 yl)).setCell ⟨p, 1, none⟩ (.int .i64 ys)).setCell ⟨p, 2, none⟩ (.int .i64 yg)) p #[.int .i64 yl, .int .i64 ys, .int .i64 yg]) := ((z.set0 (.int .i64 yl)).set1 (.int .i64 ys)).set2 (.int .i64 yg)
    simp only [mkB2]
    go_simp
    exact ⟨grown_trans (grown_trans (grown_set u p 0 (.int .i64 yl)) (grown_set _ p 1 (.int .i64 ys))) (grown_set _ p 2 (.int .i64 yg)), HZ.out⟩
  intro X p2 v F2 hp2 zI e8 hX
  have h0 : X 18 = _ := hX 0 (by omega) (by omega) (by omega)
  have h1 : X 19 = _ := hX 1 (by omega) (by omega) (by omega)
  have h2 : X 20 = _ := hX 2 (by omega) (by omega) (by omega)
  have h3 : X 21 = _ := hX 3 (by omega) (by omega) (by omega)
  have h4 : X 22 = _ := hX 4 (by omega) (by omega) (by omega)
  have h5 : X 17 = _ := hX 5 (by omega) (by omega) (by omega)
  have h6 : X 23 = _ := hX 6 (by omega) (by omega) (by omega)
  have h7 : X 24 = _ := hX 7 (by omega) (by omega) (by omega)
  have h10 : X 8 = _ := hX 10 (by omega) (by omega) (by omega)
  have h8 : X 7 = _ := e8
  simp only [valB, List.getD_cons_zero, List.getD_cons_succ] at h0 h1 h2 h3 h4 h5 h6 h7 h10
  have zI : BuZ v p2 #[.int .i64 yl, .int .i64 ys, .int .i64 yg] := zI
  simp only [mkB2, h0, h1, h2, h3, h4, h5, h6, h7, h8, h10]
  clear h0 h1 h2 h3 h4 h5 h6 h7 h8 h10 hX e8 X cS cI cT cU HQ f1 hp2
  have zS2 := zS.fr F2
  have y0 := zS2.c0
  have y1 := zS2.c1
  have y2 := zS2.c2
  have x0 := zI.c0
  have x1 := zI.c1
  have x2 := zI.c2
  cases S2
  · go_wp2_with fail
    refine (cE _).mono ?_
    rintro x v2 ⟨rfl, f5⟩
    go_wp2_with fail
    go_ret
    exact ⟨rfl, (F.trans (f2.trans (F2.trans f5))).below⟩
  · go_wp2_with fail
    refine (cE _).mono ?_
    rintro x v2 ⟨rfl, f5⟩
    go_wp2_with fail
    go_ret
    exact ⟨rfl, (F.trans (f2.trans (F2.trans f5))).below⟩

theorem own : ownKnob Try.prog.godebug = none := by kernel_rfl
theorem laidOut : laidOutB Try.prog = true := by kernel_rfl

set_option maxRecDepth 100000 in
theorem lifted (os : Os) (started : os.Started) (H : Type) (enc : TypeId × Value → H) :
    ReturnsInHanded {} Try.checked os 6 .any (Rows.fnExactBurstStepSpec.pre6 enc Try.prog Try.f6 Rows.fnExactBurstStepRow.domain false) (Rows.fnExactBurstStepSpec.post enc Try.prog Try.f6 false true false false) := by
  refine returnsInHanded_of_change (C := Try.checked) own started (by kernel_rfl) Try.func6
    (ChangeSpec.witness6 (enc := enc) (C := Try.checked) false ⟨#[], #[.agg #[.int .i64 0, .int .i64 0, .int .i64 0, .int .i64 0, .int .i64 0, .int .i64 0, .int .i64 0], .agg #[.int .i64 0, .int .i64 0, .int .i64 0]], []⟩ 8 (by kernel_rfl) (by kernel_rfl) (by kernel_rfl) (by kernel_rfl)) ?_
  intro W base args ds gs before hval0 hW hcnd _
  have hval : ∀ (j : Nat) t v, Try.f6.params[j]? = some t → args[j]? = some v → Value.okWide Try.prog W .any base t v := hval0
  have hW' := hW
  obtain ⟨p, q, hA0, hV, rfl, hfz, hnd⟩ := hW
  have hA : DataW.TrodAll enc Try.prog W 0 (fun _ => true) true Try.f6.params.toList args.toList ds p := hA0
  rw [Try.params6] at hA hval
  obtain ⟨v0, vs0, d0, ds0, p0, q0, hargs, rfl, rfl, h0, r0⟩ := trodAll_cons hA
  obtain ⟨v1, vs1, d1, ds1, p1, q1, rfl, rfl, rfl, h1, r1⟩ := trodAll_cons r0
  obtain ⟨rfl, rfl, rfl⟩ := trodAll_nil r1
  obtain rfl : args = #[v0, v1] := by cases args; simp_all
  have k0 := h0
  have lt0 : ∀ x ∈ p0, x.block < W.heap.size := by obtain ⟨m, hm⟩ := k0; exact DataW.trod_lt m _ _ _ hm
  have k1 := h1
  have lt1 : ∀ x ∈ p1, x.block < W.heap.size := by obtain ⟨m, hm⟩ := k1; exact DataW.trod_lt m _ _ _ hm
  obtain ⟨rfl, rfl⟩ := trodVars_none hV
  obtain ⟨c0, rfl, i0⟩ := cf_of_arg (hval 0 38 v0 rfl rfl) h0
  obtain ⟨b1, rfl, i1⟩ := bu_of_arg (hval 1 39 v1 rfl rfl) h1
  clear hA0 hval0
  refine (walk c0 b1 W i0 i1).mono fun e W' ⟨he, bel⟩ => ?_
  subst he
  exact ⟨_, rfl, _, _, _, [], _, [], hW', trodAll_mk1 (shut_bool Try.underlying4 _), (trodAll_cons_mk (Below.trod laidOut (by kernel_rfl) (of_decide_eq_true (by kernel_rfl)) k0 bel lt0) (trodAll_cons_mk (Below.trod laidOut (by kernel_rfl) (of_decide_eq_true (by kernel_rfl)) k1 bel lt1) trodAll_mk0)), rfl, bel.frame _, fun h => by cases h⟩

theorem over : Rows.fnExactBurstStepRow.holds Try.pinned (OpenSpec.ofChange Rows.fnExactBurstStepSpec) :=
  OpenClaim.holds_of_wide 6 Try.f6 rfl rfl rfl rfl rfl rfl rfl ⟨rfl, rfl, rfl, rfl, rfl⟩ rfl rfl rfl rfl rfl (by kernel_rfl) Try.func6 (by kernel_rfl)
    (of_decide_eq_true (by kernel_rfl)) (by unfold Func.isWrapper; first | (rw [if_pos (by decide +kernel)]; kernel_rfl) | (rw [if_neg (by decide +kernel)]; exact ⟨rfl, rfl⟩))
    (fun os started H enc _ => lifted os started H enc)
end Go.Proofs.Ytcdjblgjcdkdnaa.fnExactBurstStep
namespace Go.Proofs.Ytcdjblgjcdkdnaa
theorem fnExactBurstStep_holds : Rows.FnExactBurstStepSaid := fnExactBurstStep.over
end Go.Proofs.Ytcdjblgjcdkdnaa
