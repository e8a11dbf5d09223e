/-
  The law FnExactLook answers true at every config, list of draws, sampler and three numbers (no condition), and leaves what it was given as it was.
-/
import Derived.Test.YtkfcchapfklpgaaRows
import Derived.Test.YtkfcchapfklpgaaPackAA
import Derived.Test.YtkfcchapfklpgaaPackAC
import Derived.Test.YtkfcchapfklpgaaPackAM
import Derived.Test.YtkfcchapfklpgaaPackAN
import Derived.BigQuiet
import Derived.Deep.Cut
import Derived.WalkKit
import Derived.ProofKit
import Derived.OpenShut
import Derived.LaidMore
import Derived.Stop.Joined
import Derived.OpenVars
namespace Go.Proofs.Ytkfcchapfklpgaa.fnExactLook
open Go.ChangeShapes Go.WideShapes Go.ChangeAt Go.RowKit
set_option linter.unusedVariables false

def IsRow (k : IntKind) (w : World) (a : Option Addr) (len cap : Nat) (zs : List Int) : Prop :=
  (a = none ∧ len = 0 ∧ cap = 0 ∧ zs = []) ∨
  ∃ x, a = some x ∧ len ≤ cap ∧ cap ≤ maxLen ∧ zs.length = cap ∧ (∀ i, i < zs.length → w.cell? (x.add i) = some (.int k (zs.getD i 0))) ∧ ∀ n ∈ zs, (Lit.int k n).wf = true

theorem ownG_readsO {w : World} {base g cap : Nat} {xs : List Ow} (h : OwnG LO w base (.slice (some ⟨g, 0, none⟩) xs.length cap) xs) : ReadsG LO w (some ⟨g, 0, none⟩) xs := by
  obtain ⟨g', cap', e, ho, hl⟩ := h
  cases e
  exact own_readsG ho hl
theorem AnsO.lower {w : World} {base base' : Nat} {ga : Option Addr} {n c : Nat} {os : List Ow} (h : AnsO w base ga n c os) (hb : base' ≤ base) : AnsO w base' ga n c os :=
  ⟨h.len, h.own.imp id fun ⟨g, e, ho⟩ => ⟨g, e, ho.lower hb⟩⟩
/-- What each kind of value is. -/
def RKL (cv x1v sv : Value) (n g f : Int) (xs : List Int) (os OS : List Ow) (sp su PA UA : Int) (BA : Bool) (lo : Nat) (kd : Nat → Nat) (i : Nat) (v : Value) (u : World) : Prop :=
  match kd i with
  | 0 => v = cv
  | 1 => v = x1v
  | 2 => ∃ gx kx, v = .slice (some ⟨gx, 0, none⟩) xs.length kx ∧ Reads u (some ⟨gx, 0, none⟩) xs
  | 3 => v = sv
  | 4 => ∃ gy ky, v = .agg #[.slice (some ⟨gy, 0, none⟩) os.length ky, .int .i64 sp, .int .i64 su] ∧ ReadsG LO u (some ⟨gy, 0, none⟩) os
  | 5 => v = .int .i64 n
  | 6 => v = .int .i64 g
  | 7 => v = .int .i64 f
  | 8 => ∃ ga ca, v = .tuple #[.agg #[.slice ga OS.length ca, .int .i64 PA, .int .i64 UA], .bool BA] ∧ AnsO u lo ga OS.length ca OS
  | 9 => ∃ ga ca, v = .agg #[.slice ga OS.length ca, .int .i64 PA, .int .i64 UA] ∧ AnsO u lo ga OS.length ca OS
  | 10 => v = .bool BA
  | _ => True
def PKL (BA : Bool) (kd : Nat → Nat) (i : Nat) (v : Value) : Prop :=
  match kd i with
  | 8 => ∃ a, v = .tuple #[a, .bool BA]
  | 10 => v = .bool BA
  | _ => True
theorem RKL_fr {cv x1v sv : Value} {n g f : Int} {xs : List Int} {os OS : List Ow} {sp su PA UA : Int} {BA : Bool} {lo : Nat} {kd : Nat → Nat} (i : Nat) (v : Value) (u u' : World) (h : RKL cv x1v sv n g f xs os OS sp su PA UA BA lo kd i v u) (k : Fr u u') : RKL cv x1v sv n g f xs os OS sp su PA UA BA lo kd i v u' := by
  unfold RKL at h ⊢
  split at h
  case h_3 => obtain ⟨a, b, e, h⟩ := h; exact ⟨a, b, e, h.fr k⟩
  case h_5 => obtain ⟨a, b, e, h⟩ := h; exact ⟨a, b, e, h.fr k⟩
  case h_9 => obtain ⟨a, b, e, h⟩ := h; exact ⟨a, b, e, h.fr k⟩
  case h_10 => obtain ⟨a, b, e, h⟩ := h; exact ⟨a, b, e, h.fr k⟩
  all_goals exact h
theorem PKL_late {cv x1v sv : Value} {n g f : Int} {xs : List Int} {os OS : List Ow} {sp su PA UA : Int} {BA : Bool} {lo : Nat} {kd : Nat → Nat} (i : Nat) (v : Value) (u : World) (hl : decide (kd i = 10) = true) (h : PKL BA kd i v) : RKL cv x1v sv n g f xs os OS sp su PA UA BA lo kd i v u := by
  have e : kd i = 10 := of_decide_eq_true hl
  unfold PKL at h
  unfold RKL
  rw [e] at h ⊢
  exact h
theorem ZKL_fr {OS : List Ow} {PA UA : Int} {lo : Nat} (u u' : World) (p : Nat) (t : Bool) (h : if t then ∃ ga ca, KyZ u p 33 #[.slice ga OS.length ca, .int .i64 PA, .int .i64 UA] ∧ AnsO u lo ga OS.length ca OS else KyZ u p 33 #[.slice none 0 0, .int .i64 0, .int .i64 0]) (k : Fr u u') :
    if t then ∃ ga ca, KyZ u' p 33 #[.slice ga OS.length ca, .int .i64 PA, .int .i64 UA] ∧ AnsO u' lo ga OS.length ca OS else KyZ u' p 33 #[.slice none 0 0, .int .i64 0, .int .i64 0] := by
  cases t
  · exact KyZ.fr h k
  · obtain ⟨ga, ca, h1, h2⟩ := h
    exact ⟨ga, ca, h1.fr k, h2.fr k⟩
def kd7 (i : Nat) : Nat := [0, 0, 1, 2, 3, 4, 5, 6, 7, 8, 8, 9, 10, 11, 11, 10].getD i 11
def sg7 (i : Nat) : Nat := [34, 35, 36, 37, 38, 39, 40, 41, 42, 43, 33, 44, 45, 14, 200, 15].getD i 0
def kd10 (i : Nat) : Nat := [0, 0, 1, 3, 5, 6, 7, 8, 8, 9, 10, 11, 11, 10].getD i 11
def sg10 (i : Nat) : Nat := [51, 52, 53, 54, 55, 56, 57, 58, 50, 59, 60, 18, 200, 19].getD i 0
def kd30 (i : Nat) : Nat := [0, 0, 1, 2, 3, 4, 5, 6, 7, 8, 8, 9, 10, 11, 11, 10].getD i 11
def sg30 (i : Nat) : Nat := [111, 112, 113, 114, 115, 116, 117, 118, 119, 120, 110, 121, 122, 23, 200, 24].getD i 0

set_option maxHeartbeats 16000000 in
set_option maxRecDepth 20000 in
theorem walk (c0 : Cf) (a1 : Option Addr) (len1 cap1 : Nat) (z1 : List Int) (s2 : Sm) (a3 : Int) (a4 : Int) (a5 : Int) (w : World) (i0 : CfI c0) (w1 : IsRow .i64 w a1 len1 cap1 z1) (i2 : InSm w s2) (w3 : (Lit.int .i64 a3).wf = true) (w4 : (Lit.int .i64 a4).wf = true) (w5 : (Lit.int .i64 a5).wf = true)  :
    Calls Try.prog 5 #[.agg #[.int .i64 c0.r, .int .i64 c0.s, .int .i64 c0.b, .int .i64 c0.m, .int .i64 c0.q, .int .i64 c0.c, .int .i64 c0.w], .slice a1 len1 cap1, .agg #[.slice s2.ao s2.n s2.c, .int .i64 s2.p, .int .i64 s2.u], .int .i64 a3, .int .i64 a4, .int .i64 a5] w fun e w' => e = .returned (.bool true) ∧ Below w.heap.size w w' := by
  obtain ⟨so, sn, sc, sp, su⟩ := s2
  have i2x := i2.mx
  have i2o := i2.os
  simp only at i2x i2o ⊢
  have ka := CfAt.new w c0 23
  have fA := Fr.alloc w (.cells #[.int .i64 c0.r, .int .i64 c0.s, .int .i64 c0.b, .int .i64 c0.m, .int .i64 c0.q, .int .i64 c0.c, .int .i64 c0.w] 23)
  have fB := Fr.alloc (w.alloc (.cells #[.int .i64 c0.r, .int .i64 c0.s, .int .i64 c0.b, .int .i64 c0.m, .int .i64 c0.q, .int .i64 c0.c, .int .i64 c0.w] 23)) (.cells #[.slice so sn sc, .int .i64 sp, .int .i64 su] 26)
  have kb : KyZ ((w.alloc (.cells #[.int .i64 c0.r, .int .i64 c0.s, .int .i64 c0.b, .int .i64 c0.m, .int .i64 c0.q, .int .i64 c0.c, .int .i64 c0.w] 23)).alloc (.cells #[.slice so sn sc, .int .i64 sp, .int .i64 su] 26)) (w.heap.size + 1) 26 #[.slice so sn sc, .int .i64 sp, .int .i64 su] := by
    have := heap_alloc_new (w.alloc (.cells #[.int .i64 c0.r, .int .i64 c0.s, .int .i64 c0.b, .int .i64 c0.m, .int .i64 c0.q, .int .i64 c0.c, .int .i64 c0.w] 23)) (.cells #[.slice so sn sc, .int .i64 sp, .int .i64 su] 26)
    have hs : (w.alloc (.cells #[.int .i64 c0.r, .int .i64 c0.s, .int .i64 c0.b, .int .i64 c0.m, .int .i64 c0.q, .int .i64 c0.c, .int .i64 c0.w] 23)).heap.size = w.heap.size + 1 := by simp
    rwa [hs] at this
  replace ka := ka.fr fB
  have F := fA.trans fB
  clear fA fB i2 i0
  by_cases hbig1 : 1048576 < len1
  · clear i2o kb
    obtain ⟨r, s, b, m, q, c, k⟩ := c0
    go_enter Try.func5, Try.ntmps5
    go_wp2_with fail
    go_ret
    exact ⟨rfl, F.below⟩
  obtain ⟨hXr, hn1⟩ := reads_of_row w1 (by omega)
  obtain ⟨xs, hxs⟩ : ∃ xs, xs = z1.take len1 := ⟨_, rfl⟩
  rw [← hxs] at hXr hn1
  have hI3 : a3 ≤ 9223372036854775807 := (fitC w3).2
  clear hxs w1 w3 w4 w5
  subst hn1
  have cz := fun w => szSm_any so sn sc sp su w i2x
  by_cases hbig : sn ≤ 1048576
  case neg =>
    simp only [if_neg hbig] at cz
    obtain ⟨d0, d1, d2⟩ := kb.c3
    clear i2o kb
    obtain ⟨r, s, b, m, q, c, k⟩ := c0
    go_enter Try.func5, Try.ntmps5
    go_wp2_with fail
    refine (cz _).mono ?_
    rintro e u1 ⟨rfl, f1⟩
    go_wp2_with fail
    go_ret
    exact ⟨rfl, (F.trans f1).below⟩
  simp only [if_pos hbig] at cz
  obtain ⟨os, hn, hSr, -⟩ := i2o hbig
  subst hn
  clear i2o
  obtain ⟨U0, hU0⟩ : ∃ U0, U0 = (w.alloc (.cells #[.int .i64 c0.r, .int .i64 c0.s, .int .i64 c0.b, .int .i64 c0.m, .int .i64 c0.q, .int .i64 c0.c, .int .i64 c0.w] 23)).alloc (.cells #[.slice so os.length sc, .int .i64 sp, .int .i64 su] 26) := ⟨_, rfl⟩
  rw [← hU0] at ka kb F
  have HQ : Hid (∀ u, Fr U0 u → CfAt u w.heap.size 0 c0 ∧ KyZ u (w.heap.size + 1) 26 #[.slice so os.length sc, .int .i64 sp, .int .i64 su] ∧ ReadsG LO u so os ∧ Reads u a1 xs ∧ Fr w u) := fun u f => ⟨ka.fr f, kb.fr f, hSr.fr (F.trans f), hXr.fr (F.trans f), F.trans f⟩
  have hz1 : Hid (U0.heap.size = w.heap.size + 1 + 1) := by rw [hU0]; simp [Hid]
  obtain ⟨d0, d1, d2⟩ := kb.c3
  clear ka kb F hSr hXr
  have cT := fun u => toConfig_any c0 u
  have cX := fun u h => toI_any a1 xs.length cap1 xs u rfl h
  have cM := fun u h => toSm_any so os.length sc os sp su u rfl h
  have cS := fun u ao cap so2 sc2 hx hs => (look_spec c0 ao xs.length cap xs so2 os.length sc2 os sp su a3 a4 a5 u rfl rfl hx hs hI3).mono fun e w' h => (⟨h.1.ans, h.2⟩ : _ ∧ _)
  have cI := fun u ao cap so2 sc2 hx hs => (look_impl c0 ao xs.length cap xs so2 os.length sc2 os sp su a3 a4 a5 u rfl rfl hx hs).mono fun e w' h => (⟨h.1.ans, h.2⟩ : _ ∧ _)
  generalize anS c0 xs ⟨os, sp, su⟩ a3 a4 a5 = AS at cS cI
  generalize anB c0 xs ⟨os, sp, su⟩ a3 a4 a5 = BA at cS cI
  obtain ⟨OS, PA, UA⟩ := AS
  obtain ⟨r, s, b, m, q, c, k⟩ := c0
  simp only at cT cS cI hU0
  have cq := (fun (u : World) (f : Fr U0 u) => HQ.out u f)
  clear HQ
  go_enter Try.func5, Try.ntmps5
  go_upto_region 4 with fail
  rw [← hU0]
  clear hU0
  go_wp2_with fail
  refine (cz _).mono ?_
  rintro e u1 ⟨rfl, f1⟩
  clear cz d0 d1 d2
  have hnb : ¬ (1048576 - (os.length : Int) < 0) := by omega
  go_upto_region 7 with fail
  have hlW := Nat.le_refl u1.heap.size
  refine wp_region_boxR 16 13 14 sg7 (fun X => { tmps := #[(.agg #[.int .i64 r, .int .i64 s, .int .i64 b, .int .i64 m, .int .i64 q, .int .i64 c, .int .i64 k]), .slice a1 xs.length cap1, (.agg #[.slice so os.length sc, .int .i64 sp, .int .i64 su]), .int .i64 (a3), .int .i64 (a4), .int .i64 (a5), .pointer (some ⟨w.heap.size, 0, none⟩), undef, .pointer (some ⟨w.heap.size + 1, 0, none⟩), undef, undef, undef, .bool false, .int .i64 (1048576 - (os.length : Int)), X 14, X 15, undef, undef, undef, undef, undef, undef, undef, undef, undef, .slice a1 xs.length cap1, .int .i64 ((xs.length : Int)), .bool (decide ((1048576 : Int) < (xs.length : Int))), (.agg #[.slice so os.length sc, .int .i64 sp, .int .i64 su]), .int .i64 (1048576), .int .i64 (1048576 - (os.length : Int)), .int .i64 (1048576 - (os.length : Int)), .bool (decide (1048576 - (os.length : Int) < 0)), X 33, X 34, X 35, X 36, X 37, X 38, X 39, X 40, X 41, X 42, X 43, X 44, X 45, undef, undef, undef, undef, undef, undef, undef, undef, undef, undef, undef, undef, undef, undef, undef, undef, undef, undef, undef, undef, undef, undef, undef, undef, undef, undef, undef, undef, undef, undef, undef, undef, undef, undef, undef, undef, undef, undef, undef, undef, undef, undef, undef, undef, undef, undef, undef, undef, undef, undef, undef, undef, undef, undef, undef, undef, undef, undef, undef, undef, undef, undef, undef, undef, undef, undef, undef, undef, undef, undef, undef, undef, undef, undef, undef, undef, undef, undef, undef, undef, undef, undef, undef, undef, undef, undef, undef, undef, undef, undef, undef, undef, undef, undef], defers := [] }) (RKL (.agg #[.int .i64 r, .int .i64 s, .int .i64 b, .int .i64 m, .int .i64 q, .int .i64 c, .int .i64 k]) (.slice a1 xs.length cap1) ((.agg #[.slice so os.length sc, .int .i64 sp, .int .i64 su])) a3 a4 a5 xs os OS sp su PA UA BA u1.heap.size kd7) (PKL BA kd7) (fun i => decide (kd7 i = 10)) (fun u p t => if t then ∃ ga ca, KyZ u p 33 #[.slice ga OS.length ca, .int .i64 PA, .int .i64 UA] ∧ AnsO u u1.heap.size ga OS.length ca OS else KyZ u p 33 #[.slice none 0 0, .int .i64 0, .int .i64 0]) (by kernel_rfl) (by kernel_rfl) (by kernel_rfl) (by omega) (by omega) (by omega) (dst_of (by kernel_rfl)) (ZKL_fr) (RKL_fr) (fun _ => undef) rfl (fun o ho => ?_) (by kernel_rfl) ?_ (PKL_late) ?_ ?_ ?_
  · simp only [List.getElem?_toArray, List.getElem?_cons_succ, List.getElem?_cons_zero, Option.some.injEq] at ho
    subst ho
    exact ⟨⟨13, .data⟩, by simp, rfl, rfl⟩
  · intro i o X u' hi h8 h9 ho hF hX
    obtain ⟨⟨k0, k1, k2, k3, k4, k5, k6⟩, zS, hSr, hXr, -⟩ := cq u' (f1.trans hF)
    simp only [Nat.zero_add] at k0 k1 k2 k3 k4 k5 k6
    obtain ⟨z0, z1, z2⟩ := zS.c3
    have hFz := hF.size
    clear zS
    rcases i with _ | _ | _ | _ | _ | _ | _ | _ | _ | _ | _ | _ | _ | _ | _ | _ | i
    · simp only [List.getElem?_toArray, List.getElem?_cons_zero, Option.some.injEq] at ho
      subst ho
      refine ⟨by simp [Region.wanted], ?_⟩
      go_simp
      exact ⟨(.agg #[.int .i64 r, .int .i64 s, .int .i64 b, .int .i64 m, .int .i64 q, .int .i64 c, .int .i64 k]), by simp [upd, sg7], Fr.refl _, trivial, fun _ => rfl⟩
    · simp only [List.getElem?_toArray, List.getElem?_cons_succ, List.getElem?_cons_zero, Option.some.injEq] at ho
      subst ho
      refine ⟨by simp [Region.wanted], ?_⟩
      have e0 : X 34 = (.agg #[.int .i64 r, .int .i64 s, .int .i64 b, .int .i64 m, .int .i64 q, .int .i64 c, .int .i64 k]) := (hX ⟨0, .data⟩ (by simp) rfl (by simp) (by simp)).2 rfl
      go_simp
      refine (cT u').mono ?_
      rintro x u2' ⟨rfl, f'⟩
      exact ⟨(.agg #[.int .i64 r, .int .i64 s, .int .i64 b, .int .i64 m, .int .i64 q, .int .i64 c, .int .i64 k]), by simp [upd, sg7, e0], f', trivial, fun _ => rfl⟩
    · simp only [List.getElem?_toArray, List.getElem?_cons_succ, List.getElem?_cons_zero, Option.some.injEq] at ho
      subst ho
      refine ⟨by simp [Region.wanted], ?_⟩
      go_simp
      exact ⟨(.slice a1 xs.length cap1), by simp [upd, sg7], Fr.refl _, trivial, fun _ => rfl⟩
    · simp only [List.getElem?_toArray, List.getElem?_cons_succ, List.getElem?_cons_zero, Option.some.injEq] at ho
      subst ho
      refine ⟨by simp [Region.wanted], ?_⟩
      have e2 : X 36 = (.slice a1 xs.length cap1) := (hX ⟨2, .data⟩ (by simp) rfl (by simp) (by simp)).2 rfl
      go_simp
      refine (cX u' hXr).mono ?_
      rintro x u2' ⟨rfl, o', f'⟩
      exact ⟨_, by simp [upd, sg7, e2]; rfl, f', trivial, fun _ => ⟨_, _, rfl, o'.reads⟩⟩
    · simp only [List.getElem?_toArray, List.getElem?_cons_succ, List.getElem?_cons_zero, Option.some.injEq] at ho
      subst ho
      refine ⟨by simp [Region.wanted], ?_⟩
      go_simp
      exact ⟨((.agg #[.slice so os.length sc, .int .i64 sp, .int .i64 su])), by simp [upd, sg7], Fr.refl _, trivial, fun _ => rfl⟩
    · simp only [List.getElem?_toArray, List.getElem?_cons_succ, List.getElem?_cons_zero, Option.some.injEq] at ho
      subst ho
      refine ⟨by simp [Region.wanted], ?_⟩
      have e4 : X 38 = ((.agg #[.slice so os.length sc, .int .i64 sp, .int .i64 su])) := (hX ⟨4, .data⟩ (by simp) rfl (by simp) (by simp)).2 rfl
      go_simp
      refine (cM u' hSr).mono ?_
      rintro x u2' ⟨g', c', rfl, o', f'⟩
      exact ⟨_, by simp [upd, sg7, e4]; rfl, f', trivial, fun _ => ⟨_, _, rfl, ownG_readsO o'⟩⟩
    · simp only [List.getElem?_toArray, List.getElem?_cons_succ, List.getElem?_cons_zero, Option.some.injEq] at ho
      subst ho
      refine ⟨by simp [Region.wanted], ?_⟩
      go_simp
      exact ⟨.int .i64 (a3), by simp [upd, sg7], Fr.refl _, trivial, fun _ => rfl⟩
    · simp only [List.getElem?_toArray, List.getElem?_cons_succ, List.getElem?_cons_zero, Option.some.injEq] at ho
      subst ho
      refine ⟨by simp [Region.wanted], ?_⟩
      go_simp
      exact ⟨.int .i64 (a4), by simp [upd, sg7], Fr.refl _, trivial, fun _ => rfl⟩
    · simp only [List.getElem?_toArray, List.getElem?_cons_succ, List.getElem?_cons_zero, Option.some.injEq] at ho
      subst ho
      refine ⟨by simp [Region.wanted], ?_⟩
      go_simp
      exact ⟨.int .i64 (a5), by simp [upd, sg7], Fr.refl _, trivial, fun _ => rfl⟩
    · simp only [List.getElem?_toArray, List.getElem?_cons_succ, List.getElem?_cons_zero, Option.some.injEq] at ho
      subst ho
      refine ⟨by simp [Region.wanted], ?_⟩
      have e1 : X 35 = (.agg #[.int .i64 r, .int .i64 s, .int .i64 b, .int .i64 m, .int .i64 q, .int .i64 c, .int .i64 k]) := (hX ⟨1, .data⟩ (by simp) rfl (by simp) (by simp)).2 rfl
      obtain ⟨gx, kx, e3, rx⟩ : ∃ gx kx, X 37 = .slice (some ⟨gx, 0, none⟩) xs.length kx ∧ Reads u' (some ⟨gx, 0, none⟩) xs := (hX ⟨3, .data⟩ (by simp) rfl (by simp) (by simp)).2 rfl
      obtain ⟨gy, ky, e5, ry⟩ : ∃ gy ky, X 39 = .agg #[.slice (some ⟨gy, 0, none⟩) os.length ky, .int .i64 sp, .int .i64 su] ∧ ReadsG LO u' (some ⟨gy, 0, none⟩) os := (hX ⟨5, .data⟩ (by simp) rfl (by simp) (by simp)).2 rfl
      have e6 : X 40 = .int .i64 (a3) := (hX ⟨6, .data⟩ (by simp) rfl (by simp) (by simp)).2 rfl
      have e7 : X 41 = .int .i64 (a4) := (hX ⟨7, .data⟩ (by simp) rfl (by simp) (by simp)).2 rfl
      have e8 : X 42 = .int .i64 (a5) := (hX ⟨8, .data⟩ (by simp) rfl (by simp) (by simp)).2 rfl
      go_simp
      refine (cS u' _ _ _ _ rx ry).mono ?_
      rintro x u2' ⟨⟨ga, ca, rfl, ha⟩, f'⟩
      exact ⟨.tuple #[.agg #[.slice ga OS.length ca, .int .i64 PA, .int .i64 UA], .bool BA], by simp [upd, sg7, e1, e3, e5, e6, e7, e8], f', ⟨_, rfl⟩, fun _ => ⟨ga, ca, rfl, AnsO.lower ha hFz⟩⟩
    · simp only [List.getElem?_toArray, List.getElem?_cons_succ, List.getElem?_cons_zero, Option.some.injEq] at ho
      subst ho
      refine ⟨by simp [Region.wanted], ?_⟩
      obtain ⟨ga, ca, e9, ha⟩ : ∃ ga ca, X 43 = .tuple #[.agg #[.slice ga OS.length ca, .int .i64 PA, .int .i64 UA], .bool BA] ∧ AnsO u' u1.heap.size ga OS.length ca OS := (hX ⟨9, .data⟩ (by simp) rfl (by simp) (by simp)).2 rfl
      go_simp
      exact ⟨.tuple #[.agg #[.slice ga OS.length ca, .int .i64 PA, .int .i64 UA], .bool BA], by simp [upd, sg7, e9], Fr.refl _, ⟨_, rfl⟩, fun _ => ⟨ga, ca, rfl, ha⟩⟩
    · simp only [List.getElem?_toArray, List.getElem?_cons_succ, List.getElem?_cons_zero, Option.some.injEq] at ho
      subst ho
      refine ⟨by simp [Region.wanted], ?_⟩
      obtain ⟨ga, ca, e10, ha⟩ : ∃ ga ca, X 33 = .tuple #[.agg #[.slice ga OS.length ca, .int .i64 PA, .int .i64 UA], .bool BA] ∧ AnsO u' u1.heap.size ga OS.length ca OS := (hX ⟨10, .data⟩ (by simp) rfl (by simp) (by simp)).2 rfl
      go_simp
      exact ⟨.agg #[.slice ga OS.length ca, .int .i64 PA, .int .i64 UA], by simp [upd, sg7, e10], Fr.refl _, trivial, fun _ => ⟨ga, ca, rfl, ha⟩⟩
    · simp only [List.getElem?_toArray, List.getElem?_cons_succ, List.getElem?_cons_zero, Option.some.injEq] at ho
      subst ho
      refine ⟨by simp [Region.wanted], ?_⟩
      obtain ⟨ta, e10⟩ : ∃ ta, X 33 = .tuple #[ta, .bool BA] := (hX ⟨10, .data⟩ (by simp) rfl (by simp) (by simp)).1
      go_simp
      exact ⟨.bool BA, by simp [upd, sg7, e10], Fr.refl _, rfl, fun h => by simp [kd7] at h⟩
    · exact absurd rfl h8
    · exact absurd rfl h9
    · simp only [List.getElem?_toArray, List.getElem?_cons_succ, List.getElem?_cons_zero, Option.some.injEq] at ho
      subst ho
      refine ⟨by simp [Region.wanted], ?_⟩
      have e12 : X 45 = .bool BA := (hX ⟨12, .data⟩ (by simp) rfl (by simp) (by simp)).1
      go_simp
      exact ⟨.bool BA, by simp [upd, sg7, e12], Fr.refl _, rfl, fun h => by simp [kd7] at h⟩
    · omega
  · intro o X u' ho hF
    simp only [List.getElem?_toArray, List.getElem?_cons_succ, List.getElem?_cons_zero, Option.some.injEq] at ho
    subst ho
    refine ⟨by simp [Region.wanted], ?_⟩
    have HZ : Hid (KyZ (u'.alloc (.cells #[.slice none 0 0, .int .i64 0, .int .i64 0] 33)) u'.heap.size 33 #[.slice none 0 0, .int .i64 0, .int .i64 0]) := heap_alloc_new u' _
    go_simp
    refine ⟨u'.heap.size, ?_, Fr.alloc _ _, Nat.le_refl _, HZ.out⟩
    simp [upd, sg7]
  · intro o X p' u' ho hF hp z hp2 hX
    simp only [List.getElem?_toArray, List.getElem?_cons_succ, List.getElem?_cons_zero, Option.some.injEq] at ho
    subst ho
    refine ⟨by simp [Region.wanted], ?_⟩
    obtain ⟨ga, ca, e6, ha⟩ : ∃ ga ca, X 44 = .agg #[.slice ga OS.length ca, .int .i64 PA, .int .i64 UA] ∧ AnsO u' u1.heap.size ga OS.length ca OS := hX ⟨11, .data⟩ (by simp) rfl (by simp) (by simp)
    have e8 : X 14 = _ := hp2
    have z : KyZ u' p' 33 #[.slice none 0 0, .int .i64 0, .int .i64 0] := z
    have n0 := fun i => z.free i
    obtain ⟨z0, z1, z2⟩ := z.c3
    have gg := grown_trans (grown_trans (grown_set u' p' 0 (.slice ga OS.length ca)) (grown_set _ p' 1 (.int .i64 PA))) (grown_set _ p' 2 (.int .i64 UA))
    have HZ : Hid (∃ ga' ca', KyZ (((u'.setCell ⟨p', 0, none⟩ (.slice ga OS.length ca)).setCell ⟨p', 1, none⟩ (.int .i64 PA)).setCell ⟨p', 2, none⟩ (.int .i64 UA)) p' 33 #[.slice ga' OS.length ca', .int .i64 PA, .int .i64 UA] ∧ AnsO (((u'.setCell ⟨p', 0, none⟩ (.slice ga OS.length ca)).setCell ⟨p', 1, none⟩ (.int .i64 PA)).setCell ⟨p', 2, none⟩ (.int .i64 UA)) u1.heap.size ga' OS.length ca' OS) := ⟨ga, ca, ((z.put0 _).put1 _).put2 _, ha.keep gg (fun j hj e => ha.ne z (by decide) j hj (by cases e; rfl))⟩
    have HG : Hid (u'.grownBy (((u'.setCell ⟨p', 0, none⟩ (.slice ga OS.length ca)).setCell ⟨p', 1, none⟩ (.int .i64 PA)).setCell ⟨p', 2, none⟩ (.int .i64 UA)) (some p')) := gg
    clear gg ha z hp2 hX
    go_simp
    exact ⟨HG.out, HZ.out⟩
  intro X p14 u2 F7 hp7 hz7 eA hPu
  obtain ⟨ga7, ca7, kz7, an7⟩ : ∃ ga ca, KyZ u2 p14 33 #[.slice ga OS.length ca, .int .i64 PA, .int .i64 UA] ∧ AnsO u2 u1.heap.size ga OS.length ca OS := hz7
  have eB : X 15 = .bool BA := hPu 15 (by omega) (by omega) (by omega)
  have eC : X 14 = _ := eA
  simp only [eC, eB]
  clear eA eC eB hPu
  generalize X 34 = y34
  generalize X 35 = y35
  generalize X 36 = y36
  generalize X 37 = y37
  generalize X 38 = y38
  generalize X 39 = y39
  generalize X 40 = y40
  generalize X 41 = y41
  generalize X 42 = y42
  generalize X 43 = y43
  generalize X 33 = y33
  generalize X 44 = y44
  generalize X 45 = y45
  clear X
  have f2 := f1.trans F7
  have HP : Hid (p14 < u2.heap.size ∧ u1.heap.size ≤ u2.heap.size ∧ ∀ j, blk ga7 = some j → j < u2.heap.size) := ⟨kz7.lt, F7.size, fun j hj => (an7.lt j hj).2⟩
  clear F7 hp7
  go_wp2_with fail
  refine (cX _ (cq u2 f2).2.2.2.1).mono ?_
  rintro e u3 ⟨rfl, O1, f3⟩
  have F3 := f2.trans f3
  have HO1 := O1.1.lt u2.heap.size rfl
  have kz7 := kz7.fr f3
  have an7 := an7.fr f3
  obtain ⟨-, zS, hSr, -, -⟩ := cq u3 F3
  obtain ⟨z0, z1, z2⟩ := zS.c3
  clear zS
  go_wp2_with fail
  refine (cM _ hSr).mono ?_
  rintro e u4 ⟨g2, c2, rfl, O2, f4⟩
  have HO2 := O2.blk g2 rfl
  have HO2' := O2.lt g2 rfl
  have F4 := F3.trans f4
  have k17 : KyZ (u4.alloc (.cells #[.slice (some ⟨g2, 0, none⟩) os.length c2, .int .i64 sp, .int .i64 su] 33)) u4.heap.size 33 #[.slice (some ⟨g2, 0, none⟩) os.length c2, .int .i64 sp, .int .i64 su] := heap_alloc_new _ _
  have fX := Fr.alloc u4 (.cells #[.slice (some ⟨g2, 0, none⟩) os.length c2, .int .i64 sp, .int .i64 su] 33)
  have F5 := F4.trans fX
  have kz7 := (kz7.fr f4).fr fX
  have an7 := (an7.fr f4).fr fX
  have O1 : OwnI (u4.alloc (.cells #[.slice (some ⟨g2, 0, none⟩) os.length c2, .int .i64 sp, .int .i64 su] 33)) _ _ _ := ⟨(O1.1.kept (f4.trans fX) (by simp [Value.ownBlock])), O1.2⟩
  have O2 := O2.fr fX
  have HN : Hid (p14 < u2.heap.size ∧ u2.heap.size < u3.heap.size ∧ u3.heap.size ≤ g2 ∧ g2 < u4.heap.size ∧ u4.heap.size < (u4.alloc (.cells #[.slice (some ⟨g2, 0, none⟩) os.length c2, .int .i64 sp, .int .i64 su] 33)).heap.size ∧ U0.heap.size ≤ u2.heap.size ∧ U0.heap.size ≤ u1.heap.size ∧ (∀ j, blk ga7 = some j → j < u2.heap.size)) := ⟨HP.out.1, HO1.2, HO2, HO2', k17.lt, f2.size, f1.size, HP.out.2.2⟩
  obtain ⟨V, hV⟩ : ∃ V, V = u4.alloc (.cells #[.slice (some ⟨g2, 0, none⟩) os.length c2, .int .i64 sp, .int .i64 su] 33) := ⟨_, rfl⟩
  obtain ⟨g1, hg1⟩ : ∃ g1, g1 = u2.heap.size := ⟨_, rfl⟩
  obtain ⟨b17, hb17⟩ : ∃ b17, b17 = u4.heap.size := ⟨_, rfl⟩
  rw [← hV] at k17 F5 kz7 an7 O1 O2 HN
  rw [← hg1] at O1 HN
  rw [← hb17] at k17 HN
  clear HP HO1 HO2 HO2' z0 z1 z2 hSr f2 F3 F4 f3 f4 fX
  go_upto_region 10 with fail
  rw [← hV]
  simp only [← hg1, ← hb17]
  clear hV hg1 hb17
  have hX1 : ∀ u, Fr V u → Reads u (some ⟨g1, 0, none⟩) xs := fun u f => O1.reads.fr f
  have hX2 : ∀ u, Fr V u → ReadsG LO u (some ⟨g2, 0, none⟩) os := fun u f => (ownG_readsO O2).fr f
  have x17 : ∀ u, Fr V u → _ := fun u f => (k17.fr f).c3
  have hlW := Nat.le_refl V.heap.size
  refine wp_region_boxR 14 11 12 sg10 (fun X => { tmps := #[(.agg #[.int .i64 r, .int .i64 s, .int .i64 b, .int .i64 m, .int .i64 q, .int .i64 c, .int .i64 k]), .slice a1 xs.length cap1, (.agg #[.slice so os.length sc, .int .i64 sp, .int .i64 su]), .int .i64 (a3), .int .i64 (a4), .int .i64 (a5), .pointer (some ⟨w.heap.size, 0, none⟩), undef, .pointer (some ⟨w.heap.size + 1, 0, none⟩), undef, undef, undef, .bool false, .int .i64 (1048576 - (os.length : Int)), .pointer (some ⟨p14, 0, none⟩), .bool BA, .slice (some ⟨g1, 0, none⟩) xs.length xs.length, .pointer (some ⟨b17, 0, none⟩), X 18, X 19, undef, undef, undef, undef, undef, .slice a1 xs.length cap1, .int .i64 ((xs.length : Int)), .bool (decide ((1048576 : Int) < (xs.length : Int))), (.agg #[.slice so os.length sc, .int .i64 sp, .int .i64 su]), .int .i64 (1048576), .int .i64 (1048576 - (os.length : Int)), .int .i64 (1048576 - (os.length : Int)), .bool (decide (1048576 - (os.length : Int) < 0)), y33, y34, y35, y36, y37, y38, y39, y40, y41, y42, y43, y44, y45, .slice a1 xs.length cap1, .slice (some ⟨g1, 0, none⟩) xs.length xs.length, (.agg #[.slice so os.length sc, .int .i64 sp, .int .i64 su]), .agg #[.slice (some ⟨g2, 0, none⟩) os.length c2, .int .i64 sp, .int .i64 su], X 50, X 51, X 52, X 53, X 54, X 55, X 56, X 57, X 58, X 59, X 60, undef, undef, undef, undef, undef, undef, undef, undef, undef, undef, undef, undef, undef, undef, undef, undef, undef, undef, undef, undef, undef, undef, undef, undef, undef, undef, undef, undef, undef, undef, undef, undef, undef, undef, undef, undef, undef, undef, undef, undef, undef, undef, undef, undef, undef, undef, undef, undef, undef, undef, undef, undef, undef, undef, undef, undef, undef, undef, undef, undef, undef, undef, undef, undef, undef, undef, undef, undef, undef, undef, undef, undef, undef, undef, undef, undef, undef, undef, undef], defers := [] }) (RKL (.agg #[.int .i64 r, .int .i64 s, .int .i64 b, .int .i64 m, .int .i64 q, .int .i64 c, .int .i64 k]) (.slice (some ⟨g1, 0, none⟩) xs.length xs.length) (.agg #[.slice (some ⟨g2, 0, none⟩) os.length c2, .int .i64 sp, .int .i64 su]) a3 a4 a5 xs os OS sp su PA UA BA V.heap.size kd10) (PKL BA kd10) (fun i => decide (kd10 i = 10)) (fun u p t => if t then ∃ ga ca, KyZ u p 33 #[.slice ga OS.length ca, .int .i64 PA, .int .i64 UA] ∧ AnsO u V.heap.size ga OS.length ca OS else KyZ u p 33 #[.slice none 0 0, .int .i64 0, .int .i64 0]) (by kernel_rfl) (by kernel_rfl) (by kernel_rfl) (by omega) (by omega) (by omega) (dst_of (by kernel_rfl)) (ZKL_fr) (RKL_fr) (fun _ => undef) rfl (fun o ho => ?_) (by kernel_rfl) ?_ (PKL_late) ?_ ?_ ?_
  · simp only [List.getElem?_toArray, List.getElem?_cons_succ, List.getElem?_cons_zero, Option.some.injEq] at ho
    subst ho
    exact ⟨⟨11, .data⟩, by simp, rfl, rfl⟩
  · intro i o X u' hi h8 h9 ho hF hX
    obtain ⟨⟨k0, k1, k2, k3, k4, k5, k6⟩, zS, hSr, hXr, -⟩ := cq u' (F5.trans hF)
    simp only [Nat.zero_add] at k0 k1 k2 k3 k4 k5 k6
    obtain ⟨z0, z1, z2⟩ := zS.c3
    have hFz := hF.size
    clear zS
    obtain ⟨v0, v1, v2⟩ := x17 u' hF
    rcases i with _ | _ | _ | _ | _ | _ | _ | _ | _ | _ | _ | _ | _ | _ | i
    · simp only [List.getElem?_toArray, List.getElem?_cons_zero, Option.some.injEq] at ho
      subst ho
      refine ⟨by simp [Region.wanted], ?_⟩
      go_simp
      exact ⟨(.agg #[.int .i64 r, .int .i64 s, .int .i64 b, .int .i64 m, .int .i64 q, .int .i64 c, .int .i64 k]), by simp [upd, sg10], Fr.refl _, trivial, fun _ => rfl⟩
    · simp only [List.getElem?_toArray, List.getElem?_cons_succ, List.getElem?_cons_zero, Option.some.injEq] at ho
      subst ho
      refine ⟨by simp [Region.wanted], ?_⟩
      have e0 : X 51 = (.agg #[.int .i64 r, .int .i64 s, .int .i64 b, .int .i64 m, .int .i64 q, .int .i64 c, .int .i64 k]) := (hX ⟨0, .data⟩ (by simp) rfl (by simp) (by simp)).2 rfl
      go_simp
      refine (cT u').mono ?_
      rintro x u2' ⟨rfl, f'⟩
      exact ⟨(.agg #[.int .i64 r, .int .i64 s, .int .i64 b, .int .i64 m, .int .i64 q, .int .i64 c, .int .i64 k]), by simp [upd, sg10, e0], f', trivial, fun _ => rfl⟩
    · simp only [List.getElem?_toArray, List.getElem?_cons_succ, List.getElem?_cons_zero, Option.some.injEq] at ho
      subst ho
      refine ⟨by simp [Region.wanted], ?_⟩
      go_simp
      exact ⟨(.slice (some ⟨g1, 0, none⟩) xs.length xs.length), by simp [upd, sg10], Fr.refl _, trivial, fun _ => rfl⟩
    · simp only [List.getElem?_toArray, List.getElem?_cons_succ, List.getElem?_cons_zero, Option.some.injEq] at ho
      subst ho
      refine ⟨by simp [Region.wanted], ?_⟩
      go_simp
      exact ⟨(.agg #[.slice (some ⟨g2, 0, none⟩) os.length c2, .int .i64 sp, .int .i64 su]), by simp [upd, sg10], Fr.refl _, trivial, fun _ => rfl⟩
    · simp only [List.getElem?_toArray, List.getElem?_cons_succ, List.getElem?_cons_zero, Option.some.injEq] at ho
      subst ho
      refine ⟨by simp [Region.wanted], ?_⟩
      go_simp
      exact ⟨.int .i64 (a3), by simp [upd, sg10], Fr.refl _, trivial, fun _ => rfl⟩
    · simp only [List.getElem?_toArray, List.getElem?_cons_succ, List.getElem?_cons_zero, Option.some.injEq] at ho
      subst ho
      refine ⟨by simp [Region.wanted], ?_⟩
      go_simp
      exact ⟨.int .i64 (a4), by simp [upd, sg10], Fr.refl _, trivial, fun _ => rfl⟩
    · simp only [List.getElem?_toArray, List.getElem?_cons_succ, List.getElem?_cons_zero, Option.some.injEq] at ho
      subst ho
      refine ⟨by simp [Region.wanted], ?_⟩
      go_simp
      exact ⟨.int .i64 (a5), by simp [upd, sg10], Fr.refl _, trivial, fun _ => rfl⟩
    · simp only [List.getElem?_toArray, List.getElem?_cons_succ, List.getElem?_cons_zero, Option.some.injEq] at ho
      subst ho
      refine ⟨by simp [Region.wanted], ?_⟩
      have e1 : X 52 = (.agg #[.int .i64 r, .int .i64 s, .int .i64 b, .int .i64 m, .int .i64 q, .int .i64 c, .int .i64 k]) := (hX ⟨1, .data⟩ (by simp) rfl (by simp) (by simp)).2 rfl
      have e2 : X 53 = (.slice (some ⟨g1, 0, none⟩) xs.length xs.length) := (hX ⟨2, .data⟩ (by simp) rfl (by simp) (by simp)).2 rfl
      have e3 : X 54 = (.agg #[.slice (some ⟨g2, 0, none⟩) os.length c2, .int .i64 sp, .int .i64 su]) := (hX ⟨3, .data⟩ (by simp) rfl (by simp) (by simp)).2 rfl
      have e4 : X 55 = .int .i64 (a3) := (hX ⟨4, .data⟩ (by simp) rfl (by simp) (by simp)).2 rfl
      have e5 : X 56 = .int .i64 (a4) := (hX ⟨5, .data⟩ (by simp) rfl (by simp) (by simp)).2 rfl
      have e6 : X 57 = .int .i64 (a5) := (hX ⟨6, .data⟩ (by simp) rfl (by simp) (by simp)).2 rfl
      go_simp
      refine (cI u' _ _ _ _ (hX1 u' hF) (hX2 u' hF)).mono ?_
      rintro x u2' ⟨⟨ga, ca, rfl, ha⟩, f'⟩
      exact ⟨.tuple #[.agg #[.slice ga OS.length ca, .int .i64 PA, .int .i64 UA], .bool BA], by simp [upd, sg10, e1, e2, e3, e4, e5, e6], f', ⟨_, rfl⟩, fun _ => ⟨ga, ca, rfl, AnsO.lower ha hFz⟩⟩
    · simp only [List.getElem?_toArray, List.getElem?_cons_succ, List.getElem?_cons_zero, Option.some.injEq] at ho
      subst ho
      refine ⟨by simp [Region.wanted], ?_⟩
      obtain ⟨ga, ca, e7, ha⟩ : ∃ ga ca, X 58 = .tuple #[.agg #[.slice ga OS.length ca, .int .i64 PA, .int .i64 UA], .bool BA] ∧ AnsO u' V.heap.size ga OS.length ca OS := (hX ⟨7, .data⟩ (by simp) rfl (by simp) (by simp)).2 rfl
      go_simp
      exact ⟨.tuple #[.agg #[.slice ga OS.length ca, .int .i64 PA, .int .i64 UA], .bool BA], by simp [upd, sg10, e7], Fr.refl _, ⟨_, rfl⟩, fun _ => ⟨ga, ca, rfl, ha⟩⟩
    · simp only [List.getElem?_toArray, List.getElem?_cons_succ, List.getElem?_cons_zero, Option.some.injEq] at ho
      subst ho
      refine ⟨by simp [Region.wanted], ?_⟩
      obtain ⟨ga, ca, e8, ha⟩ : ∃ ga ca, X 50 = .tuple #[.agg #[.slice ga OS.length ca, .int .i64 PA, .int .i64 UA], .bool BA] ∧ AnsO u' V.heap.size ga OS.length ca OS := (hX ⟨8, .data⟩ (by simp) rfl (by simp) (by simp)).2 rfl
      go_simp
      exact ⟨.agg #[.slice ga OS.length ca, .int .i64 PA, .int .i64 UA], by simp [upd, sg10, e8], Fr.refl _, trivial, fun _ => ⟨ga, ca, rfl, ha⟩⟩
    · simp only [List.getElem?_toArray, List.getElem?_cons_succ, List.getElem?_cons_zero, Option.some.injEq] at ho
      subst ho
      refine ⟨by simp [Region.wanted], ?_⟩
      obtain ⟨ta, e8⟩ : ∃ ta, X 50 = .tuple #[ta, .bool BA] := (hX ⟨8, .data⟩ (by simp) rfl (by simp) (by simp)).1
      go_simp
      exact ⟨.bool BA, by simp [upd, sg10, e8], Fr.refl _, rfl, fun h => by simp [kd10] at h⟩
    · exact absurd rfl h8
    · exact absurd rfl h9
    · simp only [List.getElem?_toArray, List.getElem?_cons_succ, List.getElem?_cons_zero, Option.some.injEq] at ho
      subst ho
      refine ⟨by simp [Region.wanted], ?_⟩
      have e10 : X 60 = .bool BA := (hX ⟨10, .data⟩ (by simp) rfl (by simp) (by simp)).1
      go_simp
      exact ⟨.bool BA, by simp [upd, sg10, e10], Fr.refl _, rfl, fun h => by simp [kd10] at h⟩
    · omega
  · intro o X u' ho hF
    simp only [List.getElem?_toArray, List.getElem?_cons_succ, List.getElem?_cons_zero, Option.some.injEq] at ho
    subst ho
    refine ⟨by simp [Region.wanted], ?_⟩
    have HZ : Hid (KyZ (u'.alloc (.cells #[.slice none 0 0, .int .i64 0, .int .i64 0] 33)) u'.heap.size 33 #[.slice none 0 0, .int .i64 0, .int .i64 0]) := heap_alloc_new u' _
    go_simp
    refine ⟨u'.heap.size, ?_, Fr.alloc _ _, Nat.le_refl _, HZ.out⟩
    simp [upd, sg10]
  · intro o X p' u' ho hF hp z hp2 hX
    simp only [List.getElem?_toArray, List.getElem?_cons_succ, List.getElem?_cons_zero, Option.some.injEq] at ho
    subst ho
    refine ⟨by simp [Region.wanted], ?_⟩
    obtain ⟨ga, ca, e6, ha⟩ : ∃ ga ca, X 59 = .agg #[.slice ga OS.length ca, .int .i64 PA, .int .i64 UA] ∧ AnsO u' V.heap.size ga OS.length ca OS := hX ⟨9, .data⟩ (by simp) rfl (by simp) (by simp)
    have e8 : X 18 = _ := hp2
    have z : KyZ u' p' 33 #[.slice none 0 0, .int .i64 0, .int .i64 0] := z
    have n0 := fun i => z.free i
    obtain ⟨z0, z1, z2⟩ := z.c3
    have gg := grown_trans (grown_trans (grown_set u' p' 0 (.slice ga OS.length ca)) (grown_set _ p' 1 (.int .i64 PA))) (grown_set _ p' 2 (.int .i64 UA))
    have HZ : Hid (∃ ga' ca', KyZ (((u'.setCell ⟨p', 0, none⟩ (.slice ga OS.length ca)).setCell ⟨p', 1, none⟩ (.int .i64 PA)).setCell ⟨p', 2, none⟩ (.int .i64 UA)) p' 33 #[.slice ga' OS.length ca', .int .i64 PA, .int .i64 UA] ∧ AnsO (((u'.setCell ⟨p', 0, none⟩ (.slice ga OS.length ca)).setCell ⟨p', 1, none⟩ (.int .i64 PA)).setCell ⟨p', 2, none⟩ (.int .i64 UA)) V.heap.size ga' OS.length ca' OS) := ⟨ga, ca, ((z.put0 _).put1 _).put2 _, ha.keep gg (fun j hj e => ha.ne z (by decide) j hj (by cases e; rfl))⟩
    have HG : Hid (u'.grownBy (((u'.setCell ⟨p', 0, none⟩ (.slice ga OS.length ca)).setCell ⟨p', 1, none⟩ (.int .i64 PA)).setCell ⟨p', 2, none⟩ (.int .i64 UA)) (some p')) := gg
    clear gg ha z hp2 hX
    go_simp
    exact ⟨HG.out, HZ.out⟩
  intro X p18 u5 F10 hp10 hz10 eA hPu
  obtain ⟨ga10, ca10, kz10, an10⟩ : ∃ ga ca, KyZ u5 p18 33 #[.slice ga OS.length ca, .int .i64 PA, .int .i64 UA] ∧ AnsO u5 V.heap.size ga OS.length ca OS := hz10
  have eB : X 19 = .bool BA := hPu 13 (by omega) (by omega) (by omega)
  have eC : X 18 = _ := eA
  simp only [eC, eB]
  clear eA eC eB hPu
  generalize X 51 = y51
  generalize X 52 = y52
  generalize X 53 = y53
  generalize X 54 = y54
  generalize X 55 = y55
  generalize X 56 = y56
  generalize X 57 = y57
  generalize X 58 = y58
  generalize X 50 = y50
  generalize X 59 = y59
  generalize X 60 = y60
  clear X
  have f5 := F5.trans F10
  have k17 := k17.fr F10
  have kz7 := kz7.fr F10
  have an7 := an7.fr F10
  have O1 : OwnI u5 _ _ _ := ⟨O1.1.kept F10 (by simp [Value.ownBlock]), O1.2⟩
  have O2 := O2.fr F10
  have HM : Hid (V.heap.size ≤ p18 ∧ ∀ j, blk ga10 = some j → V.heap.size ≤ j) := ⟨hp10, fun j hj => (an10.lt j hj).1⟩
  clear F10 hp10 hX1 hX2 x17 F5
  obtain ⟨l0, l1, l2⟩ := kz7.c3
  obtain ⟨m0, m1, m2⟩ := kz10.c3
  have hne : (BA != BA) = false := by simp
  go_wp2_with fail
  refine (eqSm_same ga10 ga7 OS.length ca10 ca7 PA UA OS _ rfl an10.reads an7.reads).mono ?_
  rintro e u6 ⟨rfl, f6⟩
  clear l0 l1 l2 m0 m1 m2
  have f5 := f5.trans f6
  have k17 := k17.fr f6
  have kz7 := kz7.fr f6
  have an7 := an7.fr f6
  have kz10 := kz10.fr f6
  have an10 := an10.fr f6
  have O1 : OwnI u6 _ _ _ := ⟨O1.1.kept f6 (by simp [Value.ownBlock]), O1.2⟩
  have O2 := O2.fr f6
  clear f6
  go_wp2_with fail
  refine (cX _ (cq u6 f5).2.2.2.1).mono ?_
  rintro e u7 ⟨rfl, O3, f6⟩
  have f5 := f5.trans f6
  have k17 := k17.fr f6
  have kz7 := kz7.fr f6
  have an7 := an7.fr f6
  have kz10 := kz10.fr f6
  have an10 := an10.fr f6
  have O1 : OwnI u7 _ _ _ := ⟨O1.1.kept f6 (by simp [Value.ownBlock]), O1.2⟩
  have O2 := O2.fr f6
  clear f6
  go_wp2_with fail
  refine (eqI_any _ _ _ _ _ _ xs xs _ rfl rfl O1.reads O3.reads).mono ?_
  rintro e u8 ⟨rfl, nq, rfl⟩
  have f6 := Fr.drewN u7 nq
  have f5 := f5.trans f6
  have k17 := k17.fr f6
  have kz7 := kz7.fr f6
  have an7 := an7.fr f6
  have kz10 := kz10.fr f6
  have an10 := an10.fr f6
  have O1 : OwnI _ _ _ _ := ⟨O1.1.kept f6 (by simp [Value.ownBlock]), O1.2⟩
  have O2 := O2.fr f6
  obtain ⟨u8, hu8⟩ : ∃ u8, u8 = u7.drewN nq := ⟨_, rfl⟩
  rw [← hu8] at f5 k17 kz7 an7 kz10 an10 O1 O2 ⊢
  clear f6 O3 hu8
  obtain ⟨-, zS, hSr, -, -⟩ := cq u8 f5
  obtain ⟨z0, z1, z2⟩ := zS.c3
  obtain ⟨v0, v1, v2⟩ := k17.c3
  go_upto_region 15 with fail
  go_region_held3 (fun u => u.cell? ⟨w.heap.size + 1, 0, none⟩ = some (.slice so os.length sc) ∧ u.cell? ⟨w.heap.size + 1, 1, none⟩ = some (.int .i64 sp) ∧ u.cell? ⟨w.heap.size + 1, 2, none⟩ = some (.int .i64 su) ∧ u.cell? ⟨b17, 0, none⟩ = some (.slice (some ⟨g2, 0, none⟩) os.length c2) ∧ u.cell? ⟨b17, 1, none⟩ = some (.int .i64 sp) ∧ u.cell? ⟨b17, 2, none⟩ = some (.int .i64 su)) (go_keep)
    (first | (go_at_call 9; refine (cM _ (cq _ (f5.trans (Fr.drew u8))).2.2.1).mono ?_; rintro x u9 ⟨g3, c3, rfl, O8, f8⟩; have k8 := (Fr.drew u8).trans f8; obtain ⟨z3, z4, z5⟩ := (cq u9 (f5.trans k8)).2.1.c3; obtain ⟨v3, v4, v5⟩ := (k17.fr k8).c3) | (go_at_call 11; refine (eqSm_same _ _ _ _ _ _ _ os _ rfl ((ownG_readsO O2).fr k8) (ownG_readsO O8)).mono ?_; rintro x u10 ⟨rfl, f9⟩; have k9 := k8.trans f9; obtain ⟨z6, z7, z8⟩ := (cq u10 (f5.trans k9)).2.1.c3; obtain ⟨v6, v7, v8⟩ := (k17.fr k9).c3))
  have f5 := f5.trans k9
  have k17 := k17.fr k9
  have kz7 := kz7.fr k9
  have an7 := an7.fr k9
  have kz10 := kz10.fr k9
  have an10 := an10.fr k9
  have O1 : OwnI u10 _ _ _ := ⟨O1.1.kept k9 (by simp [Value.ownBlock]), O1.2⟩
  have O2 := O2.fr k9
  have hxl : xs.length ≤ 1048576 := by omega
  have hol := an10.reads.len
  clear k8 k9 f8 f9 O8 zS hSr z0 z1 z2 z3 z4 z5 z6 z7 z8 v0 v1 v2 v3 v4 v5 v6 v7 v8
  go_wp2_with fail
  refine (mark_any g1 xs.length xs.length _ 1 xs _ rfl (by omega) (by omega) O1).mono ?_
  rintro e u11 ⟨rfl, -, k6⟩
  have HNN := HN.out
  have HMM := HM.out
  have hz0 := hz1.out
  have f5 := f5.then k6 (fun j e => by cases e; omega)
  have k17 := k17.keep k6 (by simp; omega)
  have kz7 := kz7.keep k6 (by simp; omega)
  have an7 := an7.keep k6 (fun j hj e => by cases e; have := HNN.2.2.2.2.2.2.2 g1 hj; omega)
  have kz10 := kz10.keep k6 (by simp; omega)
  have an10 := an10.keep k6 (fun j hj e => by cases e; have := HMM.2 g1 hj; omega)
  have O2 := O2.keep k6 (by simp [Value.ownBlock]; omega)
  clear k6 O1 HNN HMM hz0
  obtain ⟨v0, v1, v2⟩ := k17.c3
  go_wp2_with fail
  refine (markSm_any g2 os.length c2 _ (1 + (xs.length : Int)) sp su os _ rfl (by omega) (by omega) O2).mono ?_
  rintro e u12 ⟨rfl, -, k6⟩
  clear v0 v1 v2
  have HNN := HN.out
  have HMM := HM.out
  have f5 := f5.then k6 (fun j e => by cases e; omega)
  have kz7 := kz7.keep k6 (by simp; omega)
  have an7 := an7.keep k6 (fun j hj e => by cases e; have := HNN.2.2.2.2.2.2.2 g2 hj; omega)
  have kz10 := kz10.keep k6 (by simp; omega)
  have an10 := an10.keep k6 (fun j hj e => by cases e; have := HMM.2 g2 hj; omega)
  clear k6 O2 HNN HMM k17
  obtain ⟨l0, l1, l2⟩ := kz7.c3
  obtain ⟨m0, m1, m2⟩ := kz10.c3
  obtain ⟨KK, hKK⟩ : ∃ KK : Int, KK = 1 + (xs.length : Int) + 5 * (os.length : Int) := ⟨_, rfl⟩
  have hK0 : decide (KK < 0) = false := decide_eq_false (by omega)
  simp only [← hKK]
  clear hKK
  go_wp2_with fail
  refine (eqSm_same ga10 ga7 OS.length ca10 ca7 PA UA OS _ rfl an10.reads an7.reads).mono ?_
  rintro e u13 ⟨rfl, f6⟩
  clear l0 l1 l2 m0 m1 m2
  have f5 := f5.trans f6
  have kz7 := kz7.fr f6
  have an7 := an7.fr f6
  have kz10 := kz10.fr f6
  have an10 := an10.fr f6
  clear f6
  obtain ⟨m0, m1, m2⟩ := kz10.c3
  go_wp2_with fail
  refine (markAns_any ga10 OS.length ca10 _ 1 PA UA OS _ (by omega) (by omega) an10).mono ?_
  rintro e u14 ⟨rfl, an11, k6⟩
  clear m0 m1 m2
  have HNN := HN.out
  have HMM := HM.out
  have f5 := f5.then k6 (fun j e => by have := HMM.2 j e; omega)
  have kz7 := kz7.keep k6 (fun e => by have := HMM.2 p14 e; omega)
  have an7 := an7.keep k6 (fun j hj e => by have := HMM.2 j e; have := HNN.2.2.2.2.2.2.2 j hj; omega)
  have kz10 := kz10.keep k6 (fun e => an10.ne kz10 (by decide) p18 e rfl)
  clear k6 an10 HNN HMM
  obtain ⟨m0, m1, m2⟩ := kz10.c3
  obtain ⟨QQ, hQQ⟩ : ∃ QQ : Int, QQ = 1 + 5 * (OS.length : Int) := ⟨_, rfl⟩
  have cH := fun u h => heldSm_any ga10 OS.length ca10 1 PA UA u (by omega) (by omega) h
  rw [← hQQ] at cH
  have hQ0 : decide (QQ < 0) = false := decide_eq_false (by omega)
  simp only [← hQQ]
  clear hQQ
  go_wp2_with fail
  refine (cH _ an11.reads).mono ?_
  rintro e u15 ⟨rfl, f6⟩
  clear m0 m1 m2
  have f5 := f5.trans f6
  have kz7 := kz7.fr f6
  have an7 := an7.fr f6
  have kz10 := kz10.fr f6
  have an11 := an11.fr f6
  clear f6
  go_upto_region 30 with fail
  have hlW := Nat.le_refl u15.heap.size
  refine wp_region_boxR 16 13 14 sg30 (fun X => { tmps := #[(.agg #[.int .i64 r, .int .i64 s, .int .i64 b, .int .i64 m, .int .i64 q, .int .i64 c, .int .i64 k]), .slice a1 xs.length cap1, (.agg #[.slice so os.length sc, .int .i64 sp, .int .i64 su]), .int .i64 (a3), .int .i64 (a4), .int .i64 (a5), .pointer (some ⟨w.heap.size, 0, none⟩), undef, .pointer (some ⟨w.heap.size + 1, 0, none⟩), undef, undef, undef, .bool false, .int .i64 (1048576 - (os.length : Int)), .pointer (some ⟨p14, 0, none⟩), .bool BA, .slice (some ⟨g1, 0, none⟩) xs.length xs.length, .pointer (some ⟨b17, 0, none⟩), .pointer (some ⟨p18, 0, none⟩), .bool BA, _, _, _, X 23, X 24, .slice a1 xs.length cap1, .int .i64 ((xs.length : Int)), .bool (decide ((1048576 : Int) < (xs.length : Int))), (.agg #[.slice so os.length sc, .int .i64 sp, .int .i64 su]), .int .i64 (1048576), .int .i64 (1048576 - (os.length : Int)), .int .i64 (1048576 - (os.length : Int)), .bool (decide (1048576 - (os.length : Int) < 0)), y33, y34, y35, y36, y37, y38, y39, y40, y41, y42, y43, y44, y45, .slice a1 xs.length cap1, .slice (some ⟨g1, 0, none⟩) xs.length xs.length, (.agg #[.slice so os.length sc, .int .i64 sp, .int .i64 su]), .agg #[.slice (some ⟨g2, 0, none⟩) os.length c2, .int .i64 sp, .int .i64 su], _, _, _, _, _, _, _, _, _, _, _, _, _, _, _, _, _, _, _, _, _, _, _, _, _, _, _, _, _, _, _, _, _, _, _, _, _, _, _, _, _, _, _, _, _, _, _, _, _, _, _, _, _, _, _, _, _, _, _, _, X 110, X 111, X 112, X 113, X 114, X 115, X 116, X 117, X 118, X 119, X 120, X 121, X 122, _, _, _, _, _, _, _, _, _, _, _, _, _, _, _, _, _], defers := [] }) (RKL (.agg #[.int .i64 r, .int .i64 s, .int .i64 b, .int .i64 m, .int .i64 q, .int .i64 c, .int .i64 k]) (.slice a1 xs.length cap1) ((.agg #[.slice so os.length sc, .int .i64 sp, .int .i64 su])) a3 a4 a5 xs os OS sp su PA UA BA u15.heap.size kd30) (PKL BA kd30) (fun i => decide (kd30 i = 10)) (fun u p t => if t then ∃ ga ca, KyZ u p 33 #[.slice ga OS.length ca, .int .i64 PA, .int .i64 UA] ∧ AnsO u u15.heap.size ga OS.length ca OS else KyZ u p 33 #[.slice none 0 0, .int .i64 0, .int .i64 0]) (by kernel_rfl) (by kernel_rfl) (by kernel_rfl) (by omega) (by omega) (by omega) (dst_of (by kernel_rfl)) (ZKL_fr) (RKL_fr) (fun _ => undef) rfl (fun o ho => ?_) (by kernel_rfl) ?_ (PKL_late) ?_ ?_ ?_
  · simp only [List.getElem?_toArray, List.getElem?_cons_succ, List.getElem?_cons_zero, Option.some.injEq] at ho
    subst ho
    exact ⟨⟨13, .data⟩, by simp, rfl, rfl⟩
  · intro i o X u' hi h8 h9 ho hF hX
    obtain ⟨⟨k0, k1, k2, k3, k4, k5, k6⟩, zS, hSr, hXr, -⟩ := cq u' (f5.trans hF)
    simp only [Nat.zero_add] at k0 k1 k2 k3 k4 k5 k6
    obtain ⟨z0, z1, z2⟩ := zS.c3
    have hFz := hF.size
    clear zS
    rcases i with _ | _ | _ | _ | _ | _ | _ | _ | _ | _ | _ | _ | _ | _ | _ | _ | i
    · simp only [List.getElem?_toArray, List.getElem?_cons_zero, Option.some.injEq] at ho
      subst ho
      refine ⟨by simp [Region.wanted], ?_⟩
      go_simp
      exact ⟨(.agg #[.int .i64 r, .int .i64 s, .int .i64 b, .int .i64 m, .int .i64 q, .int .i64 c, .int .i64 k]), by simp [upd, sg30], Fr.refl _, trivial, fun _ => rfl⟩
    · simp only [List.getElem?_toArray, List.getElem?_cons_succ, List.getElem?_cons_zero, Option.some.injEq] at ho
      subst ho
      refine ⟨by simp [Region.wanted], ?_⟩
      have e0 : X 111 = (.agg #[.int .i64 r, .int .i64 s, .int .i64 b, .int .i64 m, .int .i64 q, .int .i64 c, .int .i64 k]) := (hX ⟨0, .data⟩ (by simp) rfl (by simp) (by simp)).2 rfl
      go_simp
      refine (cT u').mono ?_
      rintro x u2' ⟨rfl, f'⟩
      exact ⟨(.agg #[.int .i64 r, .int .i64 s, .int .i64 b, .int .i64 m, .int .i64 q, .int .i64 c, .int .i64 k]), by simp [upd, sg30, e0], f', trivial, fun _ => rfl⟩
    · simp only [List.getElem?_toArray, List.getElem?_cons_succ, List.getElem?_cons_zero, Option.some.injEq] at ho
      subst ho
      refine ⟨by simp [Region.wanted], ?_⟩
      go_simp
      exact ⟨(.slice a1 xs.length cap1), by simp [upd, sg30], Fr.refl _, trivial, fun _ => rfl⟩
    · simp only [List.getElem?_toArray, List.getElem?_cons_succ, List.getElem?_cons_zero, Option.some.injEq] at ho
      subst ho
      refine ⟨by simp [Region.wanted], ?_⟩
      have e2 : X 113 = (.slice a1 xs.length cap1) := (hX ⟨2, .data⟩ (by simp) rfl (by simp) (by simp)).2 rfl
      go_simp
      refine (cX u' hXr).mono ?_
      rintro x u2' ⟨rfl, o', f'⟩
      exact ⟨_, by simp [upd, sg30, e2]; rfl, f', trivial, fun _ => ⟨_, _, rfl, o'.reads⟩⟩
    · simp only [List.getElem?_toArray, List.getElem?_cons_succ, List.getElem?_cons_zero, Option.some.injEq] at ho
      subst ho
      refine ⟨by simp [Region.wanted], ?_⟩
      go_simp
      exact ⟨((.agg #[.slice so os.length sc, .int .i64 sp, .int .i64 su])), by simp [upd, sg30], Fr.refl _, trivial, fun _ => rfl⟩
    · simp only [List.getElem?_toArray, List.getElem?_cons_succ, List.getElem?_cons_zero, Option.some.injEq] at ho
      subst ho
      refine ⟨by simp [Region.wanted], ?_⟩
      have e4 : X 115 = ((.agg #[.slice so os.length sc, .int .i64 sp, .int .i64 su])) := (hX ⟨4, .data⟩ (by simp) rfl (by simp) (by simp)).2 rfl
      go_simp
      refine (cM u' hSr).mono ?_
      rintro x u2' ⟨g', c', rfl, o', f'⟩
      exact ⟨_, by simp [upd, sg30, e4]; rfl, f', trivial, fun _ => ⟨_, _, rfl, ownG_readsO o'⟩⟩
    · simp only [List.getElem?_toArray, List.getElem?_cons_succ, List.getElem?_cons_zero, Option.some.injEq] at ho
      subst ho
      refine ⟨by simp [Region.wanted], ?_⟩
      go_simp
      exact ⟨.int .i64 (a3), by simp [upd, sg30], Fr.refl _, trivial, fun _ => rfl⟩
    · simp only [List.getElem?_toArray, List.getElem?_cons_succ, List.getElem?_cons_zero, Option.some.injEq] at ho
      subst ho
      refine ⟨by simp [Region.wanted], ?_⟩
      go_simp
      exact ⟨.int .i64 (a4), by simp [upd, sg30], Fr.refl _, trivial, fun _ => rfl⟩
    · simp only [List.getElem?_toArray, List.getElem?_cons_succ, List.getElem?_cons_zero, Option.some.injEq] at ho
      subst ho
      refine ⟨by simp [Region.wanted], ?_⟩
      go_simp
      exact ⟨.int .i64 (a5), by simp [upd, sg30], Fr.refl _, trivial, fun _ => rfl⟩
    · simp only [List.getElem?_toArray, List.getElem?_cons_succ, List.getElem?_cons_zero, Option.some.injEq] at ho
      subst ho
      refine ⟨by simp [Region.wanted], ?_⟩
      have e1 : X 112 = (.agg #[.int .i64 r, .int .i64 s, .int .i64 b, .int .i64 m, .int .i64 q, .int .i64 c, .int .i64 k]) := (hX ⟨1, .data⟩ (by simp) rfl (by simp) (by simp)).2 rfl
      obtain ⟨gx, kx, e3, rx⟩ : ∃ gx kx, X 114 = .slice (some ⟨gx, 0, none⟩) xs.length kx ∧ Reads u' (some ⟨gx, 0, none⟩) xs := (hX ⟨3, .data⟩ (by simp) rfl (by simp) (by simp)).2 rfl
      obtain ⟨gy, ky, e5, ry⟩ : ∃ gy ky, X 116 = .agg #[.slice (some ⟨gy, 0, none⟩) os.length ky, .int .i64 sp, .int .i64 su] ∧ ReadsG LO u' (some ⟨gy, 0, none⟩) os := (hX ⟨5, .data⟩ (by simp) rfl (by simp) (by simp)).2 rfl
      have e6 : X 117 = .int .i64 (a3) := (hX ⟨6, .data⟩ (by simp) rfl (by simp) (by simp)).2 rfl
      have e7 : X 118 = .int .i64 (a4) := (hX ⟨7, .data⟩ (by simp) rfl (by simp) (by simp)).2 rfl
      have e8 : X 119 = .int .i64 (a5) := (hX ⟨8, .data⟩ (by simp) rfl (by simp) (by simp)).2 rfl
      go_simp
      refine (cI u' _ _ _ _ rx ry).mono ?_
      rintro x u2' ⟨⟨ga, ca, rfl, ha⟩, f'⟩
      exact ⟨.tuple #[.agg #[.slice ga OS.length ca, .int .i64 PA, .int .i64 UA], .bool BA], by simp [upd, sg30, e1, e3, e5, e6, e7, e8], f', ⟨_, rfl⟩, fun _ => ⟨ga, ca, rfl, AnsO.lower ha hFz⟩⟩
    · simp only [List.getElem?_toArray, List.getElem?_cons_succ, List.getElem?_cons_zero, Option.some.injEq] at ho
      subst ho
      refine ⟨by simp [Region.wanted], ?_⟩
      obtain ⟨ga, ca, e9, ha⟩ : ∃ ga ca, X 120 = .tuple #[.agg #[.slice ga OS.length ca, .int .i64 PA, .int .i64 UA], .bool BA] ∧ AnsO u' u15.heap.size ga OS.length ca OS := (hX ⟨9, .data⟩ (by simp) rfl (by simp) (by simp)).2 rfl
      go_simp
      exact ⟨.tuple #[.agg #[.slice ga OS.length ca, .int .i64 PA, .int .i64 UA], .bool BA], by simp [upd, sg30, e9], Fr.refl _, ⟨_, rfl⟩, fun _ => ⟨ga, ca, rfl, ha⟩⟩
    · simp only [List.getElem?_toArray, List.getElem?_cons_succ, List.getElem?_cons_zero, Option.some.injEq] at ho
      subst ho
      refine ⟨by simp [Region.wanted], ?_⟩
      obtain ⟨ga, ca, e10, ha⟩ : ∃ ga ca, X 110 = .tuple #[.agg #[.slice ga OS.length ca, .int .i64 PA, .int .i64 UA], .bool BA] ∧ AnsO u' u15.heap.size ga OS.length ca OS := (hX ⟨10, .data⟩ (by simp) rfl (by simp) (by simp)).2 rfl
      go_simp
      exact ⟨.agg #[.slice ga OS.length ca, .int .i64 PA, .int .i64 UA], by simp [upd, sg30, e10], Fr.refl _, trivial, fun _ => ⟨ga, ca, rfl, ha⟩⟩
    · simp only [List.getElem?_toArray, List.getElem?_cons_succ, List.getElem?_cons_zero, Option.some.injEq] at ho
      subst ho
      refine ⟨by simp [Region.wanted], ?_⟩
      obtain ⟨ta, e10⟩ : ∃ ta, X 110 = .tuple #[ta, .bool BA] := (hX ⟨10, .data⟩ (by simp) rfl (by simp) (by simp)).1
      go_simp
      exact ⟨.bool BA, by simp [upd, sg30, e10], Fr.refl _, rfl, fun h => by simp [kd30] at h⟩
    · exact absurd rfl h8
    · exact absurd rfl h9
    · simp only [List.getElem?_toArray, List.getElem?_cons_succ, List.getElem?_cons_zero, Option.some.injEq] at ho
      subst ho
      refine ⟨by simp [Region.wanted], ?_⟩
      have e12 : X 122 = .bool BA := (hX ⟨12, .data⟩ (by simp) rfl (by simp) (by simp)).1
      go_simp
      exact ⟨.bool BA, by simp [upd, sg30, e12], Fr.refl _, rfl, fun h => by simp [kd30] at h⟩
    · omega
  · intro o X u' ho hF
    simp only [List.getElem?_toArray, List.getElem?_cons_succ, List.getElem?_cons_zero, Option.some.injEq] at ho
    subst ho
    refine ⟨by simp [Region.wanted], ?_⟩
    have HZ : Hid (KyZ (u'.alloc (.cells #[.slice none 0 0, .int .i64 0, .int .i64 0] 33)) u'.heap.size 33 #[.slice none 0 0, .int .i64 0, .int .i64 0]) := heap_alloc_new u' _
    go_simp
    refine ⟨u'.heap.size, ?_, Fr.alloc _ _, Nat.le_refl _, HZ.out⟩
    simp [upd, sg30]
  · intro o X p' u' ho hF hp z hp2 hX
    simp only [List.getElem?_toArray, List.getElem?_cons_succ, List.getElem?_cons_zero, Option.some.injEq] at ho
    subst ho
    refine ⟨by simp [Region.wanted], ?_⟩
    obtain ⟨ga, ca, e6, ha⟩ : ∃ ga ca, X 121 = .agg #[.slice ga OS.length ca, .int .i64 PA, .int .i64 UA] ∧ AnsO u' u15.heap.size ga OS.length ca OS := hX ⟨11, .data⟩ (by simp) rfl (by simp) (by simp)
    have e8 : X 23 = _ := hp2
    have z : KyZ u' p' 33 #[.slice none 0 0, .int .i64 0, .int .i64 0] := z
    have n0 := fun i => z.free i
    obtain ⟨z0, z1, z2⟩ := z.c3
    have gg := grown_trans (grown_trans (grown_set u' p' 0 (.slice ga OS.length ca)) (grown_set _ p' 1 (.int .i64 PA))) (grown_set _ p' 2 (.int .i64 UA))
    have HZ : Hid (∃ ga' ca', KyZ (((u'.setCell ⟨p', 0, none⟩ (.slice ga OS.length ca)).setCell ⟨p', 1, none⟩ (.int .i64 PA)).setCell ⟨p', 2, none⟩ (.int .i64 UA)) p' 33 #[.slice ga' OS.length ca', .int .i64 PA, .int .i64 UA] ∧ AnsO (((u'.setCell ⟨p', 0, none⟩ (.slice ga OS.length ca)).setCell ⟨p', 1, none⟩ (.int .i64 PA)).setCell ⟨p', 2, none⟩ (.int .i64 UA)) u15.heap.size ga' OS.length ca' OS) := ⟨ga, ca, ((z.put0 _).put1 _).put2 _, ha.keep gg (fun j hj e => ha.ne z (by decide) j hj (by cases e; rfl))⟩
    have HG : Hid (u'.grownBy (((u'.setCell ⟨p', 0, none⟩ (.slice ga OS.length ca)).setCell ⟨p', 1, none⟩ (.int .i64 PA)).setCell ⟨p', 2, none⟩ (.int .i64 UA)) (some p')) := gg
    clear gg ha z hp2 hX
    go_simp
    exact ⟨HG.out, HZ.out⟩
  intro X p23 u16 F30 hp30 hz30 eA hPu
  obtain ⟨ga30, ca30, kz30, an30⟩ : ∃ ga ca, KyZ u16 p23 33 #[.slice ga OS.length ca, .int .i64 PA, .int .i64 UA] ∧ AnsO u16 u15.heap.size ga OS.length ca OS := hz30
  have eB : X 24 = .bool BA := hPu 15 (by omega) (by omega) (by omega)
  have eC : X 23 = _ := eA
  simp only [eC, eB]
  clear eA eC eB hPu
  generalize X 111 = y111
  generalize X 112 = y112
  generalize X 113 = y113
  generalize X 114 = y114
  generalize X 115 = y115
  generalize X 116 = y116
  generalize X 117 = y117
  generalize X 118 = y118
  generalize X 119 = y119
  generalize X 120 = y120
  generalize X 110 = y110
  generalize X 121 = y121
  generalize X 122 = y122
  clear X
  have f5 := f5.trans F30
  have kz7 := kz7.fr F30
  have an7 := an7.fr F30
  have kz10 := kz10.fr F30
  have an11 := an11.fr F30
  clear F30 hp30
  obtain ⟨l0, l1, l2⟩ := kz7.c3
  obtain ⟨m0, m1, m2⟩ := kz30.c3
  go_wp2_with fail
  refine (eqSm_same ga30 ga7 OS.length ca30 ca7 PA UA OS _ rfl an30.reads an7.reads).mono ?_
  rintro e u17 ⟨rfl, f6⟩
  clear l0 l1 l2 m0 m1 m2
  have f5 := f5.trans f6
  have kz10 := kz10.fr f6
  have an11 := an11.fr f6
  clear f6
  obtain ⟨m0, m1, m2⟩ := kz10.c3
  go_wp2_with fail
  refine (cH _ an11.reads).mono ?_
  rintro e u18 ⟨rfl, f6⟩
  go_wp2_with fail
  go_ret
  exact ⟨rfl, (cq _ (f5.trans f6)).2.2.2.2.below⟩

theorem own : ownKnob Try.prog.godebug = none := by kernel_rfl
theorem laidOut : laidOutB Try.prog = true := by kernel_rfl

set_option maxRecDepth 100000 in
theorem lifted (os : Os) (started : os.Started) (H : Type) (enc : TypeId × Value → H) :
    ReturnsInHanded {} Try.checked os 5 .any (Rows.fnExactLookSpec.pre6 enc Try.prog Try.f5 Rows.fnExactLookRow.domain false) (Rows.fnExactLookSpec.post enc Try.prog Try.f5 false true false false) := by
  refine returnsInHanded_of_change (C := Try.checked) own started (by kernel_rfl) Try.func5
    (ChangeSpec.witness6 (enc := enc) (C := Try.checked) false ⟨#[], #[.agg #[.int .i64 0, .int .i64 0, .int .i64 0, .int .i64 0, .int .i64 0, .int .i64 0, .int .i64 0], .slice none 0 0, .agg #[.slice none 0 0, .int .i64 0, .int .i64 0], .int .i64 0, .int .i64 0, .int .i64 0], []⟩ 8 (by kernel_rfl) (by kernel_rfl) (by kernel_rfl) (by kernel_rfl)) ?_
  intro W base args ds gs before hval0 hW hcnd _
  have hval : ∀ (j : Nat) t v, Try.f5.params[j]? = some t → args[j]? = some v → Value.okWide Try.prog W .any base t v := hval0
  have hW' := hW
  obtain ⟨p, q, hA0, hV, rfl, hfz, hnd⟩ := hW
  have hA : DataW.TrodAll enc Try.prog W 0 (fun _ => true) true Try.f5.params.toList args.toList ds p := hA0
  rw [Try.params5] at hA hval
  obtain ⟨v0, vs0, d0, ds0, p0, q0, hargs, rfl, rfl, h0, r0⟩ := trodAll_cons hA
  obtain ⟨v1, vs1, d1, ds1, p1, q1, rfl, rfl, rfl, h1, r1⟩ := trodAll_cons r0
  obtain ⟨v2, vs2, d2, ds2, p2, q2, rfl, rfl, rfl, h2, r2⟩ := trodAll_cons r1
  obtain ⟨v3, vs3, d3, ds3, p3, q3, rfl, rfl, rfl, h3, r3⟩ := trodAll_cons r2
  obtain ⟨v4, vs4, d4, ds4, p4, q4, rfl, rfl, rfl, h4, r4⟩ := trodAll_cons r3
  obtain ⟨v5, vs5, d5, ds5, p5, q5, rfl, rfl, rfl, h5, r5⟩ := trodAll_cons r4
  obtain ⟨rfl, rfl, rfl⟩ := trodAll_nil r5
  obtain rfl : args = #[v0, v1, v2, v3, v4, v5] := by cases args; simp_all
  have k0 := h0
  have lt0 : ∀ x ∈ p0, x.block < W.heap.size := by obtain ⟨m, hm⟩ := k0; exact DataW.trod_lt m _ _ _ hm
  have k1 := h1
  have lt1 : ∀ x ∈ p1, x.block < W.heap.size := by obtain ⟨m, hm⟩ := k1; exact DataW.trod_lt m _ _ _ hm
  have k2 := h2
  have lt2 : ∀ x ∈ p2, x.block < W.heap.size := by obtain ⟨m, hm⟩ := k2; exact DataW.trod_lt m _ _ _ hm
  have k3 := h3
  have lt3 : ∀ x ∈ p3, x.block < W.heap.size := by obtain ⟨m, hm⟩ := k3; exact DataW.trod_lt m _ _ _ hm
  have k4 := h4
  have lt4 : ∀ x ∈ p4, x.block < W.heap.size := by obtain ⟨m, hm⟩ := k4; exact DataW.trod_lt m _ _ _ hm
  have k5 := h5
  have lt5 : ∀ x ∈ p5, x.block < W.heap.size := by obtain ⟨m, hm⟩ := k5; exact DataW.trod_lt m _ _ _ hm
  obtain ⟨rfl, rfl⟩ := trodVars_none hV
  obtain ⟨c0, rfl, i0⟩ := cf_of_arg (hval 0 23 v0 rfl rfl) h0
  obtain ⟨a1, len1, cap1, rfl⟩ := okWide_slice Try.underlying40 (hval 1 40 v1 rfl rfl)
  obtain ⟨z1, w1⟩ : ∃ zs, IsRow .i64 W a1 len1 cap1 zs := by
    obtain ⟨fuel, hf⟩ := h1
    rcases open_ints Try.underlying40 Try.underlying2 (by kernel_rfl) hf with ⟨hcs, _⟩ | ⟨x, l, c, zs, hcs, _, hl, hm, hz, _, hcell, hwz⟩
    · simp [Value.cells] at hcs
      obtain ⟨rfl, rfl, rfl⟩ := hcs
      exact ⟨[], .inl ⟨rfl, rfl, rfl, rfl⟩⟩
    · simp [Value.cells] at hcs
      obtain ⟨rfl, rfl, rfl⟩ := hcs
      exact ⟨zs, .inr ⟨_, rfl, hl, hm, by simpa using hz, hcell, hwz⟩⟩
  obtain ⟨s2, rfl, i2⟩ := sm_of_arg (hval 2 26 v2 rfl rfl) h2
  obtain ⟨a3, rfl, -, -, w3⟩ := open_int Try.underlying2 (hval 3 2 v3 rfl rfl) h3
  obtain ⟨a4, rfl, -, -, w4⟩ := open_int Try.underlying2 (hval 4 2 v4 rfl rfl) h4
  obtain ⟨a5, rfl, -, -, w5⟩ := open_int Try.underlying2 (hval 5 2 v5 rfl rfl) h5
  clear hA0 hval0
  refine (walk c0 a1 len1 cap1 z1 s2 a3 a4 a5 W i0 w1 i2 w3 w4 w5).mono fun e W' ⟨he, bel⟩ => ?_
  subst he
  exact ⟨_, rfl, _, _, _, [], _, [], hW', trodAll_mk1 (shut_bool Try.underlying4 _), (trodAll_cons_mk (Below.trod laidOut (by kernel_rfl) (of_decide_eq_true (by kernel_rfl)) k0 bel lt0) (trodAll_cons_mk (Below.trod laidOut (by kernel_rfl) (of_decide_eq_true (by kernel_rfl)) k1 bel lt1) (trodAll_cons_mk (Below.trod laidOut (by kernel_rfl) (of_decide_eq_true (by kernel_rfl)) k2 bel lt2) (trodAll_cons_mk (Below.trod laidOut (by kernel_rfl) (of_decide_eq_true (by kernel_rfl)) k3 bel lt3) (trodAll_cons_mk (Below.trod laidOut (by kernel_rfl) (of_decide_eq_true (by kernel_rfl)) k4 bel lt4) (trodAll_cons_mk (Below.trod laidOut (by kernel_rfl) (of_decide_eq_true (by kernel_rfl)) k5 bel lt5) trodAll_mk0)))))), rfl, bel.frame _, fun h => by cases h⟩

theorem over : Rows.fnExactLookRow.holds Try.pinned (OpenSpec.ofChange Rows.fnExactLookSpec) :=
  OpenClaim.holds_of_wide 5 Try.f5 rfl rfl rfl rfl rfl rfl rfl ⟨rfl, rfl, rfl, rfl, rfl⟩ rfl rfl rfl rfl rfl (by kernel_rfl) Try.func5 (by kernel_rfl)
    (of_decide_eq_true (by kernel_rfl)) (by unfold Func.isWrapper; first | (rw [if_pos (by decide +kernel)]; kernel_rfl) | (rw [if_neg (by decide +kernel)]; exact ⟨rfl, rfl⟩))
    (fun os started H enc _ => lifted os started H enc)
end Go.Proofs.Ytkfcchapfklpgaa.fnExactLook
namespace Go.Proofs.Ytkfcchapfklpgaa
theorem fnExactLook_holds : Rows.FnExactLookSaid := fnExactLook.over
end Go.Proofs.Ytkfcchapfklpgaa
