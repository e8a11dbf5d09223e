/-
  The program's Look.
-/
import Derived.Test.YtkfcchapfklpgaaPackAH
import Derived.Test.YtkfcchapfklpgaaPackAI
import Derived.Test.YtkfcchapfklpgaaPackAK
import Derived.Test.YtkfcchapfklpgaaPackAL
import Derived.Test.YtkfcchapfklpgaaPackAC
import Derived.Test.YtkfcchapfklpgaaPackAB
import Derived.BigQuiet
import Derived.OwnWalk
import Derived.Deep.DeepCutAuto
import Derived.Test.YtkfcchapfklpgaaPackAA
namespace Go.Proofs.Ytkfcchapfklpgaa
open Go.RowKit
set_option linter.unusedSimpArgs false
set_option linter.unusedVariables false

theorem fr_kpw {lo : Nat} {a b c : World} (h : Fr a b) (k : KpW lo b c) (hl : a.heap.size ≤ lo) : Fr a c :=
  ⟨k.os.trans h.os, k.tape.trans h.tape, k.output.trans h.output, Nat.le_trans h.size k.size, fun i hi _ => (k.low i (by omega) (Nat.lt_of_lt_of_le hi h.size)).trans (h.block i hi (by simp))⟩
theorem lk_room {c : Cf} {xs : List Int} {s : Smp} {n g f : Int} : fullB c xs s n g f = !((getO s.os g f).isSome || decide (s.os.length < 300) || !onB c xs n) := by
  unfold fullB
  by_cases h : s.os.length < 300
  · rw [decide_eq_true h, decide_eq_false (show ¬ 300 ≤ s.os.length by omega)]; simp
  · rw [decide_eq_false h, decide_eq_true (show 300 ≤ s.os.length by omega)]
    cases onB c xs n <;> cases (getO s.os g f).isSome <;> rfl
theorem lk_no5 {c : Cf} {xs : List Int} {s : Smp} {n g f : Int} (h : stB c xs = false) : lkR c xs s n g f = false := by simp [lkR, lkOk, h]
theorem lk_no6 {c : Cf} {xs : List Int} {s : Smp} {n g f : Int} (h : (inB 0 15 g && inB 0 999 f) = false) : lkR c xs s n g f = false := by simp [lkR, lkOk, Bool.and_assoc, h]
theorem lk_yes2 {c : Cf} {xs : List Int} {s : Smp} {n g f : Int} (h0 : smB c s = true) (h1 : stB c xs = true) (h2 : inB 0 299 n = true) (h3 : (inB 0 15 g && inB 0 999 f) = true) : lkR c xs s n g f = !fullB c xs s n g f := by
  rw [Bool.and_eq_true] at h3
  simp [lkR, lkOk, h0, h1, h2, h3.1, h3.2]

set_option maxRecDepth 20000 in
set_option maxHeartbeats 16000000 in
theorem look_impl (c : Cf) (ao : Option Addr) (N cap : Nat) (xs : List Int) (so : Option Addr) (sn sc : Nat) (os : List Ow) (p u n g f : Int) (W : World) (hN : xs.length = N) (hn : os.length = sn) (hX : Reads W ao xs) (hS : ReadsG LO W so os) :
    Calls Try.prog 18 #[.agg #[.int .i64 c.r, .int .i64 c.s, .int .i64 c.b, .int .i64 c.m, .int .i64 c.q, .int .i64 c.c, .int .i64 c.w], .slice ao N cap, .agg #[.slice so sn sc, .int .i64 p, .int .i64 u], .int .i64 n, .int .i64 g, .int .i64 f] W fun e w' => LkOut c xs ⟨os, p, u⟩ n g f W w' e ∧ Fr W w' := by
  subst hN hn
  have cL := fun u => limited_any c u
  have c0 := fun u h => suits_any c ao xs.length cap xs u rfl h
  have c1 := fun u' h => smOk_impl c so os.length sc os p u u' rfl h
  have c2 := fun w => within_any n 0 299 w
  have c3 := fun w => kyOk_any g f w
  have f1 := Fr.alloc W (.cells #[.int .i64 c.r, .int .i64 c.s, .int .i64 c.b, .int .i64 c.m, .int .i64 c.q, .int .i64 c.c, .int .i64 c.w] 29)
  have aC := CfAt.new W c 29
  have f2 := Fr.alloc (W.alloc (.cells #[.int .i64 c.r, .int .i64 c.s, .int .i64 c.b, .int .i64 c.m, .int .i64 c.q, .int .i64 c.c, .int .i64 c.w] 29)) (.cells #[.slice so os.length sc, .int .i64 p, .int .i64 u] 33)
  have zS : KyZ ((W.alloc (.cells #[.int .i64 c.r, .int .i64 c.s, .int .i64 c.b, .int .i64 c.m, .int .i64 c.q, .int .i64 c.c, .int .i64 c.w] 29)).alloc (.cells #[.slice so os.length sc, .int .i64 p, .int .i64 u] 33)) (W.alloc (.cells #[.int .i64 c.r, .int .i64 c.s, .int .i64 c.b, .int .i64 c.m, .int .i64 c.q, .int .i64 c.c, .int .i64 c.w] 29)).heap.size 33 #[.slice so os.length sc, .int .i64 p, .int .i64 u] := heap_alloc_new _ _
  have f3 := Fr.alloc ((W.alloc (.cells #[.int .i64 c.r, .int .i64 c.s, .int .i64 c.b, .int .i64 c.m, .int .i64 c.q, .int .i64 c.c, .int .i64 c.w] 29)).alloc (.cells #[.slice so os.length sc, .int .i64 p, .int .i64 u] 33)) (.cells #[.slice none 0 0, .int .i64 0, .int .i64 0] 33)
  have zR : KyZ (((W.alloc (.cells #[.int .i64 c.r, .int .i64 c.s, .int .i64 c.b, .int .i64 c.m, .int .i64 c.q, .int .i64 c.c, .int .i64 c.w] 29)).alloc (.cells #[.slice so os.length sc, .int .i64 p, .int .i64 u] 33)).alloc (.cells #[.slice none 0 0, .int .i64 0, .int .i64 0] 33)) ((W.alloc (.cells #[.int .i64 c.r, .int .i64 c.s, .int .i64 c.b, .int .i64 c.m, .int .i64 c.q, .int .i64 c.c, .int .i64 c.w] 29)).alloc (.cells #[.slice so os.length sc, .int .i64 p, .int .i64 u] 33)).heap.size 33 #[.slice none 0 0, .int .i64 0, .int .i64 0] := heap_alloc_new _ _
  simp only [World.size_alloc] at zS zR
  replace aC := (aC.fr f2).fr f3
  replace zS := zS.fr f3
  have F := (f1.trans f2).trans f3
  have hR := hS.fr F
  have hXW : Hid (Reads W ao xs) := hX
  have hX := hX.fr F
  clear f1 f2 f3 hS
  obtain ⟨B0, hB0⟩ : ∃ B, B = stB c xs := ⟨_, rfl⟩
  obtain ⟨B1, hB1⟩ : ∃ B, B = smB c ⟨os, p, u⟩ := ⟨_, rfl⟩
  obtain ⟨B2, hB2⟩ : ∃ B, B = inB 0 299 n := ⟨_, rfl⟩
  obtain ⟨B3, hB3⟩ : ∃ B, B = (inB 0 15 g && inB 0 999 f) := ⟨_, rfl⟩
  simp only [← hB0] at c0
  simp only [← hB1] at c1
  simp only [← hB2] at c2
  simp only [← hB3] at c3
  have H0 : Hid (B0 = false → lkR c xs ⟨os, p, u⟩ n g f = false) := fun e => lk_no5 (by rw [← hB0]; exact e)
  have H1 : Hid (B1 = false → lkR c xs ⟨os, p, u⟩ n g f = false) := fun e => lk_no0 (by rw [← hB1]; exact e)
  have H2 : Hid (B2 = false → lkR c xs ⟨os, p, u⟩ n g f = false) := fun e => lk_no2 (by rw [← hB2]; exact e)
  have H3 : Hid (B3 = false → lkR c xs ⟨os, p, u⟩ n g f = false) := fun e => lk_no6 (by rw [← hB3]; exact e)
  have HB : Hid (B0 = stB c xs ∧ B1 = smB c ⟨os, p, u⟩ ∧ B2 = inB 0 299 n ∧ B3 = (inB 0 15 g && inB 0 999 f)) := ⟨hB0, hB1, hB2, hB3⟩
  clear hB0 hB1 hB2 hB3
  obtain ⟨Z, hZ⟩ : ∃ Z, Z = W.heap.size := ⟨_, rfl⟩
  have HZ : Hid (Z = W.heap.size) := hZ
  rw [← hZ] at aC zS zR
  clear hZ
  obtain ⟨V, hV⟩ : ∃ V, V = ((W.alloc (.cells #[.int .i64 c.r, .int .i64 c.s, .int .i64 c.b, .int .i64 c.m, .int .i64 c.q, .int .i64 c.c, .int .i64 c.w] 29)).alloc (.cells #[.slice so os.length sc, .int .i64 p, .int .i64 u] 33)).alloc (.cells #[.slice none 0 0, .int .i64 0, .int .i64 0] 33) := ⟨_, rfl⟩
  rw [← hV] at aC F zS zR hR hX
  have HQ : Hid (∀ w, Fr V w → CfAt w Z 0 c ∧ KyZ w (Z + 1) 33 #[.slice so os.length sc, .int .i64 p, .int .i64 u] ∧ KyZ w (Z + 1 + 1) 33 #[.slice none 0 0, .int .i64 0, .int .i64 0] ∧ ReadsG LO w so os ∧ Reads w ao xs ∧ Fr W w) := fun w k => ⟨aC.fr k, zS.fr k, zR.fr k, hR.fr k, hX.fr k, F.trans k⟩
  clear aC zS zR hR hX F
  have HZ1 : Hid (V.heap.size = Z + 1 + 1 + 1) := by rw [hV, HZ.out]; simp [Hid]
  obtain ⟨r, s, b, m, q, cc, cw⟩ := c
  simp only at cL c0 c1 hV
  go_enter Try.func18, Try.ntmps18
  go_upto_region 1 with fail
  rw [← hV]
  have hZ9 := HZ.out
  rw [← hZ9]
  clear hV hZ9
  have cq := (fun (w : World) (k : Fr V w) => HQ.out w k)
  obtain ⟨⟨ak0, ak1, ak2, ak3, ak4, ak5, ak6⟩, zS, zR, hR, hX, F⟩ := cq V (Fr.refl V)
  simp only [Nat.zero_add] at ak0 ak1 ak2 ak3 ak4 ak5 ak6
  go_wp2_with fail
  refine (cL _).mono ?_
  rintro e u1 ⟨rfl, k1⟩
  clear ak0 ak1 ak2 ak3 ak4 ak5 ak6 zS zR hR hX F cL
  go_upto_region 2 with (refine store_lc (c := ⟨r, s, b, m, q, cc, cw⟩) rfl (.tmp 14) (.tmp 19) rfl rfl rfl (heap_alloc_new _ _) rfl ?_; intro u2 kb g2)
  have k2 : Fr V u2 := (k1.trans (Fr.alloc _ _)).then g2 (by intro j hj; cases hj; exact k1.size)
  obtain ⟨LB, hLB⟩ : ∃ LB, LB = u1.heap.size := ⟨_, rfl⟩
  simp only [← hLB] at kb ⊢
  clear hLB g2 k1
  have kw : KyZ (u2.alloc (.cells #[.int .i64 g, .int .i64 f] 74)) u2.heap.size 74 #[.int .i64 g, .int .i64 f] := heap_alloc_new _ _
  have fw := Fr.alloc u2 (.cells #[.int .i64 g, .int .i64 f] 74)
  have kb := kb.fr fw
  have k3 := k2.trans fw
  obtain ⟨U, hU⟩ : ∃ U, U = u2.alloc (.cells #[.int .i64 g, .int .i64 f] 74) := ⟨_, rfl⟩
  obtain ⟨OB, hOB⟩ : ∃ OB, OB = u2.heap.size := ⟨_, rfl⟩
  rw [← hU] at kw kb k3
  rw [← hOB] at kw
  go_upto_region 3 with fail
  rw [← hU, ← hOB]
  clear hU hOB fw k2
  obtain ⟨⟨ak0, ak1, ak2, ak3, ak4, ak5, ak6⟩, zS, zR, hR, hX, F⟩ := cq U k3
  simp only [Nat.zero_add] at ak0 ak1 ak2 ak3 ak4 ak5 ak6
  go_wp2_with (refine load_lc (c := ⟨r, s, b, m, q, cc, cw⟩) rfl (.tmp 14) rfl rfl kb ?_)
  refine (c0 _ hX).mono ?_
  rintro e u4 ⟨rfl, k4⟩
  have kb := kb.fr k4
  have kw := kw.fr k4
  have k3 := k3.trans k4
  clear k4 ak0 ak1 ak2 ak3 ak4 ak5 ak6 zS zR hR hX F
  obtain ⟨⟨ak0, ak1, ak2, ak3, ak4, ak5, ak6⟩, zS, zR, hR, hX, F⟩ := cq u4 k3
  simp only [Nat.zero_add] at ak0 ak1 ak2 ak3 ak4 ak5 ak6
  obtain ⟨z0, z1, z2⟩ := zS.c3
  have w0 := kw.c0
  have w1 := kw.c1
  cases B0
  · have HF : Hid (_ = _) := H0.out rfl
    have zQ := ((zR.put0 (.slice none 0 0)).put1 (.int .i64 0)).put2 (.int .i64 0)
    have gg := grown_trans (grown_trans (grown_set u4 (Z + 1 + 1) 0 (.slice none 0 0)) (grown_set _ (Z + 1 + 1) 1 (.int .i64 0))) (grown_set _ (Z + 1 + 1) 2 (.int .i64 0))
    obtain ⟨q0, q1, q2⟩ := zQ.c3
    obtain ⟨r0, r1, r2⟩ := zR.c3
    have rf := fun i => zR.free i
    have F9 := F.then gg (fun j e => by cases e; have := HZ.out; omega)
    clear zQ
    go_wp2_with fail
    exact bodyPost_ret (v := .tuple #[.agg #[.slice none 0 0, .int .i64 0, .int .i64 0], .bool false]) (by simp [results, Try.results18, go_sem, q0, q1, q2]) rfl ⟨.inl ⟨HF.out, rfl⟩, F9⟩
  go_wp2_with fail
  refine (c1 _ hR).mono ?_
  rintro e u5 ⟨rfl, k4⟩
  have kb := kb.fr k4
  have kw := kw.fr k4
  have k3 := k3.trans k4
  clear k4 ak0 ak1 ak2 ak3 ak4 ak5 ak6 zS zR hR hX F z0 z1 z2 w0 w1
  obtain ⟨⟨ak0, ak1, ak2, ak3, ak4, ak5, ak6⟩, zS, zR, hR, hX, F⟩ := cq u5 k3
  obtain ⟨z0, z1, z2⟩ := zS.c3
  have w0 := kw.c0
  have w1 := kw.c1
  clear ak0 ak1 ak2 ak3 ak4 ak5 ak6
  cases B1
  · have HF : Hid (_ = _) := H1.out rfl
    have zQ := ((zR.put0 (.slice none 0 0)).put1 (.int .i64 0)).put2 (.int .i64 0)
    have gg := grown_trans (grown_trans (grown_set u5 (Z + 1 + 1) 0 (.slice none 0 0)) (grown_set _ (Z + 1 + 1) 1 (.int .i64 0))) (grown_set _ (Z + 1 + 1) 2 (.int .i64 0))
    obtain ⟨q0, q1, q2⟩ := zQ.c3
    obtain ⟨r0, r1, r2⟩ := zR.c3
    have rf := fun i => zR.free i
    have F9 := F.then gg (fun j e => by cases e; have := HZ.out; omega)
    clear zQ
    go_wp2_with fail
    exact bodyPost_ret (v := .tuple #[.agg #[.slice none 0 0, .int .i64 0, .int .i64 0], .bool false]) (by simp [results, Try.results18, go_sem, q0, q1, q2]) rfl ⟨.inl ⟨HF.out, rfl⟩, F9⟩
  go_wp2_with fail
  refine (c2 _).mono ?_
  rintro e u5 ⟨rfl, rfl⟩
  cases B2
  · have HF : Hid (_ = _) := H2.out rfl
    have zQ := ((zR.put0 (.slice none 0 0)).put1 (.int .i64 0)).put2 (.int .i64 0)
    have gg := grown_trans (grown_trans (grown_set u5 (Z + 1 + 1) 0 (.slice none 0 0)) (grown_set _ (Z + 1 + 1) 1 (.int .i64 0))) (grown_set _ (Z + 1 + 1) 2 (.int .i64 0))
    obtain ⟨q0, q1, q2⟩ := zQ.c3
    obtain ⟨r0, r1, r2⟩ := zR.c3
    have rf := fun i => zR.free i
    have F9 := F.then gg (fun j e => by cases e; have := HZ.out; omega)
    clear zQ
    go_wp2_with fail
    exact bodyPost_ret (v := .tuple #[.agg #[.slice none 0 0, .int .i64 0, .int .i64 0], .bool false]) (by simp [results, Try.results18, go_sem, q0, q1, q2]) rfl ⟨.inl ⟨HF.out, rfl⟩, F9⟩
  go_wp2_with fail
  refine (c3 _).mono ?_
  rintro e u6 ⟨rfl, k4⟩
  have kb := kb.fr k4
  have kw := kw.fr k4
  have k3 := k3.trans k4
  clear k4 zS zR hR hX F z0 z1 z2 w0 w1
  obtain ⟨-, zS, zR, hR, hX, F⟩ := cq u6 k3
  obtain ⟨z0, z1, z2⟩ := zS.c3
  have w0 := kw.c0
  have w1 := kw.c1
  cases B3
  · have HF : Hid (_ = _) := H3.out rfl
    have zQ := ((zR.put0 (.slice none 0 0)).put1 (.int .i64 0)).put2 (.int .i64 0)
    have gg := grown_trans (grown_trans (grown_set u6 (Z + 1 + 1) 0 (.slice none 0 0)) (grown_set _ (Z + 1 + 1) 1 (.int .i64 0))) (grown_set _ (Z + 1 + 1) 2 (.int .i64 0))
    obtain ⟨q0, q1, q2⟩ := zQ.c3
    obtain ⟨r0, r1, r2⟩ := zR.c3
    have rf := fun i => zR.free i
    have F9 := F.then gg (fun j e => by cases e; have := HZ.out; omega)
    clear zQ
    go_wp2_with fail
    exact bodyPost_ret (v := .tuple #[.agg #[.slice none 0 0, .int .i64 0, .int .i64 0], .bool false]) (by simp [results, Try.results18, go_sem, q0, q1, q2]) rfl ⟨.inl ⟨HF.out, rfl⟩, F9⟩
  obtain ⟨e0, e1, e2, e3⟩ := HB.out
  have HY : Hid (lkR ⟨r, s, b, m, q, cc, cw⟩ xs ⟨os, p, u⟩ n g f = !fullB ⟨r, s, b, m, q, cc, cw⟩ xs ⟨os, p, u⟩ n g f) := lk_yes2 e1.symm e0.symm e2.symm e3.symm
  have hin := inB_true e2.symm
  have hsm := smB_in e1.symm
  have HSM : Hid (SmR ⟨r, s, b, m, q, cc, cw⟩ ⟨os, p, u⟩) := ⟨hsm.1, hsm.2.2.2.2.1, hsm.2.2.2.2.2, hsm.2.2.1, hsm.2.2.2.1⟩
  have hio : InO os := fun o ho => by have := owB_in (hsm.2.2.2.2.1 o ho); constructor <;> constructor <;> omega
  have hd3 : dwB xs = true := by have h := e0.symm; simp only [stB, Bool.and_eq_true] at h; exact h.2
  have hx3 := dwB_len hd3
  have e3' := e3.symm
  rw [Bool.and_eq_true] at e3'
  have hg := inB_true e3'.1
  have hf := inB_true e3'.2
  simp only at hsm
  clear e0 e1 e2 e3 e3' hd3 H0 H1 H2 H3 HB c0 c1 c2 c3
  have cW := fun w (h : ReadsG LO w so os) => watchFrom_any ⟨r, s, b, m, q, cc, cw⟩ ao xs.length cap so os.length sc os p u w rfl hsm.2.1 h hsm.2.2.2.2.2 hio
  simp only at cW
  go_wp2_with (refine load_lc (c := ⟨r, s, b, m, q, cc, cw⟩) rfl (.tmp 14) rfl rfl kb ?_)
  refine (cW _ hR).mono ?_
  rintro e u7 ⟨wb, mb, BB, NN, rfl, hw, hNN, k4⟩
  obtain ⟨lo, hlo⟩ : ∃ lo, lo = u6.heap.size := ⟨_, rfl⟩
  rw [← hlo] at hw
  have HLO : Hid (W.heap.size ≤ lo ∧ lo ≤ u7.heap.size ∧ Z + 1 + 1 + 1 ≤ lo) := by have h1 := F.size; have h2 := k4.size; have h3 := k3.size; have := HZ1.out; exact ⟨by omega, by omega, by omega⟩
  have kb := kb.fr k4
  have kw := kw.fr k4
  have k3 := k3.trans k4
  clear k4 zS zR hR hX F z0 z1 z2 w0 w1 cW
  obtain ⟨-, -, zR, -, hX, F⟩ := cq u7 k3
  have w0 := kw.c0
  have w1 := kw.c1
  have cR := room_any hw hsm.1 hsm.2.2.2.2.2 hio rfl hx3 hX n g f hin ⟨by omega, by omega⟩ ⟨by omega, by omega⟩
  obtain ⟨RM, hRM⟩ : ∃ RM, RM = ((getO os g f).isSome || decide (os.length < 300) || !onB ⟨r, s, b, m, q, cc, cw⟩ xs n) := ⟨_, rfl⟩
  simp only [← hRM] at cR
  have HRM : Hid (lkR ⟨r, s, b, m, q, cc, cw⟩ xs ⟨os, p, u⟩ n g f = RM) := by have h1 := HY.out; rw [lk_room] at h1; simp only [← hRM, Bool.not_not] at h1; exact h1
  clear hRM
  go_wp2_with fail
  refine cR.mono ?_
  rintro e u8 ⟨rfl, k4⟩
  have hw := hw.fr k4
  have kw := kw.fr k4
  have k3 := k3.trans k4
  have HLO : Hid (W.heap.size ≤ lo ∧ lo ≤ u8.heap.size ∧ Z + 1 + 1 + 1 ≤ lo) := by have h1 := HLO.out; have h2 := k4.size; exact ⟨h1.1, by omega, h1.2.2⟩
  clear k4 zR hX F w0 w1 cR kb
  obtain ⟨-, -, zR, -, hX, F⟩ := cq u8 k3
  have w0 := kw.c0
  have w1 := kw.c1
  cases RM
  · have HF : Hid (_ = _) := HRM.out
    have zQ := ((zR.put0 (.slice none 0 0)).put1 (.int .i64 0)).put2 (.int .i64 0)
    have gg := grown_trans (grown_trans (grown_set u8 (Z + 1 + 1) 0 (.slice none 0 0)) (grown_set _ (Z + 1 + 1) 1 (.int .i64 0))) (grown_set _ (Z + 1 + 1) 2 (.int .i64 0))
    obtain ⟨q0, q1, q2⟩ := zQ.c3
    obtain ⟨r0, r1, r2⟩ := zR.c3
    have rf := fun i => zR.free i
    have F9 := F.then gg (fun j e => by cases e; have := HZ.out; omega)
    clear zQ
    go_wp2_with fail
    exact bodyPost_ret (v := .tuple #[.agg #[.slice none 0 0, .int .i64 0, .int .i64 0], .bool false]) (by simp [results, Try.results18, go_sem, q0, q1, q2]) rfl ⟨.inl ⟨HF.out, rfl⟩, F9⟩
  have hlo8 := HLO.out.2.1
  have cK := wlook_any hw HSM.out rfl hx3 hX hlo8 (by omega) n g f hin hg hf
  have HL5 : Hid ((lkS ⟨r, s, b, m, q, cc, cw⟩ xs ⟨os, p, u⟩ n g f).os.length ≤ 300) := by
    have h1 := HY.out
    rw [HRM.out] at h1
    have h2 := (lk_len (c := ⟨r, s, b, m, q, cc, cw⟩) (xs := xs) (n := n) (g := g) (f := f) (s := ⟨os, p, u⟩) hsm.2.2.2.2.2).2
    show _ ≤ _
    by_cases e : 300 < (lkS ⟨r, s, b, m, q, cc, cw⟩ xs ⟨os, p, u⟩ n g f).os.length
    · rcases h2.1 e with e2 | e2
      · rw [e2] at h1; simp at h1
      · have := hsm.2.1; simp only at e2; omega
    · omega
  have HS5 : Hid (RisO (lkS ⟨r, s, b, m, q, cc, cw⟩ xs ⟨os, p, u⟩ n g f).os ∧ InO (lkS ⟨r, s, b, m, q, cc, cw⟩ xs ⟨os, p, u⟩ n g f).os) := by
    have h1 : smB ⟨r, s, b, m, q, cc, cw⟩ ⟨os, p, u⟩ = true := smB_mk hsm.1 hsm.2.1 hsm.2.2.1 hsm.2.2.2.1 hsm.2.2.2.2.1 hsm.2.2.2.2.2
    have h2 := smB_in (lk_ok (xs := xs) h1 hin hg hf HL5.out)
    exact ⟨h2.2.2.2.2.2, fun o ho => by have := owB_in (h2.2.2.2.2.1 o ho); constructor <;> constructor <;> omega⟩
  obtain ⟨SS, hSS⟩ : ∃ SS, SS = lkS ⟨r, s, b, m, q, cc, cw⟩ xs ⟨os, p, u⟩ n g f := ⟨_, rfl⟩
  obtain ⟨BL, hBL⟩ : ∃ BL, BL = lkB ⟨r, s, b, m, q, cc, cw⟩ xs ⟨os, p, u⟩ n g f := ⟨_, rfl⟩
  rw [← hSS] at HL5 HS5 cK
  rw [← hBL] at cK
  have HSS : Hid (SS = lkS ⟨r, s, b, m, q, cc, cw⟩ xs ⟨os, p, u⟩ n g f ∧ BL = lkB ⟨r, s, b, m, q, cc, cw⟩ xs ⟨os, p, u⟩ n g f) := ⟨hSS, hBL⟩
  clear hSS hBL hw hX hlo8
  go_wp2_with fail
  refine cK.mono ?_
  rintro e u9 ⟨rfl, ⟨B5, N5, hN5, hw⟩, kp⟩
  have zR := kp.kept _ _ _ _ zR (by decide) (by decide)
  have zR : KyZ u9 (Z + 1 + 1) 33 #[.slice none 0 0, .int .i64 0, .int .i64 0] := zR
  have F := fr_kpw F kp HLO.out.1
  have HB9 : Hid (W.heap.size ≤ u9.heap.size) := F.size
  clear kw w0 w1 kp k3 cq HQ cK
  have cS := sampler_any hw HS5.out.1 HS5.out.2 (by have := HL5.out; omega)
  go_wp2_with fail
  refine cS.mono ?_
  rintro e u10 ⟨ao', n', cap', rfl, hO, k4⟩
  obtain ⟨g', c', e', ho', hl'⟩ := hO
  simp only [Value.slice.injEq] at e'
  obtain ⟨rfl, rfl, rfl⟩ := e'
  have hO : OwnG LO u10 u9.heap.size (.slice (some ⟨g', 0, none⟩) SS.os.length cap') SS.os := ⟨g', cap', rfl, ho', hl'⟩
  have hgb := hO.blk g' rfl
  have zb9 := zR.lt
  have zR := zR.fr k4
  have F := F.trans k4
  clear cS hw ho' k4
  have zQ := ((zR.put0 (.slice (some ⟨g', 0, none⟩) SS.os.length cap')).put1 (.int .i64 SS.p)).put2 (.int .i64 SS.u)
  have gg := grown_trans (grown_trans (grown_set u10 (Z + 1 + 1) 0 (.slice (some ⟨g', 0, none⟩) SS.os.length cap')) (grown_set _ (Z + 1 + 1) 1 (.int .i64 SS.p))) (grown_set _ (Z + 1 + 1) 2 (.int .i64 SS.u))
  obtain ⟨q0, q1, q2⟩ := zQ.c3
  obtain ⟨r0, r1, r2⟩ := zR.c3
  have rf := fun i => zR.free i
  have F9 := F.then gg (fun j e => by cases e; have := HZ.out; omega)
  have O9 : OwnG LO _ W.heap.size _ SS.os := OwnG.lower (hO.keep gg (by simp [Value.ownBlock]; omega)) HB9.out
  clear zQ
  go_wp2_with fail
  exact bodyPost_ret (v := .tuple #[.agg #[.slice (some ⟨g', 0, none⟩) SS.os.length cap', .int .i64 SS.p, .int .i64 SS.u], .bool BL]) (by simp [results, Try.results18, go_sem, q0, q1, q2]) rfl ⟨.inr ⟨HRM.out, by rw [← HSS.out.1, ← HSS.out.2]; exact ⟨g', cap', rfl, O9⟩⟩, F9⟩
end Go.Proofs.Ytkfcchapfklpgaa
/-
  The laws' own functions on samplers: how many, a copy, a comparison.
-/
namespace Go.Proofs.Ytkfcchapfklpgaa
open Go.RowKit

theorem szOwS_any (ao : Option Addr) (n cap : Nat) (w : World) (hn : n ≤ 9223372036854775807) :
    Calls Try.prog 21 #[.slice ao n cap, .int .i64 1048576] w fun e w' => e = .returned (.int .i64 (if n ≤ 1048576 then 1048576 - (n : Int) else -1)) ∧ w' = w := by
  by_cases h : n ≤ 1048576
  · rw [if_pos h]
    go_enter Try.func21, Try.ntmps21
    go_wp2
    go_ret
    exact ⟨rfl, rfl⟩
  · rw [if_neg h]
    go_enter Try.func21, Try.ntmps21
    go_wp2
    go_ret
    exact ⟨rfl, rfl⟩
theorem szSm_any (ao : Option Addr) (n cap : Nat) (p u : Int) (w : World) (hn : n ≤ 9223372036854775807) :
    Calls Try.prog 6 #[.agg #[.slice ao n cap, .int .i64 p, .int .i64 u], .int .i64 1048576] w fun e w' => e = .returned (.int .i64 (if n ≤ 1048576 then 1048576 - (n : Int) else -1)) ∧ Fr w w' := by
  have c := fun w => szOwS_any ao n cap w hn
  have f := Fr.alloc w (.cells #[.slice ao n cap, .int .i64 p, .int .i64 u] 26)
  by_cases h : n ≤ 1048576
  · rw [if_pos h] at c ⊢
    go_enter Try.func6, Try.ntmps6
    go_wp2_with fail
    refine (c _).mono ?_
    rintro e u1 ⟨rfl, rfl⟩
    go_wp2_with fail
    go_ret
    exact ⟨rfl, f⟩
  · rw [if_neg h] at c ⊢
    go_enter Try.func6, Try.ntmps6
    go_wp2_with fail
    refine (c _).mono ?_
    rintro e u1 ⟨rfl, rfl⟩
    go_wp2_with fail
    go_ret
    exact ⟨rfl, f⟩
set_option maxHeartbeats 1000000 in
theorem toOw_any (o : Ow) (w : World) :
    Calls Try.prog 47 #[.agg #[.int .i64 o.g, .int .i64 o.f, .int .i64 o.b.l, .int .i64 o.b.s, .int .i64 o.b.g]] w fun x w' => x = .returned (.agg #[.int .i64 o.g, .int .i64 o.f, .int .i64 o.b.l, .int .i64 o.b.s, .int .i64 o.b.g]) ∧ Fr w w' := by
  have cB := fun u => toBurst_any o.b u
  obtain ⟨g, f, l, s, p⟩ := o
  simp only at cB ⊢
  have f1 := Fr.alloc w (.cells #[.int .i64 g, .int .i64 f, .int .i64 l, .int .i64 s, .int .i64 p] 81)
  obtain ⟨V, hV⟩ : ∃ V, V = w.alloc (.cells #[.int .i64 g, .int .i64 f, .int .i64 l, .int .i64 s, .int .i64 p] 81) := ⟨_, rfl⟩
  have hs : V.heap.size = w.heap.size + 1 := by rw [hV]; simp
  have f2 := Fr.alloc V (.cells #[.int .i64 0, .int .i64 0, .int .i64 0, .int .i64 0, .int .i64 0] 53)
  have kR : OwZ (V.alloc (.cells #[.int .i64 0, .int .i64 0, .int .i64 0, .int .i64 0, .int .i64 0] 53)) (w.heap.size + 1) #[.int .i64 0, .int .i64 0, .int .i64 0, .int .i64 0, .int .i64 0] := by
    have := heap_alloc_new V (.cells #[.int .i64 0, .int .i64 0, .int .i64 0, .int .i64 0, .int .i64 0] 53)
    rwa [hs] at this
  have hs2 : (V.alloc (.cells #[.int .i64 0, .int .i64 0, .int .i64 0, .int .i64 0, .int .i64 0] 53)).heap.size = w.heap.size + 1 + 1 := by simp [hs]
  have kO : OwZ ((V.alloc (.cells #[.int .i64 0, .int .i64 0, .int .i64 0, .int .i64 0, .int .i64 0] 53)).alloc (.cells #[.int .i64 g, .int .i64 f, .int .i64 0, .int .i64 0, .int .i64 0] 53)) (w.heap.size + 1 + 1) #[.int .i64 g, .int .i64 f, .int .i64 0, .int .i64 0, .int .i64 0] := by
    have := heap_alloc_new (V.alloc (.cells #[.int .i64 0, .int .i64 0, .int .i64 0, .int .i64 0, .int .i64 0] 53)) (.cells #[.int .i64 g, .int .i64 f, .int .i64 0, .int .i64 0, .int .i64 0] 53)
    rwa [hs2] at this
  have f3 := Fr.alloc (V.alloc (.cells #[.int .i64 0, .int .i64 0, .int .i64 0, .int .i64 0, .int .i64 0] 53)) (.cells #[.int .i64 g, .int .i64 f, .int .i64 0, .int .i64 0, .int .i64 0] 53)
  rw [← hV] at f1
  replace kR := kR.fr f3
  have F := (f1.trans f2).trans f3
  rw [hV] at kR kO F
  clear f1 f2 f3 hs hs2 hV V
  go_enter Try.func47, Try.ntmps47
  go_wp2_with fail
  obtain ⟨U, hU⟩ : ∃ U, U = ((w.alloc (.cells #[.int .i64 g, .int .i64 f, .int .i64 l, .int .i64 s, .int .i64 p] 81)).alloc (.cells #[.int .i64 0, .int .i64 0, .int .i64 0, .int .i64 0, .int .i64 0] 53)).alloc (.cells #[.int .i64 g, .int .i64 f, .int .i64 0, .int .i64 0, .int .i64 0] 53) := ⟨_, rfl⟩
  rw [← hU] at kR kO F ⊢
  clear hU
  refine (cB _).mono ?_
  rintro e u1 ⟨rfl, k1⟩
  have kR := kR.fr k1
  have kO := kO.fr k1
  obtain ⟨o0, o1, o2, o3, o4⟩ := kO.cs
  obtain ⟨r0, r1, r2, r3, r4⟩ := kR.cs
  have of := fun i => kO.free i
  have rf := fun i => kR.free i
  have F := F.trans k1
  clear k1 cB
  have z1 : OwZ (((u1.setCell ⟨w.heap.size + 1 + 1, 2, none⟩ (.int .i64 l)).setCell ⟨w.heap.size + 1 + 1, 3, none⟩ (.int .i64 s)).setCell ⟨w.heap.size + 1 + 1, 4, none⟩ (.int .i64 p)) (w.heap.size + 1 + 1) #[.int .i64 g, .int .i64 f, .int .i64 l, .int .i64 s, .int .i64 p] := heap_setCell_same _ _ 4 _ _ _ (heap_setCell_same _ _ 3 _ _ _ (heap_setCell_same _ _ 2 _ _ _ kO))
  have g1 := grown_trans (grown_trans (grown_set u1 (w.heap.size + 1 + 1) 2 (.int .i64 l)) (grown_set _ (w.heap.size + 1 + 1) 3 (.int .i64 s))) (grown_set _ (w.heap.size + 1 + 1) 4 (.int .i64 p))
  have HZ : Hid (OwZ (((u1.setCell ⟨w.heap.size + 1 + 1, 2, none⟩ (.int .i64 l)).setCell ⟨w.heap.size + 1 + 1, 3, none⟩ (.int .i64 s)).setCell ⟨w.heap.size + 1 + 1, 4, none⟩ (.int .i64 p)) (w.heap.size + 1 + 1) #[.int .i64 g, .int .i64 f, .int .i64 l, .int .i64 s, .int .i64 p] ∧ Fr w (((u1.setCell ⟨w.heap.size + 1 + 1, 2, none⟩ (.int .i64 l)).setCell ⟨w.heap.size + 1 + 1, 3, none⟩ (.int .i64 s)).setCell ⟨w.heap.size + 1 + 1, 4, none⟩ (.int .i64 p)) ∧ OwZ (((u1.setCell ⟨w.heap.size + 1 + 1, 2, none⟩ (.int .i64 l)).setCell ⟨w.heap.size + 1 + 1, 3, none⟩ (.int .i64 s)).setCell ⟨w.heap.size + 1 + 1, 4, none⟩ (.int .i64 p)) (w.heap.size + 1) #[.int .i64 0, .int .i64 0, .int .i64 0, .int .i64 0, .int .i64 0]) := ⟨z1, F.then g1 (fun j e => by cases e; omega), kR.keep g1 (by simp)⟩
  clear z1 g1 kR kO F r0 r1 r2 r3 r4 rf
  go_upto_region 5 with fail
  obtain ⟨u2, hu2⟩ : ∃ u2, u2 = ((u1.setCell ⟨w.heap.size + 1 + 1, 2, none⟩ (.int .i64 l)).setCell ⟨w.heap.size + 1 + 1, 3, none⟩ (.int .i64 s)).setCell ⟨w.heap.size + 1 + 1, 4, none⟩ (.int .i64 p) := ⟨_, rfl⟩
  rw [← hu2] at HZ ⊢
  clear hu2 o0 o1 o2 o3 o4 of
  obtain ⟨kO, F, kR⟩ := HZ.out
  obtain ⟨o0, o1, o2, o3, o4⟩ := kO.cs
  obtain ⟨r0, r1, r2, r3, r4⟩ := kR.cs
  have rf := fun i => kR.free i
  have z2 : OwZ (((((u2.setCell ⟨w.heap.size + 1, 0, none⟩ (.int .i64 g)).setCell ⟨w.heap.size + 1, 1, none⟩ (.int .i64 f)).setCell ⟨w.heap.size + 1, 2, none⟩ (.int .i64 l)).setCell ⟨w.heap.size + 1, 3, none⟩ (.int .i64 s)).setCell ⟨w.heap.size + 1, 4, none⟩ (.int .i64 p)) (w.heap.size + 1) #[.int .i64 g, .int .i64 f, .int .i64 l, .int .i64 s, .int .i64 p] := heap_setCell_same _ _ 4 _ _ _ (heap_setCell_same _ _ 3 _ _ _ (heap_setCell_same _ _ 2 _ _ _ (heap_setCell_same _ _ 1 _ _ _ (heap_setCell_same _ _ 0 _ _ _ kR))))
  have g2 := grown_trans (grown_trans (grown_trans (grown_trans (grown_set u2 (w.heap.size + 1) 0 (.int .i64 g)) (grown_set _ (w.heap.size + 1) 1 (.int .i64 f))) (grown_set _ (w.heap.size + 1) 2 (.int .i64 l))) (grown_set _ (w.heap.size + 1) 3 (.int .i64 s))) (grown_set _ (w.heap.size + 1) 4 (.int .i64 p))
  obtain ⟨s0, s1, s2, s3, s4⟩ := z2.cs
  clear z2 kO kR
  go_wp2_with fail
  refine bodyPost_ret (v := .agg #[.int .i64 g, .int .i64 f, .int .i64 l, .int .i64 s, .int .i64 p]) (by simp [results, Try.results47, go_sem, s0, s1, s2, s3, s4]) rfl ⟨rfl, ?_⟩
  exact F.then g2 (fun j e => by cases e; omega)
end Go.Proofs.Ytkfcchapfklpgaa
/-
  The laws' own functions on samplers: a copy of a list, marks.
-/
namespace Go.Proofs.Ytkfcchapfklpgaa
open Go.RowKit

theorem Try.infoOw : (Try.prog.info? 53).map (fun i => (i.zero, i.size, i.bytes)) = some (some (.agg #[.int .i64 0, .int .i64 0, .int .i64 0, .int .i64 0, .int .i64 0]), 5, 40) := by kernel_rfl
theorem set5o (A B : List Value) (m0 m1 m2 m3 m4 a0 a1 a2 a3 a4 : Value) (n : Nat) (hn : A.length = n) :
    (((((A ++ m0 :: m1 :: m2 :: m3 :: m4 :: B).set n a0).set (n + 1) a1).set (n + 2) a2).set (n + 3) a3).set (n + 4) a4 = A ++ a0 :: a1 :: a2 :: a3 :: a4 :: B := by
  subst hn
  simp
theorem drop5o (L : List Value) (n : Nat) (h : n + 5 ≤ L.length) : ∃ m0 m1 m2 m3 m4, L.drop n = m0 :: m1 :: m2 :: m3 :: m4 :: L.drop (n + 5) := by
  refine ⟨L[n], L[n + 1], L[n + 2], L[n + 3], L[n + 4], ?_⟩
  rw [List.drop_eq_getElem_cons (by omega : n < L.length), List.drop_eq_getElem_cons (by omega : n + 1 < L.length), List.drop_eq_getElem_cons (by omega : n + 1 + 1 < L.length), List.drop_eq_getElem_cons (by omega : n + 1 + 1 + 1 < L.length), List.drop_eq_getElem_cons (by omega : n + 1 + 1 + 1 + 1 < L.length)]
theorem own5o {w : World} {base g n cap : Nat} {e : TypeId} {xs : List Value} (h : w.ownsRow base e 5 (.slice (some ⟨g, 0, none⟩) n cap) n xs) (j : Nat) (a0 a1 a2 a3 a4 : Value) :
    (((((w.setCell ⟨g, j, none⟩ a0).setCell ⟨g, j + 1, none⟩ a1).setCell ⟨g, j + 2, none⟩ a2).setCell ⟨g, j + 3, none⟩ a3).setCell ⟨g, j + 4, none⟩ a4).ownsRow base e 5 (.slice (some ⟨g, 0, none⟩) n cap) n (((((xs.set j a0).set (j + 1) a1).set (j + 2) a2).set (j + 3) a3).set (j + 4) a4) ∧
    w.grownBy (((((w.setCell ⟨g, j, none⟩ a0).setCell ⟨g, j + 1, none⟩ a1).setCell ⟨g, j + 2, none⟩ a2).setCell ⟨g, j + 3, none⟩ a3).setCell ⟨g, j + 4, none⟩ a4) (some g) := by
  have h0 := h.stored j a0
  have h1 := h0.1.stored (j + 1) a1
  have h2 := h1.1.stored (j + 2) a2
  have h3 := h2.1.stored (j + 3) a3
  have h4 := h3.1.stored (j + 4) a4
  exact ⟨h4.1, grown_trans (grown_trans (grown_trans (grown_trans h0.2 h1.2) h2.2) h3.2) h4.2⟩
theorem laid5o (D : List Ow) (M : List Value) (k n : Nat) (hD : D.length = k) (hk : k < n) (hM : M.length = n * 5) (e : Ow) :
    (((((D.flatMap owCells ++ M.drop (k * 5)).set (k * 5) (.int .i64 e.g)).set (k * 5 + 1) (.int .i64 e.f)).set (k * 5 + 2) (.int .i64 e.b.l)).set (k * 5 + 3) (.int .i64 e.b.s)).set (k * 5 + 4) (.int .i64 e.b.g) = (D ++ [e]).flatMap owCells ++ M.drop ((k + 1) * 5) := by
  obtain ⟨m0, m1, m2, m3, m4, hd⟩ := drop5o M (k * 5) (by omega)
  have hl : (D.flatMap owCells).length = k * 5 := by
    have : ∀ D : List Ow, (D.flatMap owCells).length = D.length * 5 := fun D => by
      induction D with
      | nil => rfl
      | cons o D ih => rw [List.flatMap_cons, List.length_append, ih]; simp [owCells]; omega
    rw [this, hD]
  rw [hd, set5o _ _ _ _ _ _ _ _ _ _ _ _ _ hl, show (k + 1) * 5 = k * 5 + 5 by omega, List.flatMap_append]
  simp [owCells]
theorem owFlat_len (D : List Ow) : (D.flatMap owCells).length = D.length * 5 := by
  induction D with
  | nil => rfl
  | cons o D ih => rw [List.flatMap_cons, List.length_append, ih]; simp [owCells]; omega

set_option maxHeartbeats 1000000 in
theorem toOws_any (ao : Option Addr) (n cap : Nat) (es : List Ow) (w : World) (hn : es.length = n) (h : ReadsG LO w ao es) :
    Calls Try.prog 27 #[.slice ao n cap] w fun e w' => ∃ v, e = .returned v ∧ OwnG LO w' w.heap.size v es ∧ Fr w w' := by
  subst hn
  have hl := h.len
  obtain ⟨i0, hi, hz0, hz1, hz2⟩ := info_parts Try.infoOw
  go_enter Try.func27, Try.ntmps27
  go_wp2_with (at_make; refine wpList_make_full _ rfl _ _ 31 rfl w.heap.size 53 i0 (.agg #[.int .i64 0, .int .i64 0, .int .i64 0, .int .i64 0, .int .i64 0]) 5 Try.underlying31 hi hz0 hz1 .i64 .i64 _ _ es.length rfl rfl rfl rfl (by rw [hz2]; omega) (by unfold maxLen; omega) (Nat.le_refl _) ?_; intro w1 hown hgrow)
  obtain ⟨M, hM⟩ : ∃ M, M = (madeCells (Value.agg #[.int .i64 0, .int .i64 0, .int .i64 0, .int .i64 0, .int .i64 0]).cells (es.length * 5)).toList := ⟨_, rfl⟩
  rw [← hM] at hown
  clear hM
  have hMl := hown.1
  clear hi hz0 hz1 hz2
  go_loopw [4] (fun i wr => ∃ k : Nat, k ≤ es.length ∧ i = .int .i64 k ∧ wr.ownsRow w.heap.size 53 5 (.slice (some ⟨w.heap.size, 0, none⟩) es.length es.length) es.length ((es.take k).flatMap owCells ++ M.drop (k * 5)) ∧ Fr w wr) (fun i _ => es.length - (intOf i).toNat)
  case atStart => exact ⟨0, Nat.zero_le _, rfl, by simpa using hown, hgrow⟩
  case round =>
    obtain ⟨k, hk, rfl, ho, hf⟩ := hrel
    clear hown hgrow
    by_cases hlt : k < es.length
    · obtain ⟨b, off, rfl, c0, c1, c2, c3, c4⟩ := ow_at (h.fr hf) k hlt
      have HE : Hid (es.take k ++ [es[k]] = es.take (k + 1)) := (List.take_succ_eq_append_getElem hlt).symm
      obtain ⟨e, he⟩ : ∃ e, e = es[k] := ⟨_, rfl⟩
      rw [← he] at c0 c1 c2 c3 c4 HE
      clear he
      have cT := fun w => toOw_any e w
      go_wp2_with fail
      refine (cT _).mono ?_
      rintro e w5 ⟨rfl, f5⟩
      have ho := ho.kept f5 (by simp [Value.ownBlock])
      have hll : ((es.take k).flatMap owCells ++ M.drop (k * 5)).length = es.length * 5 := ho.1
      have hat : ∀ i, i < 5 → ∃ u, w5.cell? ⟨w.heap.size, k * 5 + i, none⟩ = some u := fun i hi => by
        rw [ho.cellAt (k * 5 + i) (by omega)]
        exact ⟨_, List.getElem?_eq_getElem (by omega)⟩
      obtain ⟨q0, d0⟩ := hat 0 (by omega)
      obtain ⟨q1, d1⟩ := hat 1 (by omega)
      obtain ⟨q2, d2⟩ := hat 2 (by omega)
      obtain ⟨q3, d3⟩ := hat 3 (by omega)
      obtain ⟨q4, d4⟩ := hat 4 (by omega)
      rw [Nat.add_zero] at d0
      have z0 := ho.frozenAt (k * 5)
      have z1 := ho.frozenAt (k * 5 + 1)
      have z2 := ho.frozenAt (k * 5 + 2)
      have z3 := ho.frozenAt (k * 5 + 3)
      have z4 := ho.frozenAt (k * 5 + 4)
      have hst := own5o ho (k * 5) (.int .i64 e.g) (.int .i64 e.f) (.int .i64 e.b.l) (.int .i64 e.b.s) (.int .i64 e.b.g)
      rw [laid5o (es.take k) M k es.length (by rw [List.length_take]; omega) hlt hMl e, HE.out] at hst
      have hsz := hf.size
      clear hat hll ho
      go_wp2_with fail
      go_roundw
      case rel => exact ⟨k + 1, by omega, by go_num, hst.1, (hf.trans f5).then hst.2 (fun j hj => by simp only [Option.some.injEq] at hj; omega)⟩
      case measure => simp [intOf]; omega
    · have ek : k = es.length := by omega
      have hd : M.drop (k * 5) = [] := List.drop_eq_nil_of_le (by rw [hMl, ek]; omega)
      rw [hd, List.append_nil, ek, List.take_length] at ho
      clear hd ek
      go_wp2_with fail
      go_ret
      exact ⟨_, rfl, ⟨_, _, rfl, ho, hl⟩, hf⟩
set_option maxHeartbeats 1000000 in
theorem toSm_any (ao : Option Addr) (n cap : Nat) (os : List Ow) (p u : Int) (w : World) (hn : os.length = n) (h : ReadsG LO w ao os) :
    Calls Try.prog 9 #[.agg #[.slice ao n cap, .int .i64 p, .int .i64 u]] w fun e w' => ∃ g c, e = .returned (.agg #[.slice (some ⟨g, 0, none⟩) n c, .int .i64 p, .int .i64 u]) ∧ OwnG LO w' w.heap.size (.slice (some ⟨g, 0, none⟩) n c) os ∧ Fr w w' := by
  have cT := fun w (h : ReadsG LO w ao os) => toOws_any ao n cap os w hn h
  have f1 := Fr.alloc w (.cells #[.slice ao n cap, .int .i64 p, .int .i64 u] 26)
  obtain ⟨V, hV⟩ : ∃ V, V = w.alloc (.cells #[.slice ao n cap, .int .i64 p, .int .i64 u] 26) := ⟨_, rfl⟩
  have hs : V.heap.size = w.heap.size + 1 := by rw [hV]; simp
  have kA : KyZ V w.heap.size 26 #[.slice ao n cap, .int .i64 p, .int .i64 u] := by rw [hV]; exact heap_alloc_new _ _
  have f2 := Fr.alloc V (.cells #[.slice none 0 0, .int .i64 0, .int .i64 0] 33)
  have kR : KyZ (V.alloc (.cells #[.slice none 0 0, .int .i64 0, .int .i64 0] 33)) (w.heap.size + 1) 33 #[.slice none 0 0, .int .i64 0, .int .i64 0] := by
    have := heap_alloc_new V (.cells #[.slice none 0 0, .int .i64 0, .int .i64 0] 33)
    rwa [hs] at this
  have hs2 : (V.alloc (.cells #[.slice none 0 0, .int .i64 0, .int .i64 0] 33)).heap.size = w.heap.size + 1 + 1 := by simp [hs]
  have kO : KyZ ((V.alloc (.cells #[.slice none 0 0, .int .i64 0, .int .i64 0] 33)).alloc (.cells #[.slice none 0 0, .int .i64 0, .int .i64 0] 33)) (w.heap.size + 1 + 1) 33 #[.slice none 0 0, .int .i64 0, .int .i64 0] := by
    have := heap_alloc_new (V.alloc (.cells #[.slice none 0 0, .int .i64 0, .int .i64 0] 33)) (.cells #[.slice none 0 0, .int .i64 0, .int .i64 0] 33)
    rwa [hs2] at this
  have f3 := Fr.alloc (V.alloc (.cells #[.slice none 0 0, .int .i64 0, .int .i64 0] 33)) (.cells #[.slice none 0 0, .int .i64 0, .int .i64 0] 33)
  rw [← hV] at f1
  replace kA := (kA.fr f2).fr f3
  replace kR := kR.fr f3
  have F := (f1.trans f2).trans f3
  have hR := h.fr F
  have hsU : w.heap.size ≤ ((V.alloc (.cells #[.slice none 0 0, .int .i64 0, .int .i64 0] 33)).alloc (.cells #[.slice none 0 0, .int .i64 0, .int .i64 0] 33)).heap.size := by simp [hs]; omega
  rw [hV] at kA kR kO F hR hsU
  clear f1 f2 f3 hs hs2 hV V h
  obtain ⟨z0, z1, z2⟩ := kA.c3
  go_enter Try.func9, Try.ntmps9
  go_wp2_with fail
  obtain ⟨U, hU⟩ : ∃ U, U = ((w.alloc (.cells #[.slice ao n cap, .int .i64 p, .int .i64 u] 26)).alloc (.cells #[.slice none 0 0, .int .i64 0, .int .i64 0] 33)).alloc (.cells #[.slice none 0 0, .int .i64 0, .int .i64 0] 33) := ⟨_, rfl⟩
  rw [← hU] at kA kR kO F hR hsU z0 z1 z2 ⊢
  clear hU
  refine (cT _ hR).mono ?_
  rintro e u1 ⟨v, rfl, ho, k1⟩
  obtain ⟨g, c, rfl, ho1, hl⟩ := ho
  have hO : OwnG LO u1 w.heap.size (.slice (some ⟨g, 0, none⟩) os.length c) os := OwnG.lower ⟨g, c, rfl, ho1, hl⟩ hsU
  have hgg : U.heap.size ≤ g := (ho1.lt g rfl).1
  rw [hn] at hO ⊢
  have hUz := kO.lt
  have kA := kA.fr k1
  have kR := kR.fr k1
  have kO := kO.fr k1
  obtain ⟨z0, z1, z2⟩ := kA.c3
  obtain ⟨o0, o1, o2⟩ := kO.c3
  have of := fun i => kO.free i
  have F := F.trans k1
  have s1 := ((kO.put0 (.slice (some ⟨g, 0, none⟩) n c)).put1 (.int .i64 p)).put2 (.int .i64 u)
  have g1 := grown_trans (grown_trans (grown_set u1 (w.heap.size + 1 + 1) 0 (.slice (some ⟨g, 0, none⟩) n c)) (grown_set _ (w.heap.size + 1 + 1) 1 (.int .i64 p))) (grown_set _ (w.heap.size + 1 + 1) 2 (.int .i64 u))
  clear ho1
  obtain ⟨K, hK⟩ : ∃ K, K = ((u1.setCell ⟨w.heap.size + 1 + 1, 0, none⟩ (.slice (some ⟨g, 0, none⟩) n c)).setCell ⟨w.heap.size + 1 + 1, 1, none⟩ (.int .i64 p)).setCell ⟨w.heap.size + 1 + 1, 2, none⟩ (.int .i64 u) := ⟨_, rfl⟩
  rw [← hK] at s1 g1
  have HZ : Hid (KyZ K (w.heap.size + 1 + 1) 33 #[.slice (some ⟨g, 0, none⟩) n c, .int .i64 p, .int .i64 u] ∧ Fr w K ∧ KyZ K (w.heap.size + 1) 33 #[.slice none 0 0, .int .i64 0, .int .i64 0] ∧ OwnG LO K w.heap.size (.slice (some ⟨g, 0, none⟩) n c) os ∧ w.heap.size + 1 < g) := ⟨s1, F.then g1 (fun j e => by cases e; omega), kR.keep g1 (by simp), hO.keep g1 (by simp [Value.ownBlock]; omega), by omega⟩
  rw [hK] at HZ
  clear s1 g1 kR kO F hK K hO kA hR hUz hsU hgg k1 cT
  go_upto_region 5 with fail
  obtain ⟨u2, hu2⟩ : ∃ u2, u2 = ((u1.setCell ⟨w.heap.size + 1 + 1, 0, none⟩ (.slice (some ⟨g, 0, none⟩) n c)).setCell ⟨w.heap.size + 1 + 1, 1, none⟩ (.int .i64 p)).setCell ⟨w.heap.size + 1 + 1, 2, none⟩ (.int .i64 u) := ⟨_, rfl⟩
  rw [← hu2] at HZ ⊢
  clear hu2 o0 o1 o2 of z0 z1 z2
  obtain ⟨kO, F, kR, hO, hgg⟩ := HZ.out
  obtain ⟨o0, o1, o2⟩ := kO.c3
  obtain ⟨r0, r1, r2⟩ := kR.c3
  have rf := fun i => kR.free i
  have kQ := ((kR.put0 (.slice (some ⟨g, 0, none⟩) n c)).put1 (.int .i64 p)).put2 (.int .i64 u)
  have g2 := grown_trans (grown_trans (grown_set u2 (w.heap.size + 1) 0 (.slice (some ⟨g, 0, none⟩) n c)) (grown_set _ (w.heap.size + 1) 1 (.int .i64 p))) (grown_set _ (w.heap.size + 1) 2 (.int .i64 u))
  obtain ⟨q0, q1, q2⟩ := kQ.c3
  clear kO kR kQ
  go_wp2_with fail
  refine bodyPost_ret (v := .agg #[.slice (some ⟨g, 0, none⟩) n c, .int .i64 p, .int .i64 u]) (by simp [results, Try.results9, go_sem, q0, q1, q2]) rfl ⟨g, c, rfl, hO.keep g2 (by simp [Value.ownBlock]; omega), F.then g2 (fun j e => by cases e; omega)⟩
end Go.Proofs.Ytkfcchapfklpgaa
/-
  The laws' comparison of two like samplers; their marks.
-/
namespace Go.Proofs.Ytkfcchapfklpgaa
open Go.RowKit

set_option maxHeartbeats 1000000 in
theorem eqOwn_one (o : Ow) (w : World) :
    Calls Try.prog 52 #[.agg #[.int .i64 o.g, .int .i64 o.f, .int .i64 o.b.l, .int .i64 o.b.s, .int .i64 o.b.g], .agg #[.int .i64 o.g, .int .i64 o.f, .int .i64 o.b.l, .int .i64 o.b.s, .int .i64 o.b.g]] w fun e w' => e = .returned (.bool true) ∧ Fr w w' := by
  have cB := fun u => eqBurst_same o.b u
  obtain ⟨g, f, l, s, p⟩ := o
  simp only at cB ⊢
  go_enter Try.func52, Try.ntmps52
  go_wp2_with fail
  refine (cB _).mono ?_
  rintro e u1 ⟨rfl, f1⟩
  go_wp2_with fail
  go_ret
  exact ⟨rfl, ((Fr.alloc _ _).trans (Fr.alloc _ _)).trans f1⟩

set_option maxHeartbeats 2000000 in
theorem eqOws_same (ao bo : Option Addr) (n c d : Nat) (ps : List Ow) (w : World) (hn : ps.length = n) (h : ReadsG LO w ao ps) (h' : ReadsG LO w bo ps) :
    Calls Try.prog 31 #[.slice ao n c, .slice bo n d] w fun e w' => e = .returned (.bool true) ∧ Fr w w' := by
  subst hn
  have hl := h.len
  go_enter Try.func31, Try.ntmps31
  go_wp2_with fail
  go_loopw [5] (fun i wr => ∃ k : Nat, k ≤ ps.length ∧ i = .int .i64 k ∧ Fr w wr) (fun i _ => ps.length - (intOf i).toNat)
  case atStart => exact ⟨0, Nat.zero_le _, rfl, Fr.refl _⟩
  case round =>
    obtain ⟨k, hk, rfl, hf⟩ := hrel
    by_cases hlt : k < ps.length
    · obtain ⟨b, off, rfl, c0, c1, c2, c3, c4⟩ := ow_at (h.fr hf) k hlt
      obtain ⟨b', off', rfl, d0, d1, d2, d3, d4⟩ := ow_at (h'.fr hf) k hlt
      obtain ⟨o, ho⟩ : ∃ e, e = ps[k] := ⟨_, rfl⟩
      rw [← ho] at c0 c1 c2 c3 c4 d0 d1 d2 d3 d4
      clear ho
      have cE := fun w => eqOwn_one o w
      have := Later.some wr
      have p0 := fun s : Later wr => s.fr.cell c0
      have p1 := fun s : Later wr => s.fr.cell c1
      have p2 := fun s : Later wr => s.fr.cell c2
      have p3 := fun s : Later wr => s.fr.cell c3
      have p4 := fun s : Later wr => s.fr.cell c4
      have r0 := fun s : Later wr => s.fr.cell d0
      have r1 := fun s : Later wr => s.fr.cell d1
      have r2 := fun s : Later wr => s.fr.cell d2
      have r3 := fun s : Later wr => s.fr.cell d3
      have r4 := fun s : Later wr => s.fr.cell d4
      clear c0 c1 d0 d1 c2 c3 c4 d2 d3 d4
      go_wp2_with fail
      refine wp_region_grown (by kernel_rfl) (by kernel_rfl) ?_
      repeat (go_big_quiet_step (with_reducible exact Calls.grown_of (cE _)))
      refine wpQuiet_nil ?_
      rintro _ ⟨s, rfl⟩
      go_wp2_with fail
      go_roundw
      case rel => exact ⟨k + 1, by omega, by go_num, hf.trans s.fr⟩
      case measure => simp [intOf]; omega
    · go_wp2_with fail
      go_ret
      exact ⟨rfl, hf⟩

set_option maxHeartbeats 1000000 in
theorem eqSm_same (ao bo : Option Addr) (n c d : Nat) (p u : Int) (ps : List Ow) (w : World) (hn : ps.length = n) (h : ReadsG LO w ao ps) (h' : ReadsG LO w bo ps) :
    Calls Try.prog 11 #[.agg #[.slice ao n c, .int .i64 p, .int .i64 u], .agg #[.slice bo n d, .int .i64 p, .int .i64 u]] w fun e w' => e = .returned (.bool true) ∧ Fr w w' := by
  have cE := fun w (h : ReadsG LO w ao ps) (h' : ReadsG LO w bo ps) => eqOws_same ao bo n c d ps w hn h h'
  have fa := Fr.alloc w (.cells #[.slice ao n c, .int .i64 p, .int .i64 u] 33)
  have fb := Fr.alloc (w.alloc (.cells #[.slice ao n c, .int .i64 p, .int .i64 u] 33)) (.cells #[.slice bo n d, .int .i64 p, .int .i64 u] 33)
  have kA : KyZ (w.alloc (.cells #[.slice ao n c, .int .i64 p, .int .i64 u] 33)) w.heap.size 33 #[.slice ao n c, .int .i64 p, .int .i64 u] := heap_alloc_new _ _
  have kB : KyZ ((w.alloc (.cells #[.slice ao n c, .int .i64 p, .int .i64 u] 33)).alloc (.cells #[.slice bo n d, .int .i64 p, .int .i64 u] 33)) (w.heap.size + 1) 33 #[.slice bo n d, .int .i64 p, .int .i64 u] := by
    have := heap_alloc_new (w.alloc (.cells #[.slice ao n c, .int .i64 p, .int .i64 u] 33)) (.cells #[.slice bo n d, .int .i64 p, .int .i64 u] 33)
    have hs : (w.alloc (.cells #[.slice ao n c, .int .i64 p, .int .i64 u] 33)).heap.size = w.heap.size + 1 := by simp
    rwa [hs] at this
  replace kA := kA.fr fb
  have F := fa.trans fb
  have h := h.fr F
  have h' := h'.fr F
  clear fa fb
  go_enter Try.func11, Try.ntmps11
  go_wp2_with fail
  refine (cE _ h h').mono ?_
  rintro e u1 ⟨rfl, f1⟩
  obtain ⟨a0, a1, a2⟩ := (kA.fr f1).c3
  obtain ⟨b0, b1, b2⟩ := (kB.fr f1).c3
  have F := F.trans f1
  clear kA kB f1
  go_wp2_with fail
  go_ret
  exact ⟨rfl, F⟩

/-- Owns in a row. -/
def upO (c : Int) : Ow := ⟨c, c + 1, ⟨c + 1 + 1, c + 1 + 1 + 1, c + 1 + 1 + 1 + 1⟩⟩
def upsO (q : Int) (n : Nat) : List Ow := (List.range n).map fun j : Nat => upO (q + 5 * (j : Int))
theorem upsO_length (q : Int) (n : Nat) : (upsO q n).length = n := by simp [upsO]
theorem upsO_succ (q : Int) (n : Nat) : upsO q (n + 1) = upsO q n ++ [upO (q + 5 * (n : Int))] := by simp [upsO, List.range_succ]
theorem upsO_at (q : Int) (n j : Nat) (h : j < (upsO q n).length) : (upsO q n)[j] = upO (q + 5 * (j : Int)) := by simp [upsO]

set_option maxHeartbeats 4000000 in
theorem markOws_any (g n cap base : Nat) (q : Int) (ps : List Ow) (w : World) (hn : ps.length = n) (q0 : 0 ≤ q) (q1 : q ≤ 4294967296) (hp : OwnG LO w base (.slice (some ⟨g, 0, none⟩) n cap) ps) :
    Calls Try.prog 32 #[.slice (some ⟨g, 0, none⟩) n cap, .int .i64 q] w fun e w' => e = .returned (.int .i64 (q + 5 * (n : Int))) ∧ OwnG LO w' base (.slice (some ⟨g, 0, none⟩) n cap) (upsO q n) ∧ w.grownBy w' (some g) := by
  obtain ⟨g', cap', e', h, hl⟩ := hp
  simp only [Value.slice.injEq, Option.some.injEq, Addr.mk.injEq, and_true] at e'
  obtain ⟨rfl, -, rfl⟩ := e'
  rw [hn] at h hl
  have h : w.ownsRow base 53 5 (.slice (some ⟨g, 0, none⟩) n cap) n (ps.flatMap owCells) := h
  obtain ⟨M, hM⟩ : ∃ M, M = ps.flatMap owCells := ⟨_, rfl⟩
  have hMl : M.length = n * 5 := by rw [hM, owFlat_len, hn]
  rw [← hM] at h
  clear hM hn
  go_enter Try.func32, Try.ntmps32
  go_wp2_with fail
  go_loopw [1, 5] (fun c i wr => ∃ k : Nat, k ≤ n ∧ i = .int .i64 k ∧ c = .int .i64 (q + 5 * (k : Int)) ∧ wr.ownsRow base 53 5 (.slice (some ⟨g, 0, none⟩) n cap) n ((upsO q k).flatMap owCells ++ M.drop (k * 5)) ∧ w.grownBy wr (some g)) (fun _ i _ => n - (intOf i).toNat)
  case atStart => exact ⟨0, Nat.zero_le _, rfl, by simp, by simpa [upsO] using h, ⟨rfl, rfl, rfl, Nat.le_refl _, fun _ _ _ => rfl⟩⟩
  case round =>
    obtain ⟨k, hk, rfl, rfl, ho, hf⟩ := hrel
    by_cases hlt : k < n
    · have hll : ((upsO q k).flatMap owCells ++ M.drop (k * 5)).length = n * 5 := ho.1
      have hat : ∀ i, i < 5 → ∃ u, wr.cell? ⟨g, k * 5 + i, none⟩ = some u := fun i hi => by
        rw [ho.cellAt (k * 5 + i) (by omega)]
        exact ⟨_, List.getElem?_eq_getElem (by omega)⟩
      obtain ⟨p0, d0⟩ := hat 0 (by omega)
      obtain ⟨p1, d1⟩ := hat 1 (by omega)
      obtain ⟨p2, d2⟩ := hat 2 (by omega)
      obtain ⟨p3, d3⟩ := hat 3 (by omega)
      obtain ⟨p4, d4⟩ := hat 4 (by omega)
      rw [Nat.add_zero] at d0
      have z0 := ho.frozenAt (k * 5)
      have z1 := ho.frozenAt (k * 5 + 1)
      have z2 := ho.frozenAt (k * 5 + 2)
      have z3 := ho.frozenAt (k * 5 + 3)
      have z4 := ho.frozenAt (k * 5 + 4)
      have hst := own5o ho (k * 5) (.int .i64 (upO (q + 5 * (k : Int))).g) (.int .i64 (upO (q + 5 * (k : Int))).f) (.int .i64 (upO (q + 5 * (k : Int))).b.l) (.int .i64 (upO (q + 5 * (k : Int))).b.s) (.int .i64 (upO (q + 5 * (k : Int))).b.g)
      rw [laid5o (upsO q k) M k n (upsO_length q k) hlt hMl (upO (q + 5 * (k : Int))), ← upsO_succ] at hst
      simp only [upO] at hst
      clear hat hll ho h
      go_wp2_with fail
      refine ⟨⟨k + 1, by omega, by go_num, ?_, hst.1, grown_trans hf hst.2⟩, ?_⟩
      · congr 1; push_cast; omega
      · simp only [intOf]; omega
    · have ek : k = n := by omega
      have hd : M.drop (k * 5) = [] := List.drop_eq_nil_of_le (by rw [hMl, ek]; omega)
      rw [hd, List.append_nil, ek] at ho
      have HK : Hid (k = n) := ek
      clear ek hd
      go_wp2_with fail
      go_ret
      refine ⟨?_, ⟨g, cap, by rw [upsO_length], by rw [upsO_length]; exact ho, by rw [upsO_length]; exact hl⟩, hf⟩
      have := HK.out
      exact ret_int (by omega)

set_option maxRecDepth 20000 in
set_option maxHeartbeats 2000000 in
theorem heldOws_any (ao : Option Addr) (n cap : Nat) (q : Int) (w : World) (q0 : 0 ≤ q) (q1 : q ≤ 4294967296) (h : ReadsG LO w ao (upsO q n)) :
    Calls Try.prog 33 #[.slice ao n cap, .int .i64 q] w fun e w' => e = .returned (.int .i64 (q + 5 * (n : Int))) ∧ w' = w := by
  have hl : n ≤ 16777216 := by have := h.len; rwa [upsO_length] at this
  go_enter Try.func33, Try.ntmps33
  go_wp2_with fail
  go_loop [1, 5] (fun c i => ∃ k : Nat, k ≤ n ∧ i = .int .i64 k ∧ c = .int .i64 (q + 5 * (k : Int))) (fun _ i => n - (intOf i).toNat)
  case atStart => exact ⟨0, Nat.zero_le _, rfl, by simp⟩
  case round =>
    obtain ⟨k, hk, rfl, rfl⟩ := hrel
    by_cases hlt : k < n
    · have hlt' : k < (upsO q n).length := by rw [upsO_length]; exact hlt
      obtain ⟨b, off, rfl, c0, c1, c2, c3, c4⟩ := ow_at h k hlt'
      rw [upsO_at] at c0 c1 c2 c3 c4
      simp only [upO] at c0 c1 c2 c3 c4
      clear h
      go_wp2_with fail
      go_round
      case rel => exact ⟨k + 1, by omega, by go_num, by congr 1; push_cast; omega⟩
      case measure => simp [intOf]; omega
    · have ek : k = n := by omega
      have HK : Hid (k = n) := ek
      clear ek
      go_wp2_with fail
      go_ret
      have := HK.out
      exact ⟨ret_int (by omega), rfl⟩

/-- The lists of both: one that owns nothing (none, no length) or an owned one. -/
theorem markSm_nil (q p u : Int) (w : World) :
    Calls Try.prog 14 #[.agg #[.slice none 0 0, .int .i64 p, .int .i64 u], .int .i64 q] w fun e w' => e = .returned (.int .i64 q) ∧ Fr w w' := by
  have f := Fr.alloc w (.cells #[.slice none 0 0, .int .i64 p, .int .i64 u] 33)
  have c : ∀ w, Calls Try.prog 32 #[.slice none 0 0, .int .i64 q] w fun e w' => e = .returned (.int .i64 q) ∧ w' = w := by
    intro w
    go_enter Try.func32, Try.ntmps32
    go_wp2_with fail
    go_loop [1, 5] (fun c i => c = .int .i64 q ∧ i = .int .i64 0) (fun _ _ => 0)
    case atStart => exact ⟨rfl, rfl⟩
    case round =>
      obtain ⟨rfl, rfl⟩ := hrel
      go_wp2_with fail
      go_ret
      exact ⟨rfl, rfl⟩
  go_enter Try.func14, Try.ntmps14
  go_wp2_with fail
  refine (c _).mono ?_
  rintro e u1 ⟨rfl, rfl⟩
  go_wp2_with fail
  go_ret
  exact ⟨rfl, f⟩
theorem markSm_any (g n cap base : Nat) (q p u : Int) (ps : List Ow) (w : World) (hn : ps.length = n) (q0 : 0 ≤ q) (q1 : q ≤ 4294967296) (hp : OwnG LO w base (.slice (some ⟨g, 0, none⟩) n cap) ps) :
    Calls Try.prog 14 #[.agg #[.slice (some ⟨g, 0, none⟩) n cap, .int .i64 p, .int .i64 u], .int .i64 q] w fun e w' => e = .returned (.int .i64 (q + 5 * (n : Int))) ∧ OwnG LO w' base (.slice (some ⟨g, 0, none⟩) n cap) (upsO q n) ∧ w.grownBy w' (some g) := by
  have c := fun w hp => markOws_any g n cap base q ps w hn q0 q1 hp
  have f := Fr.alloc w (.cells #[.slice (some ⟨g, 0, none⟩) n cap, .int .i64 p, .int .i64 u] 33)
  have hp := hp.fr f
  go_enter Try.func14, Try.ntmps14
  go_wp2_with fail
  refine (c _ hp).mono ?_
  rintro e u1 ⟨rfl, ho, k⟩
  go_wp2_with fail
  go_ret
  exact ⟨rfl, ho, grown_trans f.wide k⟩
theorem heldSm_nil (q p u : Int) (w : World) (q0 : 0 ≤ q) :
    Calls Try.prog 15 #[.agg #[.slice none 0 0, .int .i64 p, .int .i64 u], .int .i64 q] w fun e w' => e = .returned (.int .i64 q) ∧ Fr w w' := by
  have f := Fr.alloc w (.cells #[.slice none 0 0, .int .i64 p, .int .i64 u] 33)
  have c : ∀ w, Calls Try.prog 33 #[.slice none 0 0, .int .i64 q] w fun e w' => e = .returned (.int .i64 q) ∧ w' = w := by
    intro w
    go_enter Try.func33, Try.ntmps33
    go_wp2_with fail
    go_loop [1, 5] (fun c i => c = .int .i64 q ∧ i = .int .i64 0) (fun _ _ => 0)
    case atStart => exact ⟨rfl, rfl⟩
    case round =>
      obtain ⟨rfl, rfl⟩ := hrel
      go_wp2_with fail
      go_ret
      exact ⟨rfl, rfl⟩
  go_enter Try.func15, Try.ntmps15
  go_wp2_with fail
  refine (c _).mono ?_
  rintro e u1 ⟨rfl, rfl⟩
  go_wp2_with fail
  go_ret
  exact ⟨rfl, f⟩
theorem heldSm_any (ao : Option Addr) (n cap : Nat) (q p u : Int) (w : World) (q0 : 0 ≤ q) (q1 : q ≤ 4294967296) (h : ReadsG LO w ao (upsO q n)) :
    Calls Try.prog 15 #[.agg #[.slice ao n cap, .int .i64 p, .int .i64 u], .int .i64 q] w fun e w' => e = .returned (.int .i64 (q + 5 * (n : Int))) ∧ Fr w w' := by
  have hl : n ≤ 16777216 := by have := h.len; rwa [upsO_length] at this
  have c := fun w h => heldOws_any ao n cap q w q0 q1 h
  have f := Fr.alloc w (.cells #[.slice ao n cap, .int .i64 p, .int .i64 u] 33)
  have h := h.fr f
  go_enter Try.func15, Try.ntmps15
  go_wp2_with fail
  refine (c _ h).mono ?_
  rintro e u1 ⟨rfl, rfl⟩
  go_wp2_with fail
  go_ret
  exact ⟨rfl, f⟩
end Go.Proofs.Ytkfcchapfklpgaa
/-
  What a look answers, whether taken up or refused.
-/
namespace Go.Proofs.Ytkfcchapfklpgaa
open Go.RowKit

/-- A list of Owns that is nil, or owned. -/
structure AnsO (w : World) (base : Nat) (ga : Option Addr) (n c : Nat) (os : List Ow) : Prop where
  len : os.length = n
  own : (ga = none ∧ n = 0 ∧ c = 0) ∨ ∃ g, ga = some ⟨g, 0, none⟩ ∧ OwnG LO w base (.slice ga n c) os
theorem AnsO.fr {w w' : World} {base : Nat} {ga : Option Addr} {n c : Nat} {os : List Ow} (h : AnsO w base ga n c os) (k : Fr w w') : AnsO w' base ga n c os :=
  ⟨h.len, h.own.imp id fun ⟨g, e, ho⟩ => ⟨g, e, ho.fr k⟩⟩
theorem AnsO.keep {w w' : World} {base : Nat} {ga : Option Addr} {n c : Nat} {os : List Ow} {row : Option Nat} (h : AnsO w base ga n c os) (k : w.grownBy w' row) (hr : ∀ j, blk ga = some j → row ≠ some j) : AnsO w' base ga n c os :=
  ⟨h.len, h.own.imp id fun ⟨g, e, ho⟩ => ⟨g, e, ho.keep k (fun q => hr g (by rw [e]; rfl) (by rw [← q, e]; rfl))⟩⟩
theorem AnsO.lt {w : World} {base : Nat} {ga : Option Addr} {n c : Nat} {os : List Ow} (h : AnsO w base ga n c os) : ∀ j, blk ga = some j → base ≤ j ∧ j < w.heap.size := fun j hj => by
  rcases h.own with ⟨rfl, -⟩ | ⟨g, rfl, ho⟩
  · simp [blk] at hj
  · simp only [blk, Option.map_some, Option.some.injEq] at hj
    subst hj
    exact ⟨ho.blk g rfl, ho.lt g rfl⟩
theorem AnsO.reads {w : World} {base : Nat} {ga : Option Addr} {n c : Nat} {os : List Ow} (h : AnsO w base ga n c os) : ReadsG LO w ga os := by
  rcases h.own with ⟨rfl, rfl, rfl⟩ | ⟨g, rfl, ho⟩
  · have := h.len
    rw [List.length_eq_zero_iff.1 this]
    exact ReadsG.nil _ _ _
  · obtain ⟨g', c', e, ho, hl⟩ := ho
    cases e
    exact own_readsG ho hl
/-- A block that is no list of Owns. -/
theorem AnsO.ne {w : World} {base : Nat} {ga : Option Addr} {n c : Nat} {os : List Ow} (h : AnsO w base ga n c os) {b : Nat} {t : TypeId} {cs : Array Value} (k : KyZ w b t cs) (ht : t ≠ 53) : ∀ j, blk ga = some j → b ≠ j := fun j hj e => by
  rcases h.own with ⟨rfl, -⟩ | ⟨g, rfl, ho⟩
  · simp [blk] at hj
  · simp only [blk, Option.map_some, Option.some.injEq] at hj
    subst hj
    obtain ⟨g', c', e', ⟨-, ho⟩, -⟩ := ho
    cases e'
    rcases ho with ⟨e2, -⟩ | ⟨g2, c2, cur, e2, -, hr, -⟩
    · cases e2
    · cases e2
      unfold KyZ at k
      rw [e, hr] at k
      simp only [Option.some.injEq, Obj.cells.injEq] at k
      exact ht k.2.1.symm
def anS (c : Cf) (xs : List Int) (s : Smp) (n g f : Int) : Smp := if lkR c xs s n g f then lkS c xs s n g f else ⟨[], 0, 0⟩
def anB (c : Cf) (xs : List Int) (s : Smp) (n g f : Int) : Bool := lkR c xs s n g f && lkB c xs s n g f
theorem LkOut.ans {c : Cf} {xs : List Int} {s : Smp} {n g f : Int} {W w' : World} {e : Ending} (h : LkOut c xs s n g f W w' e) :
    ∃ ga ca, e = .returned (.tuple #[.agg #[.slice ga (anS c xs s n g f).os.length ca, .int .i64 (anS c xs s n g f).p, .int .i64 (anS c xs s n g f).u], .bool (anB c xs s n g f)]) ∧ AnsO w' W.heap.size ga (anS c xs s n g f).os.length ca (anS c xs s n g f).os := by
  rcases h with ⟨h, rfl⟩ | ⟨h, ga, ca, rfl, ho⟩
  · refine ⟨none, 0, ?_, ⟨rfl, .inl ⟨rfl, by simp [anS, h], rfl⟩⟩⟩
    simp [anS, anB, h]
  · refine ⟨some ⟨ga, 0, none⟩, ca, ?_, ⟨rfl, .inr ⟨ga, rfl, ?_⟩⟩⟩
    · simp [anS, anB, h]
    · simpa [anS, h] using ho
theorem markAns_any (ga : Option Addr) (n c base : Nat) (q p u : Int) (os : List Ow) (w : World) (q0 : 0 ≤ q) (q1 : q ≤ 4294967296) (h : AnsO w base ga n c os) :
    Calls Try.prog 14 #[.agg #[.slice ga n c, .int .i64 p, .int .i64 u], .int .i64 q] w fun e w' => e = .returned (.int .i64 (q + 5 * (n : Int))) ∧ AnsO w' base ga n c (upsO q n) ∧ w.grownBy w' (blk ga) := by
  have hl := h.len
  rcases h.own with ⟨rfl, rfl, rfl⟩ | ⟨g, rfl, ho⟩
  · refine (markSm_nil q p u w).mono ?_
    rintro e w' ⟨rfl, f⟩
    exact ⟨by simp, ⟨by simp [upsO], .inl ⟨rfl, rfl, rfl⟩⟩, f⟩
  · refine (markSm_any g n c base q p u os w hl q0 q1 ho).mono ?_
    rintro e w' ⟨rfl, ho', k⟩
    exact ⟨rfl, ⟨upsO_length _ _, .inr ⟨g, rfl, ho'⟩⟩, k⟩
end Go.Proofs.Ytkfcchapfklpgaa
/-
  The walk of the laws' toInt64S: a copy in new memory.
-/
namespace Go.Proofs.Ytkfcchapfklpgaa
open Go.RowKit

theorem take_succ_map (xs : List Int) (k : Nat) (h : k < xs.length) :
    (((xs.take k).map (Value.int .i64)) ++ List.replicate (xs.length - k) (Value.int .i64 0)).set k (.int .i64 xs[k]) =
      ((xs.take (k + 1)).map (Value.int .i64)) ++ List.replicate (xs.length - (k + 1)) (Value.int .i64 0) := by
  apply List.ext_getElem?
  intro j
  simp only [List.getElem?_set, List.getElem?_append, List.length_append, List.length_map, List.length_take, List.length_replicate, List.getElem?_map, List.getElem?_take, List.getElem?_replicate]
  by_cases hj : j = k
  · subst hj
    have e1 : j < min (j + 1) xs.length := by omega
    rw [if_pos rfl, if_pos (by omega), if_pos e1, if_pos (by omega), List.getElem?_eq_getElem h]
    rfl
  · by_cases hlt : j < k
    · have e1 : j < min k xs.length := by omega
      have e2 : j < min (k + 1) xs.length := by omega
      rw [if_neg (by omega), if_pos e1, if_pos e2, if_pos hlt, if_pos (by omega)]
    · have e1 : ¬ j < min k xs.length := by omega
      have e2 : ¬ j < min (k + 1) xs.length := by omega
      rw [if_neg (by omega), if_neg e1, if_neg e2]
      by_cases h3 : j < xs.length
      · rw [if_pos (by omega), if_pos (by omega)]
      · rw [if_neg (by omega), if_neg (by omega)]

set_option maxHeartbeats 400000 in
theorem toI_any (ao : Option Addr) (n cap : Nat) (xs : List Int) (w : World) (hn : xs.length = n) (h : Reads w ao xs) :
    Calls Try.prog 17 #[.slice ao n cap] w fun e w' => e = .returned (.slice (some ⟨w.heap.size, 0, none⟩) n n) ∧ OwnI w' w.heap.size (.slice (some ⟨w.heap.size, 0, none⟩) n n) xs ∧ Fr w w' := by
  subst hn
  have hl := h.len
  obtain ⟨i0, hi, hz0, hz1, hz2⟩ := info_parts Try.info2
  go_enter Try.func17, Try.ntmps17
  go_wp2_with (at_make; refine wpList_make_full _ rfl _ _ 40 rfl w.heap.size 2 i0 (.int .i64 0) 1 Try.underlying40 hi hz0 hz1 .i64 .i64 _ _ xs.length rfl rfl rfl rfl (by rw [hz2]; omega) (by unfold maxLen; omega) (Nat.le_refl _) ?_; intro w1 hown hgrow)
  go_loopw [4] (fun i wr => ∃ k : Nat, k ≤ xs.length ∧ i = .int .i64 k ∧ wr.ownsRow w.heap.size 2 1 (.slice (some ⟨w.heap.size, 0, none⟩) xs.length xs.length) xs.length (((xs.take k).map (Value.int .i64)) ++ List.replicate (xs.length - k) (Value.int .i64 0)) ∧ Fr w wr) (fun i _ => xs.length - (intOf i).toNat)
  case atStart =>
    refine ⟨0, Nat.zero_le _, rfl, ?_, hgrow⟩
    simpa [toList_madeCells_one, Value.cells] using hown
  case round =>
    obtain ⟨k, hk, rfl, ho, hf⟩ := hrel
    by_cases hlt : k < xs.length
    · obtain ⟨b, off, rfl, hc⟩ := h.at_ k hlt
      have hck := hf.cell (hc k hlt)
      have hfz := ho.frozenAt k
      have hce := ho.cellAt k (by omega)
      rw [getD_at hlt] at hck
      have hst := ho.stored k (.int .i64 xs[k])
      rw [take_succ_map xs k hlt] at hst
      clear hc hown hgrow
      go_wp2
      go_roundw
      case rel => exact ⟨k + 1, by omega, by go_num, hst.1, hf.then hst.2 (by intro j hj; simp at hj; omega)⟩
      case measure => simp [intOf]; omega
    · go_wp2
      go_ret
      have hkn : k = xs.length := by omega
      subst hkn
      refine ⟨rfl, ⟨?_, hl, h.bd⟩, hf⟩
      simpa using ho
end Go.Proofs.Ytkfcchapfklpgaa
