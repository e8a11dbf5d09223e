/-
  The specification's Look.
-/
import Derived.Test.YtkfcchapfklpgaaPackAF
import Derived.Test.YtkfcchapfklpgaaPackAD
import Derived.Test.YtkfcchapfklpgaaPackAG
namespace Go.Proofs.Ytkfcchapfklpgaa
open Go.RowKit
set_option linter.unusedSimpArgs false
set_option linter.unusedVariables false

/-- Is a look taken up? -/
def lkR (c : Cf) (xs : List Int) (s : Smp) (n g f : Int) : Bool := lkOk c xs s n g f && !fullB c xs s n g f
def LkOut (c : Cf) (xs : List Int) (s : Smp) (n g f : Int) (W w' : World) (e : Ending) : Prop :=
  (lkR c xs s n g f = false ∧ e = .returned (.tuple #[.agg #[.slice none 0 0, .int .i64 0, .int .i64 0], .bool false])) ∨
  (lkR c xs s n g f = true ∧ ∃ ga ca, e = .returned (.tuple #[.agg #[.slice (some ⟨ga, 0, none⟩) (lkS c xs s n g f).os.length ca, .int .i64 (lkS c xs s n g f).p, .int .i64 (lkS c xs s n g f).u], .bool (lkB c xs s n g f)]) ∧ OwnG LO w' W.heap.size (.slice (some ⟨ga, 0, none⟩) (lkS c xs s n g f).os.length ca) (lkS c xs s n g f).os)
theorem lk_no0 {c : Cf} {xs : List Int} {s : Smp} {n g f : Int} (h : smB c s = false) : lkR c xs s n g f = false := by simp [lkR, lkOk, h]
theorem lk_no1 {c : Cf} {xs : List Int} {s : Smp} {n g f : Int} (h : dwB xs = false) : lkR c xs s n g f = false := by simp [lkR, lkOk, stB, h]
theorem lk_no2 {c : Cf} {xs : List Int} {s : Smp} {n g f : Int} (h : inB 0 299 n = false) : lkR c xs s n g f = false := by simp [lkR, lkOk, h]
theorem lk_no3 {c : Cf} {xs : List Int} {s : Smp} {n g f : Int} (h : inB 0 15 g = false) : lkR c xs s n g f = false := by simp [lkR, lkOk, h]
theorem lk_no4 {c : Cf} {xs : List Int} {s : Smp} {n g f : Int} (h : inB 0 999 f = false) : lkR c xs s n g f = false := by simp [lkR, lkOk, h]
theorem lk_yes {c : Cf} {xs : List Int} {s : Smp} {n g f : Int} (h0 : smB c s = true) (h1 : dwB xs = true) (h2 : inB 0 299 n = true) (h3 : inB 0 15 g = true) (h4 : inB 0 999 f = true) : lkR c xs s n g f = !fullB c xs s n g f := by
  simp [lkR, lkOk, stB, h0, h1, h2, h3, h4, (smB_in h0).1]
theorem lk_off {c : Cf} {xs : List Int} {s : Smp} {n g f : Int} (h : lkR c xs s n g f = !fullB c xs s n g f) (ho : onB c xs n = false) : lkR c xs s n g f = true ∧ lkS c xs s n g f = s ∧ lkB c xs s n g f = false := by
  refine ⟨?_, ?_, ?_⟩
  · rw [h]; simp [fullB, ho]
  · simp [lkS, ho]
  · simp [lkB, ho]
theorem lk_full {c : Cf} {xs : List Int} {s : Smp} {n g f : Int} (h0 : smB c s = true) (h : lkR c xs s n g f = !fullB c xs s n g f) (ho : onB c xs n = true) (x : Bu) (hl : 300 < (putO s.os ⟨g, f, x⟩).length) : lkR c xs s n g f = false := by
  have h1 := smB_in h0
  rw [putO_len h1.2.2.2.2.2] at hl
  rw [h, fullB, ho]
  simp only at hl
  by_cases e : (getO s.os g f).isSome = true
  · rw [if_pos e] at hl; have := h1.2.1; omega
  · rw [if_neg e] at hl
    rw [Bool.not_eq_true] at e
    rw [e, decide_eq_true (show 300 ≤ s.os.length by omega)]
    rfl
theorem lk_on {c : Cf} {xs : List Int} {s : Smp} {n g f : Int} (h0 : smB c s = true) (h : lkR c xs s n g f = !fullB c xs s n g f) (ho : onB c xs n = true) (hl : ¬ 300 < (putO s.os ⟨g, f, stB1 c (ofO c s.os g f)⟩).length) (t : Bool) (ht : (stB2 c (ofO c s.os g f) && decide (lkU c s n < c.q)) = t) :
    lkR c xs s n g f = true ∧ lkS c xs s n g f = ⟨putO s.os ⟨g, f, stB1 c (ofO c s.os g f)⟩, n / c.s, if t then lkU c s n + 1 else lkU c s n⟩ ∧ lkB c xs s n g f = t := by
  have h1 := smB_in h0
  refine ⟨?_, ?_, ?_⟩
  · rw [putO_len h1.2.2.2.2.2] at hl
    rw [h, fullB, ho]
    simp only at hl
    by_cases e : (getO s.os g f).isSome = true
    · rw [e]; rfl
    · rw [if_neg e] at hl
      rw [decide_eq_false (show ¬ 300 ≤ s.os.length by omega)]
      simp
  · simp only [lkS, ho, if_true, lkT, ht]
  · simp only [lkB, ho, lkT, ht, Bool.true_and]

def vlK (cv sv gv fv bu bv : Value) (t : Bool) (i : Nat) : Value := [cv, cv, sv, gv, fv, bu, .tuple #[bv, .bool t], .tuple #[bv, .bool t], bv, .bool t, undef, undef, .bool t].getD i undef
def sgK (i : Nat) : Nat := [64, 65, 66, 67, 68, 69, 70, 63, 71, 72, 15, 200, 16].getD i 0
set_option maxRecDepth 20000 in
set_option maxHeartbeats 16000000 in
theorem look_spec (c : Cf) (ao : Option Addr) (N cap : Nat) (xs : List Int) (so : Option Addr) (sn sc : Nat) (os : List Ow) (p u n g f : Int) (W : World) (hN : xs.length = N) (hn : os.length = sn) (hX : Reads W ao xs) (hS : ReadsG LO W so os) (hI : n ≤ 9223372036854775807) :
    Calls Try.prog 16 #[.agg #[.int .i64 c.r, .int .i64 c.s, .int .i64 c.b, .int .i64 c.m, .int .i64 c.q, .int .i64 c.c, .int .i64 c.w], .slice ao N cap, .agg #[.slice so sn sc, .int .i64 p, .int .i64 u], .int .i64 n, .int .i64 g, .int .i64 f] W fun e w' => LkOut c xs ⟨os, p, u⟩ n g f W w' e ∧ Fr W w' := by
  subst hN hn
  have c0 := fun u' h => smOk_spec c so os.length sc os p u u' rfl h
  have c1 := fun u h => dwOk_spec ao xs.length cap xs u rfl h
  have c2 := fun w => l1In_any n 0 299 w
  have c3 := fun w => gorSp_any g w
  have c4 := fun w => l1In_any f 0 999 w
  have c5 := fun u' h => copy_any so os.length sc os p u u' rfl h
  have c6 := fun u h => onAt_spec c ao xs.length cap xs n u rfl h hI
  have c7 := fun u' h => of_any c so os.length sc os p u g f u' rfl h
  have c8 := fun u => buStep_spec c (ofO c os g f) u
  have f1 := Fr.alloc W (.cells #[.int .i64 c.r, .int .i64 c.s, .int .i64 c.b, .int .i64 c.m, .int .i64 c.q, .int .i64 c.c, .int .i64 c.w] 29)
  have aC := CfAt.new W c 29
  have f2 := Fr.alloc (W.alloc (.cells #[.int .i64 c.r, .int .i64 c.s, .int .i64 c.b, .int .i64 c.m, .int .i64 c.q, .int .i64 c.c, .int .i64 c.w] 29)) (.cells #[.slice so os.length sc, .int .i64 p, .int .i64 u] 33)
  have zS : KyZ ((W.alloc (.cells #[.int .i64 c.r, .int .i64 c.s, .int .i64 c.b, .int .i64 c.m, .int .i64 c.q, .int .i64 c.c, .int .i64 c.w] 29)).alloc (.cells #[.slice so os.length sc, .int .i64 p, .int .i64 u] 33)) (W.alloc (.cells #[.int .i64 c.r, .int .i64 c.s, .int .i64 c.b, .int .i64 c.m, .int .i64 c.q, .int .i64 c.c, .int .i64 c.w] 29)).heap.size 33 #[.slice so os.length sc, .int .i64 p, .int .i64 u] := heap_alloc_new _ _
  have f3 := Fr.alloc ((W.alloc (.cells #[.int .i64 c.r, .int .i64 c.s, .int .i64 c.b, .int .i64 c.m, .int .i64 c.q, .int .i64 c.c, .int .i64 c.w] 29)).alloc (.cells #[.slice so os.length sc, .int .i64 p, .int .i64 u] 33)) (.cells #[.slice none 0 0, .int .i64 0, .int .i64 0] 33)
  have zR : KyZ (((W.alloc (.cells #[.int .i64 c.r, .int .i64 c.s, .int .i64 c.b, .int .i64 c.m, .int .i64 c.q, .int .i64 c.c, .int .i64 c.w] 29)).alloc (.cells #[.slice so os.length sc, .int .i64 p, .int .i64 u] 33)).alloc (.cells #[.slice none 0 0, .int .i64 0, .int .i64 0] 33)) ((W.alloc (.cells #[.int .i64 c.r, .int .i64 c.s, .int .i64 c.b, .int .i64 c.m, .int .i64 c.q, .int .i64 c.c, .int .i64 c.w] 29)).alloc (.cells #[.slice so os.length sc, .int .i64 p, .int .i64 u] 33)).heap.size 33 #[.slice none 0 0, .int .i64 0, .int .i64 0] := heap_alloc_new _ _
  simp only [World.size_alloc] at zS zR
  replace aC := (aC.fr f2).fr f3
  replace zS := zS.fr f3
  have F := (f1.trans f2).trans f3
  have hR := hS.fr F
  have hX := hX.fr F
  clear f1 f2 f3 hS
  have H0 : Hid (smB c ⟨os, p, u⟩ = false → lkR c xs ⟨os, p, u⟩ n g f = false) := lk_no0
  have H1 : Hid (dwB xs = false → lkR c xs ⟨os, p, u⟩ n g f = false) := lk_no1
  have H2 : Hid (inB 0 299 n = false → lkR c xs ⟨os, p, u⟩ n g f = false) := lk_no2
  have H3 : Hid (inB 0 15 g = false → lkR c xs ⟨os, p, u⟩ n g f = false) := lk_no3
  have H4 : Hid (inB 0 999 f = false → lkR c xs ⟨os, p, u⟩ n g f = false) := lk_no4
  have HYY : Hid (smB c ⟨os, p, u⟩ = true → dwB xs = true → inB 0 299 n = true → inB 0 15 g = true → inB 0 999 f = true → lkR c xs ⟨os, p, u⟩ n g f = !fullB c xs ⟨os, p, u⟩ n g f) := lk_yes
  have HSM : Hid (∃ B0, B0 = smB c ⟨os, p, u⟩) := ⟨_, rfl⟩
  obtain ⟨B0, hB0⟩ := HSM.out
  obtain ⟨B1, hB1⟩ : ∃ B, B = dwB xs := ⟨_, rfl⟩
  obtain ⟨B2, hB2⟩ : ∃ B, B = inB 0 299 n := ⟨_, rfl⟩
  obtain ⟨B3, hB3⟩ : ∃ B, B = inB 0 15 g := ⟨_, rfl⟩
  obtain ⟨B4, hB4⟩ : ∃ B, B = inB 0 999 f := ⟨_, rfl⟩
  simp only [← hB0] at c0
  simp only [← hB1] at c1
  simp only [← hB2] at c2
  simp only [← hB3] at c3
  simp only [← hB4] at c4
  have H0 : Hid (B0 = false → lkR c xs ⟨os, p, u⟩ n g f = false) := fun e => H0.out (by rw [← hB0]; exact e)
  have H1 : Hid (B1 = false → lkR c xs ⟨os, p, u⟩ n g f = false) := fun e => H1.out (by rw [← hB1]; exact e)
  have H2 : Hid (B2 = false → lkR c xs ⟨os, p, u⟩ n g f = false) := fun e => H2.out (by rw [← hB2]; exact e)
  have H3 : Hid (B3 = false → lkR c xs ⟨os, p, u⟩ n g f = false) := fun e => H3.out (by rw [← hB3]; exact e)
  have H4 : Hid (B4 = false → lkR c xs ⟨os, p, u⟩ n g f = false) := fun e => H4.out (by rw [← hB4]; exact e)
  have HB : Hid (B0 = smB c ⟨os, p, u⟩ ∧ B2 = inB 0 299 n ∧ B1 = dwB xs ∧ B3 = inB 0 15 g ∧ B4 = inB 0 999 f) := ⟨hB0, hB2, hB1, hB3, hB4⟩
  clear hB0 hB1 hB2 hB3 hB4 HSM
  obtain ⟨Z, hZ⟩ : ∃ Z, Z = W.heap.size := ⟨_, rfl⟩
  have HZ : Hid (Z = W.heap.size) := hZ
  rw [← hZ] at aC zS zR
  clear hZ
  obtain ⟨V, hV⟩ : ∃ V, V = ((W.alloc (.cells #[.int .i64 c.r, .int .i64 c.s, .int .i64 c.b, .int .i64 c.m, .int .i64 c.q, .int .i64 c.c, .int .i64 c.w] 29)).alloc (.cells #[.slice so os.length sc, .int .i64 p, .int .i64 u] 33)).alloc (.cells #[.slice none 0 0, .int .i64 0, .int .i64 0] 33) := ⟨_, rfl⟩
  rw [← hV] at aC F zS zR hR hX
  have HQ : Hid (∀ w, Fr V w → CfAt w Z 0 c ∧ KyZ w (Z + 1) 33 #[.slice so os.length sc, .int .i64 p, .int .i64 u] ∧ KyZ w (Z + 1 + 1) 33 #[.slice none 0 0, .int .i64 0, .int .i64 0] ∧ ReadsG LO w so os ∧ Reads w ao xs ∧ Fr W w) := fun w k => ⟨aC.fr k, zS.fr k, zR.fr k, hR.fr k, hX.fr k, F.trans k⟩
  clear aC zS zR hR hX F
  have HZ1 : Hid (V.heap.size = Z + 1 + 1 + 1) := by rw [hV, HZ.out]; simp [Hid]
  have HOF : Hid (∃ OF, OF = ofO c os g f) := ⟨_, rfl⟩
  obtain ⟨OF, hOF⟩ := HOF.out
  rw [← hOF] at c7 c8
  have HOF : Hid (OF = ofO c os g f) := hOF
  clear hOF
  obtain ⟨S1, hS1⟩ : ∃ S1, S1 = stB1 c OF := ⟨_, rfl⟩
  obtain ⟨T, hT⟩ : ∃ T, T = stB2 c OF := ⟨_, rfl⟩
  simp only [← hS1, ← hT] at c8
  have HST : Hid (S1 = stB1 c OF ∧ T = stB2 c OF) := ⟨hS1, hT⟩
  clear hS1 hT
  obtain ⟨ON, hON⟩ : ∃ ON, ON = onAtB c xs n := ⟨_, rfl⟩
  simp only [← hON] at c6
  have HON : Hid (ON = onAtB c xs n) := hON
  clear hON
  obtain ⟨r, s, b, m, q, cc, cw⟩ := c
  simp only at c0 c6 c7 c8 hV
  go_enter Try.func16, Try.ntmps16
  go_upto_region 1 with fail
  rw [← hV]
  have hZ9 := HZ.out
  rw [← hZ9]
  clear hV hZ9
  obtain ⟨⟨ak0, ak1, ak2, ak3, ak4, ak5, ak6⟩, zS, zR, hR, hX, F⟩ := HQ.out V (Fr.refl V)
  simp only [Nat.zero_add] at ak0 ak1 ak2 ak3 ak4 ak5 ak6
  obtain ⟨z0, z1, z2⟩ := zS.c3
  go_wp2_with fail
  refine (c0 _ hR).mono ?_
  rintro e u1 ⟨rfl, k1⟩
  obtain ⟨⟨ak0, ak1, ak2, ak3, ak4, ak5, ak6⟩, zS, zR, hR, hX, F⟩ := HQ.out u1 k1
  simp only [Nat.zero_add] at ak0 ak1 ak2 ak3 ak4 ak5 ak6
  obtain ⟨z0, z1, z2⟩ := zS.c3
  cases B0
  · have HF := H0.out rfl
    have HF : Hid (_ = _) := HF
    have zQ := ((zR.put0 (.slice none 0 0)).put1 (.int .i64 0)).put2 (.int .i64 0)
    have g2 := grown_trans (grown_trans (grown_set u1 (Z + 1 + 1) 0 (.slice none 0 0)) (grown_set _ (Z + 1 + 1) 1 (.int .i64 0))) (grown_set _ (Z + 1 + 1) 2 (.int .i64 0))
    obtain ⟨q0, q1, q2⟩ := zQ.c3
    obtain ⟨r0, r1, r2⟩ := zR.c3
    have rf := fun i => zR.free i
    have F9 := F.then g2 (fun j e => by cases e; have := HZ.out; omega)
    clear zQ
    go_wp2_with fail
    exact bodyPost_ret (v := .tuple #[.agg #[.slice none 0 0, .int .i64 0, .int .i64 0], .bool false]) (by simp [results, Try.results16, go_sem, q0, q1, q2]) rfl ⟨.inl ⟨HF.out, rfl⟩, F9⟩
  go_wp2_with fail
  refine (c1 _ hX).mono ?_
  rintro e u1 ⟨rfl, rfl⟩
  cases B1
  · have HF := H1.out rfl
    have HF : Hid (_ = _) := HF
    have zQ := ((zR.put0 (.slice none 0 0)).put1 (.int .i64 0)).put2 (.int .i64 0)
    have g2 := grown_trans (grown_trans (grown_set u1 (Z + 1 + 1) 0 (.slice none 0 0)) (grown_set _ (Z + 1 + 1) 1 (.int .i64 0))) (grown_set _ (Z + 1 + 1) 2 (.int .i64 0))
    obtain ⟨q0, q1, q2⟩ := zQ.c3
    obtain ⟨r0, r1, r2⟩ := zR.c3
    have rf := fun i => zR.free i
    have F9 := F.then g2 (fun j e => by cases e; have := HZ.out; omega)
    clear zQ
    go_wp2_with fail
    exact bodyPost_ret (v := .tuple #[.agg #[.slice none 0 0, .int .i64 0, .int .i64 0], .bool false]) (by simp [results, Try.results16, go_sem, q0, q1, q2]) rfl ⟨.inl ⟨HF.out, rfl⟩, F9⟩
  go_wp2_with fail
  refine (c2 _).mono ?_
  rintro e u1 ⟨rfl, rfl⟩
  cases B2
  · have HF := H2.out rfl
    have HF : Hid (_ = _) := HF
    have zQ := ((zR.put0 (.slice none 0 0)).put1 (.int .i64 0)).put2 (.int .i64 0)
    have g2 := grown_trans (grown_trans (grown_set u1 (Z + 1 + 1) 0 (.slice none 0 0)) (grown_set _ (Z + 1 + 1) 1 (.int .i64 0))) (grown_set _ (Z + 1 + 1) 2 (.int .i64 0))
    obtain ⟨q0, q1, q2⟩ := zQ.c3
    obtain ⟨r0, r1, r2⟩ := zR.c3
    have rf := fun i => zR.free i
    have F9 := F.then g2 (fun j e => by cases e; have := HZ.out; omega)
    clear zQ
    go_wp2_with fail
    exact bodyPost_ret (v := .tuple #[.agg #[.slice none 0 0, .int .i64 0, .int .i64 0], .bool false]) (by simp [results, Try.results16, go_sem, q0, q1, q2]) rfl ⟨.inl ⟨HF.out, rfl⟩, F9⟩
  go_wp2_with fail
  refine (c3 _).mono ?_
  rintro e u1 ⟨rfl, rfl⟩
  cases B3
  · have HF := H3.out rfl
    have HF : Hid (_ = _) := HF
    have zQ := ((zR.put0 (.slice none 0 0)).put1 (.int .i64 0)).put2 (.int .i64 0)
    have g2 := grown_trans (grown_trans (grown_set u1 (Z + 1 + 1) 0 (.slice none 0 0)) (grown_set _ (Z + 1 + 1) 1 (.int .i64 0))) (grown_set _ (Z + 1 + 1) 2 (.int .i64 0))
    obtain ⟨q0, q1, q2⟩ := zQ.c3
    obtain ⟨r0, r1, r2⟩ := zR.c3
    have rf := fun i => zR.free i
    have F9 := F.then g2 (fun j e => by cases e; have := HZ.out; omega)
    clear zQ
    go_wp2_with fail
    exact bodyPost_ret (v := .tuple #[.agg #[.slice none 0 0, .int .i64 0, .int .i64 0], .bool false]) (by simp [results, Try.results16, go_sem, q0, q1, q2]) rfl ⟨.inl ⟨HF.out, rfl⟩, F9⟩
  go_wp2_with fail
  refine (c4 _).mono ?_
  rintro e u1 ⟨rfl, rfl⟩
  cases B4
  · have HF := H4.out rfl
    have HF : Hid (_ = _) := HF
    have zQ := ((zR.put0 (.slice none 0 0)).put1 (.int .i64 0)).put2 (.int .i64 0)
    have g2 := grown_trans (grown_trans (grown_set u1 (Z + 1 + 1) 0 (.slice none 0 0)) (grown_set _ (Z + 1 + 1) 1 (.int .i64 0))) (grown_set _ (Z + 1 + 1) 2 (.int .i64 0))
    obtain ⟨q0, q1, q2⟩ := zQ.c3
    obtain ⟨r0, r1, r2⟩ := zR.c3
    have rf := fun i => zR.free i
    have F9 := F.then g2 (fun j e => by cases e; have := HZ.out; omega)
    clear zQ
    go_wp2_with fail
    exact bodyPost_ret (v := .tuple #[.agg #[.slice none 0 0, .int .i64 0, .int .i64 0], .bool false]) (by simp [results, Try.results16, go_sem, q0, q1, q2]) rfl ⟨.inl ⟨HF.out, rfl⟩, F9⟩
  obtain ⟨e0, e2, e1, e3, e4⟩ := HB.out
  have HY := HYY.out e0.symm e1.symm e2.symm e3.symm e4.symm
  have hin := inB_true e2.symm
  have hsm := smB_in e0.symm
  have HSM : Hid (smB ⟨r, s, b, m, q, cc, cw⟩ ⟨os, p, u⟩ = true) := e0.symm
  have HY : Hid (_ = _) := HY
  have hcf := cfB_in hsm.1
  have hon : ON = onB ⟨r, s, b, m, q, cc, cw⟩ xs n := by rw [HON.out, onAtB, stB, hsm.1, ← e1, decide_eq_true hin.1]; rfl
  have HON : Hid (ON = onB ⟨r, s, b, m, q, cc, cw⟩ xs n) := hon
  clear e0 e1 e2 e3 e4 hon H0 H1 H2 H3 H4 HYY HB c0 c1 c2 c3 c4
  simp only at hsm hcf
  clear ak0 ak1 ak2 ak3 ak4 ak5 ak6 zR hX F
  have cq := (fun (w : World) (k : Fr V w) => HQ.out w k)
  go_wp2_with fail
  refine (c5 _ hR).mono ?_
  rintro e u2 ⟨cg, c5c, rfl, O5, k2⟩
  have kO : KyZ (u2.alloc (.cells #[.slice (some ⟨cg, 0, none⟩) os.length c5c, .int .i64 p, .int .i64 u] 33)) u2.heap.size 33 #[.slice (some ⟨cg, 0, none⟩) os.length c5c, .int .i64 p, .int .i64 u] := heap_alloc_new _ _
  have fO := Fr.alloc u2 (.cells #[.slice (some ⟨cg, 0, none⟩) os.length c5c, .int .i64 p, .int .i64 u] 33)
  have bkC : u1.heap.size ≤ cg := O5.blk cg rfl
  have bkD := O5.lt cg rfl
  have O5 := O5.fr fO
  have k3 := (k1.trans k2).trans fO
  have hOz : Z + 1 + 1 + 1 ≤ u2.heap.size := by have := (k1.trans k2).size; have := HZ1.out; omega
  have bkC : Z + 1 + 1 + 1 ≤ cg := by have := k1.size; have := HZ1.out; omega
  obtain ⟨O, hO⟩ : ∃ O, O = u2.heap.size := ⟨_, rfl⟩
  obtain ⟨U, hU⟩ : ∃ U, U = u2.alloc (.cells #[.slice (some ⟨cg, 0, none⟩) os.length c5c, .int .i64 p, .int .i64 u] 33) := ⟨_, rfl⟩
  rw [← hO] at kO hOz bkD
  rw [← hU] at kO O5 k3
  have HK : Hid (cg < O ∧ Z + 1 + 1 + 1 ≤ cg ∧ Z + 1 + 1 + 1 ≤ O) := ⟨bkD, bkC, hOz⟩
  have HB1 : Hid (W.heap.size ≤ u1.heap.size) := (HQ.out u1 k1).2.2.2.2.2.size
  clear fO bkC bkD hOz zS z0 z1 z2 hR k1 k2
  obtain ⟨⟨ak0, ak1, ak2, ak3, ak4, ak5, ak6⟩, zS, zR, hR, hX, F⟩ := cq U k3
  simp only [Nat.zero_add] at ak0 ak1 ak2 ak3 ak4 ak5 ak6
  go_upto_region 4 with fail
  rw [← hU, ← hO]
  clear hU hO
  go_wp2_with fail
  refine (c6 _ hX).mono ?_
  rintro e u3 ⟨rfl, k4⟩
  have kO := kO.fr k4
  have O5 := O5.fr k4
  have k3 := k3.trans k4
  clear k4 ak0 ak1 ak2 ak3 ak4 ak5 ak6 zS zR hR hX F
  obtain ⟨⟨ak0, ak1, ak2, ak3, ak4, ak5, ak6⟩, zS, zR, hR, hX, F⟩ := cq u3 k3
  simp only [Nat.zero_add] at ak0 ak1 ak2 ak3 ak4 ak5 ak6
  obtain ⟨o0, o1, o2⟩ := kO.c3
  cases ON
  · obtain ⟨l1, l2, l3⟩ := lk_off HY.out HON.out.symm
    have HL : Hid (lkR ⟨r, s, b, m, q, cc, cw⟩ xs ⟨os, p, u⟩ n g f = true ∧ lkS ⟨r, s, b, m, q, cc, cw⟩ xs ⟨os, p, u⟩ n g f = ⟨os, p, u⟩ ∧ lkB ⟨r, s, b, m, q, cc, cw⟩ xs ⟨os, p, u⟩ n g f = false) := ⟨l1, l2, l3⟩
    clear l1 l2 l3
    have zQ := ((zR.put0 (.slice (some ⟨cg, 0, none⟩) os.length c5c)).put1 (.int .i64 p)).put2 (.int .i64 u)
    have g2 := grown_trans (grown_trans (grown_set u3 (Z + 1 + 1) 0 (.slice (some ⟨cg, 0, none⟩) os.length c5c)) (grown_set _ (Z + 1 + 1) 1 (.int .i64 p))) (grown_set _ (Z + 1 + 1) 2 (.int .i64 u))
    obtain ⟨q0, q1, q2⟩ := zQ.c3
    obtain ⟨r0, r1, r2⟩ := zR.c3
    have rf := fun i => zR.free i
    have F9 := F.then g2 (fun j e => by cases e; have := HZ.out; omega)
    have O9 : OwnG LO _ W.heap.size _ os := OwnG.lower (O5.keep g2 (by simp [Value.ownBlock]; have := HK.out; omega)) HB1.out
    clear zQ
    go_wp2_with fail
    exact bodyPost_ret (v := .tuple #[.agg #[.slice (some ⟨cg, 0, none⟩) os.length c5c, .int .i64 p, .int .i64 u], .bool false]) (by simp [results, Try.results16, go_sem, q0, q1, q2]) rfl ⟨.inr ⟨HL.out.1, by rw [HL.out.2.1, HL.out.2.2]; exact ⟨cg, c5c, rfl, O9⟩⟩, F9⟩
  have hn0 := hin.1
  have hs1 := hcf.2.1.1
  have hq0 : 0 ≤ n / s := Int.ediv_nonneg hn0 (by omega)
  have hle := Int.ediv_le_self s hn0
  by_cases hp : p = n / s
  · subst hp
    have hd : (n / s != n / s) = false := by simp
    have HU : Hid (lkU ⟨r, s, b, m, q, cc, cw⟩ ⟨os, n / s, u⟩ n = u) := by show lkU _ _ _ = _; simp [lkU]
    go_wp2_with fail
    go_quiet (fail)
    go_upto_region 9 with fail
    have f4 : Fr V (u3.drewN nq) := k3.trans (Fr.drewN _ _)
    have kO4 : KyZ (u3.drewN nq) O 33 #[.slice (some ⟨cg, 0, none⟩) os.length c5c, .int .i64 (n / s), .int .i64 (u)] := kO.fr (Fr.drewN _ _)
    obtain ⟨u4, hu4⟩ : ∃ u4, u4 = (u3.drewN nq) := ⟨_, rfl⟩
    rw [← hu4] at f4 kO4 ⊢
    have HU0 : Hid (0 ≤ u ∧ u ≤ 100000) := by have h1 := hsm.2.2.2.1; have h2 := hcf.2.2.2.2.1; constructor <;> omega
    have HT : Hid (stB2 ⟨r, s, b, m, q, cc, cw⟩ (ofO ⟨r, s, b, m, q, cc, cw⟩ os g f) = T ∧ stB1 ⟨r, s, b, m, q, cc, cw⟩ (ofO ⟨r, s, b, m, q, cc, cw⟩ os g f) = S1) := by have h1 := HST.out; rw [HOF.out] at h1; exact ⟨h1.2.symm, h1.1.symm⟩
    have c9 := fun w (h : ReadsG LO w so os) => put_any so os.length sc os ⟨g, f, S1⟩ w rfl hsm.2.1 h
    simp only [putL_eq hsm.2.2.2.2.2] at c9
    have HF0 : Hid (300 < (putO os ⟨g, f, S1⟩).length → lkR ⟨r, s, b, m, q, cc, cw⟩ xs ⟨os, n / s, u⟩ n g f = false) := lk_full HSM.out HY.out HON.out.symm S1
    have HF1 : Hid (¬ 300 < (putO os ⟨g, f, S1⟩).length → ∀ t, (T && decide (u < q)) = t → lkR ⟨r, s, b, m, q, cc, cw⟩ xs ⟨os, n / s, u⟩ n g f = true ∧ lkS ⟨r, s, b, m, q, cc, cw⟩ xs ⟨os, n / s, u⟩ n g f = ⟨putO os ⟨g, f, S1⟩, n / s, if t then u + 1 else u⟩ ∧ lkB ⟨r, s, b, m, q, cc, cw⟩ xs ⟨os, n / s, u⟩ n g f = t) := by
      intro hl t ht
      have h2 := lk_on HSM.out HY.out HON.out.symm (by rw [HT.out.2]; exact hl) t (by rw [HT.out.1, HU.out]; exact ht)
      rw [HT.out.2, HU.out] at h2
      exact h2
    obtain ⟨PO, hPO⟩ : ∃ PO, PO = putO os ⟨g, f, S1⟩ := ⟨_, rfl⟩
    rw [← hPO] at c9 HF0 HF1
    clear hu4 kO O5 k3 ak0 ak1 ak2 ak3 ak4 ak5 ak6 o0 o1 o2 zS zR hR hX F hd
    clear hPO HT HU HST HOF HON HY HSM hsm hcf c5 c6
    obtain ⟨xl, xs', xg⟩ := OF
    obtain ⟨yl, ys, yg⟩ := S1
    simp only at c7 c8 c9
    refine wp_region_box 13 10 11 sgK (vlK (.agg #[.int .i64 r, .int .i64 s, .int .i64 b, .int .i64 m, .int .i64 q, .int .i64 cc, .int .i64 cw]) (.agg #[.slice so os.length sc, .int .i64 (n / s), .int .i64 u]) (.int .i64 g) (.int .i64 f) (.agg #[.int .i64 xl, .int .i64 xs', .int .i64 xg]) (.agg #[.int .i64 yl, .int .i64 ys, .int .i64 yg]) T) (fun X => { tmps := #[(.agg #[.int .i64 r, .int .i64 s, .int .i64 b, .int .i64 m, .int .i64 q, .int .i64 cc, .int .i64 cw]), .slice ao xs.length cap, (.agg #[.slice so os.length sc, .int .i64 (n / s), .int .i64 u]), .int .i64 (n), .int .i64 (g), .int .i64 (f), .pointer (some ⟨Z, 0, none⟩), undef, .pointer (some ⟨Z + 1, 0, none⟩), undef, undef, undef, .pointer (some ⟨Z + 1 + 1, 0, none⟩), .bool false, .pointer (some ⟨O, 0, none⟩), X 15, X 16, (.agg #[.int .i64 r, .int .i64 s, .int .i64 b, .int .i64 m, .int .i64 q, .int .i64 cc, .int .i64 cw]), (.agg #[.slice so os.length sc, .int .i64 (n / s), .int .i64 u]), .bool true, .bool false, .bool false, .slice ao xs.length cap, .bool true, .bool false, .bool false, .bool false, .int .i64 (n), .bool true, .bool false, .bool false, .bool false, .int .i64 (g), .bool true, .bool false, .bool false, .bool false, .int .i64 (f), .bool true, .bool false, .bool false, undef, (.agg #[.slice so os.length sc, .int .i64 (n / s), .int .i64 u]), (.agg #[.slice (some ⟨cg, 0, none⟩) os.length c5c, .int .i64 (n / s), .int .i64 u]), (.agg #[.int .i64 r, .int .i64 s, .int .i64 b, .int .i64 m, .int .i64 q, .int .i64 cc, .int .i64 cw]), .slice ao xs.length cap, .int .i64 (n), .bool true, .bool false, undef, .pointer (some ⟨O, 1, none⟩), .int .i64 (n / s), .int .i64 (n), .pointer (some ⟨Z, 1, none⟩), .int .i64 (s), .int .i64 (n / s), .bool false, undef, undef, undef, undef, undef, undef, X 63, X 64, X 65, X 66, X 67, X 68, X 69, X 70, X 71, X 72, undef, undef, undef, undef, undef, undef, undef, undef, undef, undef, undef, undef, undef, undef, undef, undef, undef, undef, undef, undef, undef, undef, undef, undef, undef, undef, undef, undef], defers := [] }) (fun u p t => BuZ u p (if t then #[.int .i64 yl, .int .i64 ys, .int .i64 yg] else #[.int .i64 0, .int .i64 0, .int .i64 0])) (by kernel_rfl) (by kernel_rfl) (by kernel_rfl) (by omega) (by omega) (by omega) (dst_of (by kernel_rfl)) (fun u u' p t h f => h.fr f) rfl (fun o ho => ?_) ?_ ?_ ?_ ?_
    · simp only [List.getElem?_toArray, List.getElem?_cons_succ, List.getElem?_cons_zero, Option.some.injEq] at ho
      subst ho
      exact ⟨⟨10, .data⟩, by simp, rfl, rfl⟩
    · intro i o X u' hi h8 h9 ho hF hX
      obtain ⟨⟨k0, k1, k2, k3, k4, k5, k6⟩, zS, zR, hR, hXs, F⟩ := cq u' (f4.trans hF)
      simp only [Nat.zero_add] at k0 k1 k2 k3 k4 k5 k6
      obtain ⟨z0, z1, z2⟩ := zS.c3
      have c7 := c7 u' hR
      have c8 := c8 u'
      clear zS zR hR hXs F c9
      rcases i with _ | _ | _ | _ | _ | _ | _ | _ | _ | _ | _ | _ | _ | i
      · simp only [List.getElem?_toArray, List.getElem?_cons_zero, Option.some.injEq] at ho
        subst ho
        refine ⟨by simp [Region.wanted], ?_⟩
        go_simp
        exact ⟨by simp [upd, sgK, vlK], Fr.refl _⟩
      · simp only [List.getElem?_toArray, List.getElem?_cons_succ, List.getElem?_cons_zero, Option.some.injEq] at ho
        subst ho
        refine ⟨by simp [Region.wanted], ?_⟩
        go_simp
        exact ⟨by simp [upd, sgK, vlK], Fr.refl _⟩
      · simp only [List.getElem?_toArray, List.getElem?_cons_succ, List.getElem?_cons_zero, Option.some.injEq] at ho
        subst ho
        refine ⟨by simp [Region.wanted], ?_⟩
        go_simp
        exact ⟨by simp [upd, sgK, vlK], Fr.refl _⟩
      · simp only [List.getElem?_toArray, List.getElem?_cons_succ, List.getElem?_cons_zero, Option.some.injEq] at ho
        subst ho
        refine ⟨by simp [Region.wanted], ?_⟩
        go_simp
        exact ⟨by simp [upd, sgK, vlK], Fr.refl _⟩
      · simp only [List.getElem?_toArray, List.getElem?_cons_succ, List.getElem?_cons_zero, Option.some.injEq] at ho
        subst ho
        refine ⟨by simp [Region.wanted], ?_⟩
        go_simp
        exact ⟨by simp [upd, sgK, vlK], Fr.refl _⟩
      · simp only [List.getElem?_toArray, List.getElem?_cons_succ, List.getElem?_cons_zero, Option.some.injEq] at ho
        subst ho
        refine ⟨by simp [Region.wanted], ?_⟩
        have e1 : X 65 = _ := hX ⟨1, .data⟩ (by simp) rfl (by simp) (by simp)
        have e2 : X 66 = _ := hX ⟨2, .data⟩ (by simp) rfl (by simp) (by simp)
        have e3 : X 67 = _ := hX ⟨3, .data⟩ (by simp) rfl (by simp) (by simp)
        have e4 : X 68 = _ := hX ⟨4, .data⟩ (by simp) rfl (by simp) (by simp)
        simp only [vlK, List.getD_cons_zero, List.getD_cons_succ] at e1 e2 e3 e4
        go_simp
        refine c7.mono ?_
        rintro x u' ⟨rfl, f'⟩
        exact ⟨by simp [upd, sgK, vlK, e1, e2, e3, e4], f'⟩
      · simp only [List.getElem?_toArray, List.getElem?_cons_succ, List.getElem?_cons_zero, Option.some.injEq] at ho
        subst ho
        refine ⟨by simp [Region.wanted], ?_⟩
        have e0 : X 64 = _ := hX ⟨0, .data⟩ (by simp) rfl (by simp) (by simp)
        have e5 : X 69 = _ := hX ⟨5, .data⟩ (by simp) rfl (by simp) (by simp)
        simp only [vlK, List.getD_cons_zero, List.getD_cons_succ] at e0 e5
        go_simp
        refine c8.mono ?_
        rintro x u' ⟨rfl, f'⟩
        exact ⟨by simp [upd, sgK, vlK, e0, e5], f'⟩
      · simp only [List.getElem?_toArray, List.getElem?_cons_succ, List.getElem?_cons_zero, Option.some.injEq] at ho
        subst ho
        refine ⟨by simp [Region.wanted], ?_⟩
        have e6 : X 70 = _ := hX ⟨6, .data⟩ (by simp) rfl (by simp) (by simp)
        simp only [vlK, List.getD_cons_zero, List.getD_cons_succ] at e6
        go_simp
        exact ⟨by simp [upd, sgK, vlK, e6], Fr.refl _⟩
      · simp only [List.getElem?_toArray, List.getElem?_cons_succ, List.getElem?_cons_zero, Option.some.injEq] at ho
        subst ho
        refine ⟨by simp [Region.wanted], ?_⟩
        have e7 : X 63 = _ := hX ⟨7, .data⟩ (by simp) rfl (by simp) (by simp)
        simp only [vlK, List.getD_cons_zero, List.getD_cons_succ] at e7
        go_simp
        exact ⟨by simp [upd, sgK, vlK, e7], Fr.refl _⟩
      · simp only [List.getElem?_toArray, List.getElem?_cons_succ, List.getElem?_cons_zero, Option.some.injEq] at ho
        subst ho
        refine ⟨by simp [Region.wanted], ?_⟩
        have e7 : X 63 = _ := hX ⟨7, .data⟩ (by simp) rfl (by simp) (by simp)
        simp only [vlK, List.getD_cons_zero, List.getD_cons_succ] at e7
        go_simp
        exact ⟨by simp [upd, sgK, vlK, e7], Fr.refl _⟩
      · exact absurd rfl h8
      · exact absurd rfl h9
      · simp only [List.getElem?_toArray, List.getElem?_cons_succ, List.getElem?_cons_zero, Option.some.injEq] at ho
        subst ho
        refine ⟨by simp [Region.wanted], ?_⟩
        have e9 : X 72 = _ := hX ⟨9, .data⟩ (by simp) rfl (by simp) (by simp)
        simp only [vlK, List.getD_cons_zero, List.getD_cons_succ] at e9
        go_simp
        exact ⟨by simp [upd, sgK, vlK, e9], Fr.refl _⟩
      · omega
    · intro o X u' ho hF
      simp only [List.getElem?_toArray, List.getElem?_cons_succ, List.getElem?_cons_zero, Option.some.injEq] at ho
      subst ho
      refine ⟨by simp [Region.wanted], ?_⟩
      have HZ : Hid (BuZ (u'.alloc (.cells #[.int .i64 0, .int .i64 0, .int .i64 0] 51)) u'.heap.size #[.int .i64 0, .int .i64 0, .int .i64 0]) := heap_alloc_new u' _
      go_simp
      refine ⟨u'.heap.size, ?_, Fr.alloc _ _, Nat.le_refl _, HZ.out⟩
      simp [upd, sgK]
    · intro o X p' u' ho hF hp z hp2 hX
      simp only [List.getElem?_toArray, List.getElem?_cons_succ, List.getElem?_cons_zero, Option.some.injEq] at ho
      subst ho
      refine ⟨by simp [Region.wanted], ?_⟩
      have e6 : X 71 = _ := hX ⟨8, .data⟩ (by simp) rfl (by simp) (by simp)
      have e8 : X 15 = _ := hp2
      simp only [vlK, List.getD_cons_zero, List.getD_cons_succ] at e6
      have z : BuZ u' p' #[.int .i64 0, .int .i64 0, .int .i64 0] := z
      have n0 := z.free
      have z0 := z.c0
      have z1 := z.c1
      have z2 := z.c2
      have HZ : Hid (BuZ (((u'.setCell ⟨p', 0, none⟩ (.int .i64 yl)).setCell ⟨p', 1, none⟩ (.int .i64 ys)).setCell ⟨p', 2, none⟩ (.int .i64 yg)) p' #[.int .i64 yl, .int .i64 ys, .int .i64 yg]) := ((z.set0 (.int .i64 yl)).set1 (.int .i64 ys)).set2 (.int .i64 yg)
      go_simp
      exact ⟨grown_trans (grown_trans (grown_set u' p' 0 (.int .i64 yl)) (grown_set _ p' 1 (.int .i64 ys))) (grown_set _ p' 2 (.int .i64 yg)), HZ.out⟩
    intro X p' u5 F1 hp zB e15 hX
    have h0 : X 64 = _ := hX 0 (by omega) (by omega) (by omega)
    have h1 : X 65 = _ := hX 1 (by omega) (by omega) (by omega)
    have h2 : X 66 = _ := hX 2 (by omega) (by omega) (by omega)
    have h3 : X 67 = _ := hX 3 (by omega) (by omega) (by omega)
    have h4 : X 68 = _ := hX 4 (by omega) (by omega) (by omega)
    have h5 : X 69 = _ := hX 5 (by omega) (by omega) (by omega)
    have h6 : X 70 = _ := hX 6 (by omega) (by omega) (by omega)
    have h7 : X 63 = _ := hX 7 (by omega) (by omega) (by omega)
    have h8 : X 71 = _ := hX 8 (by omega) (by omega) (by omega)
    have h9 : X 72 = _ := hX 9 (by omega) (by omega) (by omega)
    have h12 : X 16 = _ := hX 12 (by omega) (by omega) (by omega)
    have h10 : X 15 = _ := e15
    simp only [vlK, List.getD_cons_zero, List.getD_cons_succ] at h0 h1 h2 h3 h4 h5 h6 h7 h8 h9 h12
    have zB : BuZ u5 p' #[.int .i64 yl, .int .i64 ys, .int .i64 yg] := zB
    simp only [h0, h1, h2, h3, h4, h5, h6, h7, h8, h9, h12, h10]
    clear h0 h1 h2 h3 h4 h5 h6 h7 h8 h9 h12 h10 hX e15 X hp c7 c8
    have f5 := f4.trans F1
    have kO5 := kO4.fr F1
    have y0 := zB.c0
    have y1 := zB.c1
    have y2 := zB.c2
    clear zB kO4 F1 f4
    obtain ⟨-, zS, -, hR, -, -⟩ := cq u5 f5
    obtain ⟨z0, z1, z2⟩ := zS.c3
    obtain ⟨o0, o1, o2⟩ := kO5.c3
    have of5 := fun i => kO5.free i
    have ob5 := kO5.lt
    clear zS
    go_wp2_with fail
    refine (c9 _ hR).mono ?_
    rintro e u6 ⟨g2, c2, rfl, OP, k6⟩
    have kO6 := kO5.fr k6
    have f6 := f5.trans k6
    have hg2 : u5.heap.size ≤ g2 := OP.blk g2 rfl
    have of6 := fun i => kO6.free i
    obtain ⟨o0, o1, o2⟩ := kO6.c3
    have kO7 := kO6.put0 (.slice (some ⟨g2, 0, none⟩) PO.length c2)
    have g7 := grown_set u6 O 0 (.slice (some ⟨g2, 0, none⟩) PO.length c2)
    have OP7 := OP.keep g7 (by simp [Value.ownBlock]; omega)
    have HKo := HK.out
    have f7 := f6.then g7 (fun j e => by cases e; have := HZ1.out; omega)
    have HB5 : Hid (W.heap.size ≤ u5.heap.size) := (cq u5 f5).2.2.2.2.2.size
    have HBo : Hid (O < g2) := Nat.lt_of_lt_of_le ob5 hg2
    obtain ⟨u7, hu7⟩ : ∃ u7, u7 = u6.setCell ⟨O, 0, none⟩ (.slice (some ⟨g2, 0, none⟩) PO.length c2) := ⟨_, rfl⟩
    rw [← hu7] at kO7 OP7 f7
    clear g7 kO5 kO6 k6 f5 f6 OP hR z0 z1 z2 y0 y1 y2 ob5 of5 hg2 c9
    go_upto_region 11 with fail
    rw [← hu7]
    clear hu7 of6 o0 o1 o2
    obtain ⟨o0, o1, o2⟩ := kO7.c3
    have of7 := fun i => kO7.free i
    obtain ⟨⟨ak0, ak1, ak2, ak3, ak4, ak5, ak6⟩, zS, zR, hR, hXs, F⟩ := cq u7 f7
    simp only [Nat.zero_add] at ak0 ak1 ak2 ak3 ak4 ak5 ak6
    clear hR hXs zS
    obtain ⟨hll, -⟩ : PO.length ≤ 16777216 ∧ True := by obtain ⟨_, _, _, _, h⟩ := OP7; exact ⟨h, trivial⟩
    by_cases hl : 300 < PO.length
    · have hdl : decide ((300 : Int) < (PO.length : Int)) = true := decide_eq_true (by omega)
      have HF : Hid (_ = _) := HF0.out hl
      have zQ := ((zR.put0 (.slice none 0 0)).put1 (.int .i64 0)).put2 (.int .i64 0)
      have gg := grown_trans (grown_trans (grown_set u7 (Z + 1 + 1) 0 (.slice none 0 0)) (grown_set _ (Z + 1 + 1) 1 (.int .i64 0))) (grown_set _ (Z + 1 + 1) 2 (.int .i64 0))
      obtain ⟨q0, q1, q2⟩ := zQ.c3
      obtain ⟨r0, r1, r2⟩ := zR.c3
      have rf := fun i => zR.free i
      have F9 := F.then gg (fun j e => by cases e; have := HZ.out; omega)
      clear zQ
      go_wp2_with fail
      exact bodyPost_ret (v := .tuple #[.agg #[.slice none 0 0, .int .i64 0, .int .i64 0], .bool false]) (by simp [results, Try.results16, go_sem, q0, q1, q2]) rfl ⟨.inl ⟨HF.out, rfl⟩, F9⟩
    have hdl : decide ((300 : Int) < (PO.length : Int)) = false := decide_eq_false (by omega)
    have HF1 := HF1.out hl
    cases T
    · have HL : Hid (_ ∧ _ ∧ _) := HF1 false (by simp)
      have zQ := ((zR.put0 (.slice (some ⟨g2, 0, none⟩) PO.length c2)).put1 (.int .i64 (n / s))).put2 (.int .i64 (u))
      have gg := grown_trans (grown_trans (grown_set u7 (Z + 1 + 1) 0 (.slice (some ⟨g2, 0, none⟩) PO.length c2)) (grown_set _ (Z + 1 + 1) 1 (.int .i64 (n / s)))) (grown_set _ (Z + 1 + 1) 2 (.int .i64 (u)))
      obtain ⟨q0, q1, q2⟩ := zQ.c3
      obtain ⟨r0, r1, r2⟩ := zR.c3
      have rf := fun i => zR.free i
      have F9 := F.then gg (fun j e => by cases e; have := HZ.out; omega)
      have O9 : OwnG LO _ W.heap.size _ PO := OwnG.lower (OP7.keep gg (by simp [Value.ownBlock]; have := HK.out; have := HBo.out; omega)) HB5.out
      clear zQ
      go_wp2_with fail
      exact bodyPost_ret (v := .tuple #[.agg #[.slice (some ⟨g2, 0, none⟩) PO.length c2, .int .i64 (n / s), .int .i64 (u)], .bool false]) (by simp [results, Try.results16, go_sem, q0, q1, q2]) rfl ⟨.inr ⟨HL.out.1, by rw [HL.out.2.1, HL.out.2.2]; exact ⟨g2, c2, rfl, O9⟩⟩, F9⟩
    by_cases hq : u < q
    · have HL : Hid (_ ∧ _ ∧ _) := HF1 true (by simp [hq])
      have hdq : decide (q ≤ u) = false := decide_eq_false (by omega)
      have hu0 := HU0.out
      have g8 := grown_set u7 O 2 (.int .i64 (u + 1))
      have kO8 := kO7.put2 (.int .i64 (u + 1))
      have OP8 := OP7.keep g8 (by simp [Value.ownBlock]; have := HBo.out; omega)
      have zR8 := zR.keep g8 (by simp; have := HK.out; omega)
      have F8 := F.then g8 (fun j e => by cases e; have := HK.out; have := HZ.out; omega)
      obtain ⟨u8, hu8⟩ : ∃ u8, u8 = u7.setCell ⟨O, 2, none⟩ (.int .i64 (u + 1)) := ⟨_, rfl⟩
      rw [← hu8] at kO8 OP8 zR8 F8
      clear g8 zR F f7
      go_upto_region 16 with fail
      rw [← hu8]
      clear hu8 o0 o1 o2 of7 kO7 OP7
      obtain ⟨o0, o1, o2⟩ := kO8.c3
      have zR := zR8
      have F := F8
      have zQ := ((zR.put0 (.slice (some ⟨g2, 0, none⟩) PO.length c2)).put1 (.int .i64 (n / s))).put2 (.int .i64 (u + 1))
      have gg := grown_trans (grown_trans (grown_set u8 (Z + 1 + 1) 0 (.slice (some ⟨g2, 0, none⟩) PO.length c2)) (grown_set _ (Z + 1 + 1) 1 (.int .i64 (n / s)))) (grown_set _ (Z + 1 + 1) 2 (.int .i64 (u + 1)))
      obtain ⟨q0, q1, q2⟩ := zQ.c3
      obtain ⟨r0, r1, r2⟩ := zR.c3
      have rf := fun i => zR.free i
      have F9 := F.then gg (fun j e => by cases e; have := HZ.out; omega)
      have O9 : OwnG LO _ W.heap.size _ PO := OwnG.lower (OP8.keep gg (by simp [Value.ownBlock]; have := HK.out; have := HBo.out; omega)) HB5.out
      clear zQ
      go_wp2_with fail
      exact bodyPost_ret (v := .tuple #[.agg #[.slice (some ⟨g2, 0, none⟩) PO.length c2, .int .i64 (n / s), .int .i64 (u + 1)], .bool true]) (by simp [results, Try.results16, go_sem, q0, q1, q2]) rfl ⟨.inr ⟨HL.out.1, by rw [HL.out.2.1, HL.out.2.2]; exact ⟨g2, c2, rfl, O9⟩⟩, F9⟩
    · have HL : Hid (_ ∧ _ ∧ _) := HF1 false (by simp [hq])
      have hdq : decide (q ≤ u) = true := decide_eq_true (by omega)
      have zQ := ((zR.put0 (.slice (some ⟨g2, 0, none⟩) PO.length c2)).put1 (.int .i64 (n / s))).put2 (.int .i64 (u))
      have gg := grown_trans (grown_trans (grown_set u7 (Z + 1 + 1) 0 (.slice (some ⟨g2, 0, none⟩) PO.length c2)) (grown_set _ (Z + 1 + 1) 1 (.int .i64 (n / s)))) (grown_set _ (Z + 1 + 1) 2 (.int .i64 (u)))
      obtain ⟨q0, q1, q2⟩ := zQ.c3
      obtain ⟨r0, r1, r2⟩ := zR.c3
      have rf := fun i => zR.free i
      have F9 := F.then gg (fun j e => by cases e; have := HZ.out; omega)
      have O9 : OwnG LO _ W.heap.size _ PO := OwnG.lower (OP7.keep gg (by simp [Value.ownBlock]; have := HK.out; have := HBo.out; omega)) HB5.out
      clear zQ
      go_wp2_with fail
      exact bodyPost_ret (v := .tuple #[.agg #[.slice (some ⟨g2, 0, none⟩) PO.length c2, .int .i64 (n / s), .int .i64 (u)], .bool false]) (by simp [results, Try.results16, go_sem, q0, q1, q2]) rfl ⟨.inr ⟨HL.out.1, by rw [HL.out.2.1, HL.out.2.2]; exact ⟨g2, c2, rfl, O9⟩⟩, F9⟩
  · have hd : (p != n / s) = true := by simp [hp]
    have of := fun i => kO.free i
    have HU : Hid (lkU ⟨r, s, b, m, q, cc, cw⟩ ⟨os, p, u⟩ n = 0) := by show lkU _ _ _ = _; simp [lkU, hp]
    go_wp2_with fail
    go_quiet (fail)
    go_upto_region 9 with fail
    have f4 : Fr V (((u3.drewN nq).setCell ⟨O, 1, none⟩ (.int .i64 (n / s))).setCell ⟨O, 2, none⟩ (.int .i64 0)) := (k3.trans (Fr.drewN _ _)).then (grown_trans (grown_set _ O 1 (.int .i64 (n / s))) (grown_set _ O 2 (.int .i64 0))) (fun j e => by cases e; have := HK.out; have := HZ1.out; omega)
    have kO4 : KyZ (((u3.drewN nq).setCell ⟨O, 1, none⟩ (.int .i64 (n / s))).setCell ⟨O, 2, none⟩ (.int .i64 0)) O 33 #[.slice (some ⟨cg, 0, none⟩) os.length c5c, .int .i64 (n / s), .int .i64 (0)] := ((kO.fr (Fr.drewN _ _)).put1 (.int .i64 (n / s))).put2 (.int .i64 0)
    obtain ⟨u4, hu4⟩ : ∃ u4, u4 = (((u3.drewN nq).setCell ⟨O, 1, none⟩ (.int .i64 (n / s))).setCell ⟨O, 2, none⟩ (.int .i64 0)) := ⟨_, rfl⟩
    rw [← hu4] at f4 kO4 ⊢
    have HU0 : Hid (0 ≤ 0 ∧ 0 ≤ 100000) := by have h1 := hsm.2.2.2.1; have h2 := hcf.2.2.2.2.1; constructor <;> omega
    have HT : Hid (stB2 ⟨r, s, b, m, q, cc, cw⟩ (ofO ⟨r, s, b, m, q, cc, cw⟩ os g f) = T ∧ stB1 ⟨r, s, b, m, q, cc, cw⟩ (ofO ⟨r, s, b, m, q, cc, cw⟩ os g f) = S1) := by have h1 := HST.out; rw [HOF.out] at h1; exact ⟨h1.2.symm, h1.1.symm⟩
    have c9 := fun w (h : ReadsG LO w so os) => put_any so os.length sc os ⟨g, f, S1⟩ w rfl hsm.2.1 h
    simp only [putL_eq hsm.2.2.2.2.2] at c9
    have HF0 : Hid (300 < (putO os ⟨g, f, S1⟩).length → lkR ⟨r, s, b, m, q, cc, cw⟩ xs ⟨os, p, u⟩ n g f = false) := lk_full HSM.out HY.out HON.out.symm S1
    have HF1 : Hid (¬ 300 < (putO os ⟨g, f, S1⟩).length → ∀ t, (T && decide (0 < q)) = t → lkR ⟨r, s, b, m, q, cc, cw⟩ xs ⟨os, p, u⟩ n g f = true ∧ lkS ⟨r, s, b, m, q, cc, cw⟩ xs ⟨os, p, u⟩ n g f = ⟨putO os ⟨g, f, S1⟩, n / s, if t then 0 + 1 else 0⟩ ∧ lkB ⟨r, s, b, m, q, cc, cw⟩ xs ⟨os, p, u⟩ n g f = t) := by
      intro hl t ht
      have h2 := lk_on HSM.out HY.out HON.out.symm (by rw [HT.out.2]; exact hl) t (by rw [HT.out.1, HU.out]; exact ht)
      rw [HT.out.2, HU.out] at h2
      exact h2
    obtain ⟨PO, hPO⟩ : ∃ PO, PO = putO os ⟨g, f, S1⟩ := ⟨_, rfl⟩
    rw [← hPO] at c9 HF0 HF1
    clear hu4 kO O5 k3 ak0 ak1 ak2 ak3 ak4 ak5 ak6 o0 o1 o2 zS zR hR hX F hd
    clear hPO HT HU HST HOF HON HY HSM hsm hcf c5 c6
    obtain ⟨xl, xs', xg⟩ := OF
    obtain ⟨yl, ys, yg⟩ := S1
    simp only at c7 c8 c9
    refine wp_region_box 13 10 11 sgK (vlK (.agg #[.int .i64 r, .int .i64 s, .int .i64 b, .int .i64 m, .int .i64 q, .int .i64 cc, .int .i64 cw]) (.agg #[.slice so os.length sc, .int .i64 (p), .int .i64 u]) (.int .i64 g) (.int .i64 f) (.agg #[.int .i64 xl, .int .i64 xs', .int .i64 xg]) (.agg #[.int .i64 yl, .int .i64 ys, .int .i64 yg]) T) (fun X => { tmps := #[(.agg #[.int .i64 r, .int .i64 s, .int .i64 b, .int .i64 m, .int .i64 q, .int .i64 cc, .int .i64 cw]), .slice ao xs.length cap, (.agg #[.slice so os.length sc, .int .i64 (p), .int .i64 u]), .int .i64 (n), .int .i64 (g), .int .i64 (f), .pointer (some ⟨Z, 0, none⟩), undef, .pointer (some ⟨Z + 1, 0, none⟩), undef, undef, undef, .pointer (some ⟨Z + 1 + 1, 0, none⟩), .bool false, .pointer (some ⟨O, 0, none⟩), X 15, X 16, (.agg #[.int .i64 r, .int .i64 s, .int .i64 b, .int .i64 m, .int .i64 q, .int .i64 cc, .int .i64 cw]), (.agg #[.slice so os.length sc, .int .i64 (p), .int .i64 u]), .bool true, .bool false, .bool false, .slice ao xs.length cap, .bool true, .bool false, .bool false, .bool false, .int .i64 (n), .bool true, .bool false, .bool false, .bool false, .int .i64 (g), .bool true, .bool false, .bool false, .bool false, .int .i64 (f), .bool true, .bool false, .bool false, undef, (.agg #[.slice so os.length sc, .int .i64 (p), .int .i64 u]), (.agg #[.slice (some ⟨cg, 0, none⟩) os.length c5c, .int .i64 (p), .int .i64 u]), (.agg #[.int .i64 r, .int .i64 s, .int .i64 b, .int .i64 m, .int .i64 q, .int .i64 cc, .int .i64 cw]), .slice ao xs.length cap, .int .i64 (n), .bool true, .bool false, undef, .pointer (some ⟨O, 1, none⟩), .int .i64 (p), .int .i64 (n), .pointer (some ⟨Z, 1, none⟩), .int .i64 (s), .int .i64 (n / s), .bool true, .int .i64 (n), .pointer (some ⟨Z, 1, none⟩), .int .i64 (s), .int .i64 (n / s), .pointer (some ⟨O, 1, none⟩), .pointer (some ⟨O, 2, none⟩), X 63, X 64, X 65, X 66, X 67, X 68, X 69, X 70, X 71, X 72, undef, undef, undef, undef, undef, undef, undef, undef, undef, undef, undef, undef, undef, undef, undef, undef, undef, undef, undef, undef, undef, undef, undef, undef, undef, undef, undef, undef], defers := [] }) (fun u p t => BuZ u p (if t then #[.int .i64 yl, .int .i64 ys, .int .i64 yg] else #[.int .i64 0, .int .i64 0, .int .i64 0])) (by kernel_rfl) (by kernel_rfl) (by kernel_rfl) (by omega) (by omega) (by omega) (dst_of (by kernel_rfl)) (fun u u' p t h f => h.fr f) rfl (fun o ho => ?_) ?_ ?_ ?_ ?_
    · simp only [List.getElem?_toArray, List.getElem?_cons_succ, List.getElem?_cons_zero, Option.some.injEq] at ho
      subst ho
      exact ⟨⟨10, .data⟩, by simp, rfl, rfl⟩
    · intro i o X u' hi h8 h9 ho hF hX
      obtain ⟨⟨k0, k1, k2, k3, k4, k5, k6⟩, zS, zR, hR, hXs, F⟩ := cq u' (f4.trans hF)
      simp only [Nat.zero_add] at k0 k1 k2 k3 k4 k5 k6
      obtain ⟨z0, z1, z2⟩ := zS.c3
      have c7 := c7 u' hR
      have c8 := c8 u'
      clear zS zR hR hXs F c9
      rcases i with _ | _ | _ | _ | _ | _ | _ | _ | _ | _ | _ | _ | _ | i
      · simp only [List.getElem?_toArray, List.getElem?_cons_zero, Option.some.injEq] at ho
        subst ho
        refine ⟨by simp [Region.wanted], ?_⟩
        go_simp
        exact ⟨by simp [upd, sgK, vlK], Fr.refl _⟩
      · simp only [List.getElem?_toArray, List.getElem?_cons_succ, List.getElem?_cons_zero, Option.some.injEq] at ho
        subst ho
        refine ⟨by simp [Region.wanted], ?_⟩
        go_simp
        exact ⟨by simp [upd, sgK, vlK], Fr.refl _⟩
      · simp only [List.getElem?_toArray, List.getElem?_cons_succ, List.getElem?_cons_zero, Option.some.injEq] at ho
        subst ho
        refine ⟨by simp [Region.wanted], ?_⟩
        go_simp
        exact ⟨by simp [upd, sgK, vlK], Fr.refl _⟩
      · simp only [List.getElem?_toArray, List.getElem?_cons_succ, List.getElem?_cons_zero, Option.some.injEq] at ho
        subst ho
        refine ⟨by simp [Region.wanted], ?_⟩
        go_simp
        exact ⟨by simp [upd, sgK, vlK], Fr.refl _⟩
      · simp only [List.getElem?_toArray, List.getElem?_cons_succ, List.getElem?_cons_zero, Option.some.injEq] at ho
        subst ho
        refine ⟨by simp [Region.wanted], ?_⟩
        go_simp
        exact ⟨by simp [upd, sgK, vlK], Fr.refl _⟩
      · simp only [List.getElem?_toArray, List.getElem?_cons_succ, List.getElem?_cons_zero, Option.some.injEq] at ho
        subst ho
        refine ⟨by simp [Region.wanted], ?_⟩
        have e1 : X 65 = _ := hX ⟨1, .data⟩ (by simp) rfl (by simp) (by simp)
        have e2 : X 66 = _ := hX ⟨2, .data⟩ (by simp) rfl (by simp) (by simp)
        have e3 : X 67 = _ := hX ⟨3, .data⟩ (by simp) rfl (by simp) (by simp)
        have e4 : X 68 = _ := hX ⟨4, .data⟩ (by simp) rfl (by simp) (by simp)
        simp only [vlK, List.getD_cons_zero, List.getD_cons_succ] at e1 e2 e3 e4
        go_simp
        refine c7.mono ?_
        rintro x u' ⟨rfl, f'⟩
        exact ⟨by simp [upd, sgK, vlK, e1, e2, e3, e4], f'⟩
      · simp only [List.getElem?_toArray, List.getElem?_cons_succ, List.getElem?_cons_zero, Option.some.injEq] at ho
        subst ho
        refine ⟨by simp [Region.wanted], ?_⟩
        have e0 : X 64 = _ := hX ⟨0, .data⟩ (by simp) rfl (by simp) (by simp)
        have e5 : X 69 = _ := hX ⟨5, .data⟩ (by simp) rfl (by simp) (by simp)
        simp only [vlK, List.getD_cons_zero, List.getD_cons_succ] at e0 e5
        go_simp
        refine c8.mono ?_
        rintro x u' ⟨rfl, f'⟩
        exact ⟨by simp [upd, sgK, vlK, e0, e5], f'⟩
      · simp only [List.getElem?_toArray, List.getElem?_cons_succ, List.getElem?_cons_zero, Option.some.injEq] at ho
        subst ho
        refine ⟨by simp [Region.wanted], ?_⟩
        have e6 : X 70 = _ := hX ⟨6, .data⟩ (by simp) rfl (by simp) (by simp)
        simp only [vlK, List.getD_cons_zero, List.getD_cons_succ] at e6
        go_simp
        exact ⟨by simp [upd, sgK, vlK, e6], Fr.refl _⟩
      · simp only [List.getElem?_toArray, List.getElem?_cons_succ, List.getElem?_cons_zero, Option.some.injEq] at ho
        subst ho
        refine ⟨by simp [Region.wanted], ?_⟩
        have e7 : X 63 = _ := hX ⟨7, .data⟩ (by simp) rfl (by simp) (by simp)
        simp only [vlK, List.getD_cons_zero, List.getD_cons_succ] at e7
        go_simp
        exact ⟨by simp [upd, sgK, vlK, e7], Fr.refl _⟩
      · simp only [List.getElem?_toArray, List.getElem?_cons_succ, List.getElem?_cons_zero, Option.some.injEq] at ho
        subst ho
        refine ⟨by simp [Region.wanted], ?_⟩
        have e7 : X 63 = _ := hX ⟨7, .data⟩ (by simp) rfl (by simp) (by simp)
        simp only [vlK, List.getD_cons_zero, List.getD_cons_succ] at e7
        go_simp
        exact ⟨by simp [upd, sgK, vlK, e7], Fr.refl _⟩
      · exact absurd rfl h8
      · exact absurd rfl h9
      · simp only [List.getElem?_toArray, List.getElem?_cons_succ, List.getElem?_cons_zero, Option.some.injEq] at ho
        subst ho
        refine ⟨by simp [Region.wanted], ?_⟩
        have e9 : X 72 = _ := hX ⟨9, .data⟩ (by simp) rfl (by simp) (by simp)
        simp only [vlK, List.getD_cons_zero, List.getD_cons_succ] at e9
        go_simp
        exact ⟨by simp [upd, sgK, vlK, e9], Fr.refl _⟩
      · omega
    · intro o X u' ho hF
      simp only [List.getElem?_toArray, List.getElem?_cons_succ, List.getElem?_cons_zero, Option.some.injEq] at ho
      subst ho
      refine ⟨by simp [Region.wanted], ?_⟩
      have HZ : Hid (BuZ (u'.alloc (.cells #[.int .i64 0, .int .i64 0, .int .i64 0] 51)) u'.heap.size #[.int .i64 0, .int .i64 0, .int .i64 0]) := heap_alloc_new u' _
      go_simp
      refine ⟨u'.heap.size, ?_, Fr.alloc _ _, Nat.le_refl _, HZ.out⟩
      simp [upd, sgK]
    · intro o X p' u' ho hF hp z hp2 hX
      simp only [List.getElem?_toArray, List.getElem?_cons_succ, List.getElem?_cons_zero, Option.some.injEq] at ho
      subst ho
      refine ⟨by simp [Region.wanted], ?_⟩
      have e6 : X 71 = _ := hX ⟨8, .data⟩ (by simp) rfl (by simp) (by simp)
      have e8 : X 15 = _ := hp2
      simp only [vlK, List.getD_cons_zero, List.getD_cons_succ] at e6
      have z : BuZ u' p' #[.int .i64 0, .int .i64 0, .int .i64 0] := z
      have n0 := z.free
      have z0 := z.c0
      have z1 := z.c1
      have z2 := z.c2
      have HZ : Hid (BuZ (((u'.setCell ⟨p', 0, none⟩ (.int .i64 yl)).setCell ⟨p', 1, none⟩ (.int .i64 ys)).setCell ⟨p', 2, none⟩ (.int .i64 yg)) p' #[.int .i64 yl, .int .i64 ys, .int .i64 yg]) := ((z.set0 (.int .i64 yl)).set1 (.int .i64 ys)).set2 (.int .i64 yg)
      go_simp
      exact ⟨grown_trans (grown_trans (grown_set u' p' 0 (.int .i64 yl)) (grown_set _ p' 1 (.int .i64 ys))) (grown_set _ p' 2 (.int .i64 yg)), HZ.out⟩
    intro X p' u5 F1 hp zB e15 hX
    have h0 : X 64 = _ := hX 0 (by omega) (by omega) (by omega)
    have h1 : X 65 = _ := hX 1 (by omega) (by omega) (by omega)
    have h2 : X 66 = _ := hX 2 (by omega) (by omega) (by omega)
    have h3 : X 67 = _ := hX 3 (by omega) (by omega) (by omega)
    have h4 : X 68 = _ := hX 4 (by omega) (by omega) (by omega)
    have h5 : X 69 = _ := hX 5 (by omega) (by omega) (by omega)
    have h6 : X 70 = _ := hX 6 (by omega) (by omega) (by omega)
    have h7 : X 63 = _ := hX 7 (by omega) (by omega) (by omega)
    have h8 : X 71 = _ := hX 8 (by omega) (by omega) (by omega)
    have h9 : X 72 = _ := hX 9 (by omega) (by omega) (by omega)
    have h12 : X 16 = _ := hX 12 (by omega) (by omega) (by omega)
    have h10 : X 15 = _ := e15
    simp only [vlK, List.getD_cons_zero, List.getD_cons_succ] at h0 h1 h2 h3 h4 h5 h6 h7 h8 h9 h12
    have zB : BuZ u5 p' #[.int .i64 yl, .int .i64 ys, .int .i64 yg] := zB
    simp only [h0, h1, h2, h3, h4, h5, h6, h7, h8, h9, h12, h10]
    clear h0 h1 h2 h3 h4 h5 h6 h7 h8 h9 h12 h10 hX e15 X hp c7 c8
    have f5 := f4.trans F1
    have kO5 := kO4.fr F1
    have y0 := zB.c0
    have y1 := zB.c1
    have y2 := zB.c2
    clear zB kO4 F1 f4
    obtain ⟨-, zS, -, hR, -, -⟩ := cq u5 f5
    obtain ⟨z0, z1, z2⟩ := zS.c3
    obtain ⟨o0, o1, o2⟩ := kO5.c3
    have of5 := fun i => kO5.free i
    have ob5 := kO5.lt
    clear zS
    go_wp2_with fail
    refine (c9 _ hR).mono ?_
    rintro e u6 ⟨g2, c2, rfl, OP, k6⟩
    have kO6 := kO5.fr k6
    have f6 := f5.trans k6
    have hg2 : u5.heap.size ≤ g2 := OP.blk g2 rfl
    have of6 := fun i => kO6.free i
    obtain ⟨o0, o1, o2⟩ := kO6.c3
    have kO7 := kO6.put0 (.slice (some ⟨g2, 0, none⟩) PO.length c2)
    have g7 := grown_set u6 O 0 (.slice (some ⟨g2, 0, none⟩) PO.length c2)
    have OP7 := OP.keep g7 (by simp [Value.ownBlock]; omega)
    have HKo := HK.out
    have f7 := f6.then g7 (fun j e => by cases e; have := HZ1.out; omega)
    have HB5 : Hid (W.heap.size ≤ u5.heap.size) := (cq u5 f5).2.2.2.2.2.size
    have HBo : Hid (O < g2) := Nat.lt_of_lt_of_le ob5 hg2
    obtain ⟨u7, hu7⟩ : ∃ u7, u7 = u6.setCell ⟨O, 0, none⟩ (.slice (some ⟨g2, 0, none⟩) PO.length c2) := ⟨_, rfl⟩
    rw [← hu7] at kO7 OP7 f7
    clear g7 kO5 kO6 k6 f5 f6 OP hR z0 z1 z2 y0 y1 y2 ob5 of5 hg2 c9
    go_upto_region 11 with fail
    rw [← hu7]
    clear hu7 of6 o0 o1 o2
    obtain ⟨o0, o1, o2⟩ := kO7.c3
    have of7 := fun i => kO7.free i
    obtain ⟨⟨ak0, ak1, ak2, ak3, ak4, ak5, ak6⟩, zS, zR, hR, hXs, F⟩ := cq u7 f7
    simp only [Nat.zero_add] at ak0 ak1 ak2 ak3 ak4 ak5 ak6
    clear hR hXs zS
    obtain ⟨hll, -⟩ : PO.length ≤ 16777216 ∧ True := by obtain ⟨_, _, _, _, h⟩ := OP7; exact ⟨h, trivial⟩
    by_cases hl : 300 < PO.length
    · have hdl : decide ((300 : Int) < (PO.length : Int)) = true := decide_eq_true (by omega)
      have HF : Hid (_ = _) := HF0.out hl
      have zQ := ((zR.put0 (.slice none 0 0)).put1 (.int .i64 0)).put2 (.int .i64 0)
      have gg := grown_trans (grown_trans (grown_set u7 (Z + 1 + 1) 0 (.slice none 0 0)) (grown_set _ (Z + 1 + 1) 1 (.int .i64 0))) (grown_set _ (Z + 1 + 1) 2 (.int .i64 0))
      obtain ⟨q0, q1, q2⟩ := zQ.c3
      obtain ⟨r0, r1, r2⟩ := zR.c3
      have rf := fun i => zR.free i
      have F9 := F.then gg (fun j e => by cases e; have := HZ.out; omega)
      clear zQ
      go_wp2_with fail
      exact bodyPost_ret (v := .tuple #[.agg #[.slice none 0 0, .int .i64 0, .int .i64 0], .bool false]) (by simp [results, Try.results16, go_sem, q0, q1, q2]) rfl ⟨.inl ⟨HF.out, rfl⟩, F9⟩
    have hdl : decide ((300 : Int) < (PO.length : Int)) = false := decide_eq_false (by omega)
    have HF1 := HF1.out hl
    cases T
    · have HL : Hid (_ ∧ _ ∧ _) := HF1 false (by simp)
      have zQ := ((zR.put0 (.slice (some ⟨g2, 0, none⟩) PO.length c2)).put1 (.int .i64 (n / s))).put2 (.int .i64 (0))
      have gg := grown_trans (grown_trans (grown_set u7 (Z + 1 + 1) 0 (.slice (some ⟨g2, 0, none⟩) PO.length c2)) (grown_set _ (Z + 1 + 1) 1 (.int .i64 (n / s)))) (grown_set _ (Z + 1 + 1) 2 (.int .i64 (0)))
      obtain ⟨q0, q1, q2⟩ := zQ.c3
      obtain ⟨r0, r1, r2⟩ := zR.c3
      have rf := fun i => zR.free i
      have F9 := F.then gg (fun j e => by cases e; have := HZ.out; omega)
      have O9 : OwnG LO _ W.heap.size _ PO := OwnG.lower (OP7.keep gg (by simp [Value.ownBlock]; have := HK.out; have := HBo.out; omega)) HB5.out
      clear zQ
      go_wp2_with fail
      exact bodyPost_ret (v := .tuple #[.agg #[.slice (some ⟨g2, 0, none⟩) PO.length c2, .int .i64 (n / s), .int .i64 (0)], .bool false]) (by simp [results, Try.results16, go_sem, q0, q1, q2]) rfl ⟨.inr ⟨HL.out.1, by rw [HL.out.2.1, HL.out.2.2]; exact ⟨g2, c2, rfl, O9⟩⟩, F9⟩
    by_cases hq : 0 < q
    · have HL : Hid (_ ∧ _ ∧ _) := HF1 true (by simp [hq])
      have hdq : decide (q ≤ 0) = false := decide_eq_false (by omega)
      have hu0 := HU0.out
      have g8 := grown_set u7 O 2 (.int .i64 (1))
      have kO8 := kO7.put2 (.int .i64 (1))
      have OP8 := OP7.keep g8 (by simp [Value.ownBlock]; have := HBo.out; omega)
      have zR8 := zR.keep g8 (by simp; have := HK.out; omega)
      have F8 := F.then g8 (fun j e => by cases e; have := HK.out; have := HZ.out; omega)
      obtain ⟨u8, hu8⟩ : ∃ u8, u8 = u7.setCell ⟨O, 2, none⟩ (.int .i64 (1)) := ⟨_, rfl⟩
      rw [← hu8] at kO8 OP8 zR8 F8
      clear g8 zR F f7
      go_upto_region 16 with fail
      rw [← hu8]
      clear hu8 o0 o1 o2 of7 kO7 OP7
      obtain ⟨o0, o1, o2⟩ := kO8.c3
      have zR := zR8
      have F := F8
      have zQ := ((zR.put0 (.slice (some ⟨g2, 0, none⟩) PO.length c2)).put1 (.int .i64 (n / s))).put2 (.int .i64 (1))
      have gg := grown_trans (grown_trans (grown_set u8 (Z + 1 + 1) 0 (.slice (some ⟨g2, 0, none⟩) PO.length c2)) (grown_set _ (Z + 1 + 1) 1 (.int .i64 (n / s)))) (grown_set _ (Z + 1 + 1) 2 (.int .i64 (1)))
      obtain ⟨q0, q1, q2⟩ := zQ.c3
      obtain ⟨r0, r1, r2⟩ := zR.c3
      have rf := fun i => zR.free i
      have F9 := F.then gg (fun j e => by cases e; have := HZ.out; omega)
      have O9 : OwnG LO _ W.heap.size _ PO := OwnG.lower (OP8.keep gg (by simp [Value.ownBlock]; have := HK.out; have := HBo.out; omega)) HB5.out
      clear zQ
      go_wp2_with fail
      exact bodyPost_ret (v := .tuple #[.agg #[.slice (some ⟨g2, 0, none⟩) PO.length c2, .int .i64 (n / s), .int .i64 (0 + 1)], .bool true]) (by simp [results, Try.results16, go_sem, q0, q1, q2]) rfl ⟨.inr ⟨HL.out.1, by rw [HL.out.2.1, HL.out.2.2]; exact ⟨g2, c2, rfl, O9⟩⟩, F9⟩
    · have HL : Hid (_ ∧ _ ∧ _) := HF1 false (by simp [hq])
      have hdq : decide (q ≤ 0) = true := decide_eq_true (by omega)
      have zQ := ((zR.put0 (.slice (some ⟨g2, 0, none⟩) PO.length c2)).put1 (.int .i64 (n / s))).put2 (.int .i64 (0))
      have gg := grown_trans (grown_trans (grown_set u7 (Z + 1 + 1) 0 (.slice (some ⟨g2, 0, none⟩) PO.length c2)) (grown_set _ (Z + 1 + 1) 1 (.int .i64 (n / s)))) (grown_set _ (Z + 1 + 1) 2 (.int .i64 (0)))
      obtain ⟨q0, q1, q2⟩ := zQ.c3
      obtain ⟨r0, r1, r2⟩ := zR.c3
      have rf := fun i => zR.free i
      have F9 := F.then gg (fun j e => by cases e; have := HZ.out; omega)
      have O9 : OwnG LO _ W.heap.size _ PO := OwnG.lower (OP7.keep gg (by simp [Value.ownBlock]; have := HK.out; have := HBo.out; omega)) HB5.out
      clear zQ
      go_wp2_with fail
      exact bodyPost_ret (v := .tuple #[.agg #[.slice (some ⟨g2, 0, none⟩) PO.length c2, .int .i64 (n / s), .int .i64 (0)], .bool false]) (by simp [results, Try.results16, go_sem, q0, q1, q2]) rfl ⟨.inr ⟨HL.out.1, by rw [HL.out.2.1, HL.out.2.2]; exact ⟨g2, c2, rfl, O9⟩⟩, F9⟩
end Go.Proofs.Ytkfcchapfklpgaa

