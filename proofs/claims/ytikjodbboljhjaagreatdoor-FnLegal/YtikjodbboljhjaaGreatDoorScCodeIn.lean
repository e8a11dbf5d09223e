/-
  Why an event can't be done: CodeIn of the specification.
-/
import Derived.Test.YtikjodbboljhjaaGreatDoorScCode2
import Derived.Test.YtikjodbboljhjaaGreatDoorEvSpec
namespace Go.Proofs.YtikjodbboljhjaaGreatDoor
open Go.RowKit

theorem evOk_k {e : Ev} (h : evOk e = true) : (1 ≤ e.k ∧ e.k ≤ 22) ∧ 0 ≤ e.g ∧ e.g ≤ 15 := by
  unfold evOk at h
  simp only [Bool.and_eq_true] at h
  have h1 := inB_true h.1.1.1.1.1.1.1
  have h2 := inB_true h.1.1.1.1.1.1.2
  exact ⟨h1, h2⟩
theorem ctB_in {c : Ct} (h : ctB c = true) : (0 ≤ c.o ∧ c.o ≤ 15) ∧ 1 ≤ c.n ∧ c.n ≤ 1000000 := by
  unfold ctB at h
  simp only [Bool.and_eq_true] at h
  exact ⟨inB_true h.1, inB_true h.2⟩
theorem count_in {m : Scn} (h : scB m = true) (o : Int) : 0 ≤ countOf m.gs o ∧ countOf m.gs o ≤ 1000000 := by
  have h3 := (scB_parts h).2.2.2.1
  unfold countOf
  cases hf : m.gs.find? fun l => l.o == o with
  | none => simp
  | some c =>
    have hm := List.mem_of_find?_eq_some hf
    have := (ctB_in (rowB_all h3 c hm)).2
    simp
    omega
/-- The Size of an EvAdd. -/
theorem evOk_add {e : Ev} (h : evOk e = true) (hk : e.k = 12) : 1 ≤ e.s ∧ e.s ≤ 9 := by
  unfold evOk at h
  simp only [Bool.and_eq_true] at h
  have h4 := h.1.1.2
  unfold ev4 at h4
  rw [hk] at h4
  have : hasB 12 8 = true := by decide
  rw [this] at h4
  exact inB_true h4

set_option maxRecDepth 20000 in
set_option maxHeartbeats 8000000 in
theorem codeIn_any {B : Nat → Prop} (s : Sv) (m : Scn) (e : Ev) (w : World) (ho : I64 e.o) (h : ScR B w s m) :
    Calls Tryz.prog 11 #[.agg #[.int .i64 s.g, .slice s.lo s.ll s.lc, .slice s.co s.cl s.cc, .slice s.no s.nl s.nc, .slice s.oo s.ol s.oc], .agg #[.int .i64 e.k, .int .i64 e.g, .int .i64 e.o, .int .i64 e.w, .int .i64 e.l, .int .i64 e.s, .int .i64 e.f, .int .i64 e.t]] w fun x w' => x = .returned (.int .i64 (codeIn m e)) ∧ Fr w w' := by
  obtain ⟨k1, k2, fW, hz⟩ := box2 w s e
  have cE := fun u => specOk_any e u
  have cS := fun u (hf : Fr w u) => sceneOk_any s m u (h.fr hf)
  have cN := fun u (hf : Fr w u) => l4CountOf_any s m e.o u (h.fr hf)
  have cL := fun u (hf : Fr w u) hk => l4LockCode_any s m e u hk ho (h.fr hf)
  have cC := fun u (hf : Fr w u) hk hm => l4ChanCode_any s m e u hk hm (h.fr hf)
  have cO := fun u (hf : Fr w u) => l4In_any s.oo s.ol s.oc m.os e.o u h.ol.symm (h.fr hf).ons
  have HG : Hid (s.g = m.g) := h.g
  have hkk : evOk e = true → (1 ≤ e.k ∧ e.k ≤ 22) ∧ 0 ≤ e.g ∧ e.g ≤ 15 := evOk_k
  have hadd : evOk e = true → e.k = 12 → 1 ≤ e.s ∧ e.s ≤ 9 := evOk_add
  obtain ⟨R, hR⟩ : ∃ R, R = codeIn m e := ⟨_, rfl⟩
  rw [← hR]
  unfold codeIn at hR
  have hcnt := fun hm => count_in (m := m) hm e.o
  obtain ⟨C, hC⟩ : ∃ C, C = countOf m.gs e.o := ⟨_, rfl⟩
  have HC : Hid (C = countOf m.gs e.o) := hC
  simp only [← hC] at cN hcnt
  clear hC
  clear h
  obtain ⟨k, gr, o, wi, l, sz, f, t⟩ := e
  obtain ⟨g, lo, ll, lc, co, cl, cc, no, nl, nc, oo, ol, oc⟩ := s
  simp only at ho k1 k2 fW hz cE cS cN cL cC cO HG HC hkk hadd hcnt ⊢
  obtain ⟨EO, hEO⟩ : ∃ EO, EO = evOk ⟨k, gr, o, wi, l, sz, f, t⟩ := ⟨_, rfl⟩
  rw [← hEO] at hR hkk hadd
  simp only [← hEO] at cE
  clear hEO
  obtain ⟨SO, hSO⟩ : ∃ SO, SO = scB m := ⟨_, rfl⟩
  have HSO : Hid (SO = scB m) := hSO
  rw [← hSO] at hR
  simp only [← hSO] at cS hcnt cC
  clear hSO
  cases EO
  · have HR : Hid (R = 1) := by rw [if_pos (.inl rfl)] at hR; exact hR
    clear hR
    go_enter Tryz.func11, Tryz.ntmps11
    go_wp2_with fail
    refine (cE _).mono ?_
    rintro e u1 ⟨rfl, f1⟩
    go_wp2_with fail
    go_ret
    exact ⟨ret_int HR.out.symm, fW.trans f1⟩
  replace hkk := hkk rfl
  replace hadd := hadd rfl
  have HQ : Hid (∀ u (_ : Fr ((w.alloc (.cells #[.int .i64 g, .slice lo ll lc, .slice co cl cc, .slice no nl nc, .slice oo ol oc] 29)).alloc (.cells #[.int .i64 k, .int .i64 gr, .int .i64 o, .int .i64 wi, .int .i64 l, .int .i64 sz, .int .i64 f, .int .i64 t] 31)) u), ScB u w.heap.size ⟨g, lo, ll, lc, co, cl, cc, no, nl, nc, oo, ol, oc⟩ ∧ EvAt u (w.heap.size + 1) ⟨k, gr, o, wi, l, sz, f, t⟩) := fun u f => ⟨(k1.fr f).at, k2.at.fr f⟩
  clear k1 k2 hz
  cases SO
  · have HR : Hid (R = 1) := by rw [if_pos (.inr rfl)] at hR; exact hR
    clear hR
    go_enter Tryz.func11, Tryz.ntmps11
    go_wp2_with fail
    refine (cE _).mono ?_
    rintro e u1 ⟨rfl, f1⟩
    obtain ⟨⟨s0, s1, s2, s3, s4⟩, -⟩ := HQ.out _ f1
    simp only at s0 s1 s2 s3 s4
    go_wp2_with fail
    refine (cS _ (fW.trans f1)).mono ?_
    rintro e u2 ⟨rfl, f2⟩
    go_wp2_with fail
    go_ret
    exact ⟨ret_int HR.out.symm, (fW.trans f1).trans f2⟩
  replace hcnt := hcnt rfl
  replace cC := fun u hf hk => cC u hf hk rfl
  rw [if_neg (by simp)] at hR
  go_enter Tryz.func11, Tryz.ntmps11
  go_wp2_with fail
  refine (cE _).mono ?_
  rintro e u1 ⟨rfl, f1⟩
  obtain ⟨⟨s0, s1, s2, s3, s4⟩, -⟩ := HQ.out _ f1
  simp only at s0 s1 s2 s3 s4
  go_wp2_with fail
  refine (cS _ (fW.trans f1)).mono ?_
  rintro e u2 ⟨rfl, f2⟩
  have fA := f1.trans f2
  clear s0 s1 s2 s3 s4 cE cS f1 f2
  obtain ⟨⟨s0, s1, s2, s3, s4⟩, ⟨e0, e1, e2, e3, e4, e5, e6, e7⟩⟩ := HQ.out _ fA
  simp only at s0 s1 s2 s3 s4 e0 e1 e2 e3 e4 e5 e6 e7
  by_cases hg1 : g ≤ gr
  · have hd1 : decide (g ≤ gr) = true := decide_eq_true hg1
    have HR : Hid (R = 2) := by
      rw [if_pos] at hR
      · exact hR
      · left; rw [← HG.out]; exact hg1
    go_wp2_with fail
    go_ret
    exact ⟨ret_int HR.out.symm, fW.trans fA⟩
  have HG2 : Hid (gr < g) := (by omega : gr < g)
  have hd1 : decide (g ≤ gr) = false := decide_eq_false hg1
  clear hg1
  by_cases hk1 : k = 1
  · subst hk1
    cases ho1 : (o == g)
    · have ho3 : (o != g) = true := by rw [bne, ho1]; rfl
      have HR : Hid (R = 2) := by
        rw [if_pos] at hR
        · exact hR
        · right; left; exact ⟨rfl, by rw [← HG.out]; exact beq_eq_false_iff_ne.1 ho1⟩
      clear hR
      go_wp2_with fail
      go_ret
      exact ⟨ret_int HR.out.symm, fW.trans fA⟩
    · have ho3 : (o != g) = false := by rw [bne, ho1]; rfl
      have ho2 : o = g := beq_iff_eq.1 ho1
      rw [if_neg (by unfold gorBad; simp only; rw [← HG.out]; have := HG2.out; omega)] at hR
      clear ho2
      go_wp2_with fail
      refine (cN _ (fW.trans fA)).mono ?_
      rintro e u3 ⟨rfl, f3⟩
      have fB := fA.trans f3
      clear s0 s1 s2 s3 s4 e0 e1 e2 e3 e4 e5 e6 e7 cN f3 fA hd1
      obtain ⟨⟨s0, s1, s2, s3, s4⟩, ⟨e0, e1, e2, e3, e4, e5, e6, e7⟩⟩ := HQ.out _ fB
      simp only at s0 s1 s2 s3 s4 e0 e1 e2 e3 e4 e5 e6 e7
      have HR : Hid (R = 0) := by
        show R = 0
        rw [hR]
        simp [restCode]
      clear hR
      go_wp2_with fail
      go_ret
      exact ⟨ret_int HR.out.symm, fW.trans fB⟩
  have ek1 : (k == 1) = false := beq_eq_false_iff_ne.2 hk1
  by_cases hk9 : k = 9
  · subst hk9
    by_cases hw1 : g ≤ wi
    · have hw5 : decide (g ≤ wi) = true := decide_eq_true hw1
      have HR : Hid (R = 2) := by
        rw [if_pos] at hR
        · exact hR
        · right; right; exact ⟨rfl, .inl (by rw [← HG.out]; exact hw1)⟩
      clear hR
      go_wp2_with fail
      go_ret
      exact ⟨ret_int HR.out.symm, fW.trans fA⟩
    · have HW2 : Hid (wi < g) := (by omega : wi < g)
      have hw5 : decide (g ≤ wi) = false := decide_eq_false hw1
      clear hw1
      cases hw3 : (wi == gr)
      · have hw4 : wi ≠ gr := beq_eq_false_iff_ne.1 hw3
        rw [if_neg (by unfold gorBad; simp only; rw [← HG.out]; have := HG2.out; have := HW2.out; omega)] at hR
        clear hw4
        go_wp2_with fail
        refine (cN _ (fW.trans fA)).mono ?_
        rintro e u3 ⟨rfl, f3⟩
        have fB := fA.trans f3
        clear s0 s1 s2 s3 s4 e0 e1 e2 e3 e4 e5 e6 e7 cN f3 fA hd1
        obtain ⟨⟨s0, s1, s2, s3, s4⟩, ⟨e0, e1, e2, e3, e4, e5, e6, e7⟩⟩ := HQ.out _ fB
        simp only at s0 s1 s2 s3 s4 e0 e1 e2 e3 e4 e5 e6 e7
        have HR : Hid (R = chanCode m ⟨9, gr, o, wi, l, sz, f, t⟩) := by
          show R = chanCode m ⟨9, gr, o, wi, l, sz, f, t⟩
          rw [hR]
          simp [restCode]
        clear hR
        go_wp2_with fail
        refine (cC _ (fW.trans fB) ⟨by decide, by decide⟩).mono ?_
        rintro e u4 ⟨rfl, f4⟩
        go_wp2_with fail
        go_ret
        exact ⟨ret_int HR.out.symm, (fW.trans fB).trans f4⟩
      · have HR : Hid (R = 2) := by
          rw [if_pos] at hR
          · exact hR
          · right; right; exact ⟨rfl, .inr (beq_iff_eq.1 hw3)⟩
        clear hR
        go_wp2_with fail
        go_ret
        exact ⟨ret_int HR.out.symm, fW.trans fA⟩
  have ek9 : (k == 9) = false := beq_eq_false_iff_ne.2 hk9
  rw [if_neg (by unfold gorBad; simp only; rw [← HG.out]; have := HG2.out; omega)] at hR
  go_wp2_with fail
  refine (cN _ (fW.trans fA)).mono ?_
  rintro e u3 ⟨rfl, f3⟩
  have fB := fA.trans f3
  clear s0 s1 s2 s3 s4 e0 e1 e2 e3 e4 e5 e6 e7 cN f3 fA hd1
  obtain ⟨⟨s0, s1, s2, s3, s4⟩, ⟨e0, e1, e2, e3, e4, e5, e6, e7⟩⟩ := HQ.out _ fB
  simp only at s0 s1 s2 s3 s4 e0 e1 e2 e3 e4 e5 e6 e7
  rcases (show k = 2 ∨ k = 3 ∨ k = 4 ∨ k = 5 ∨ k = 6 ∨ k = 7 ∨ k = 8 ∨ k = 10 ∨ k = 11 ∨ k = 12 ∨ k = 13 ∨ k = 14 ∨ k = 15 ∨ k = 16 ∨ k = 17 ∨ k = 18 ∨ k = 19 ∨ k = 20 ∨ k = 21 ∨ k = 22 by omega) with rfl | rfl | rfl | rfl | rfl | rfl | rfl | rfl | rfl | rfl | rfl | rfl | rfl | rfl | rfl | rfl | rfl | rfl | rfl | rfl
  · clear hk1 hk9 ek1 ek9 hkk
    clear hadd
    have HR : Hid (R = lockCode m ⟨2, gr, o, wi, l, sz, f, t⟩) := by
      show R = lockCode m ⟨2, gr, o, wi, l, sz, f, t⟩
      rw [hR]
      simp [restCode]
    clear hR
    go_wp2_with fail
    refine (cL _ (fW.trans fB) ⟨by decide, by decide⟩).mono ?_
    rintro e u4 ⟨rfl, f4⟩
    go_wp2_with fail
    go_ret
    exact ⟨ret_int HR.out.symm, (fW.trans fB).trans f4⟩
  · clear hk1 hk9 ek1 ek9 hkk
    clear hadd
    have HR : Hid (R = lockCode m ⟨3, gr, o, wi, l, sz, f, t⟩) := by
      show R = lockCode m ⟨3, gr, o, wi, l, sz, f, t⟩
      rw [hR]
      simp [restCode]
    clear hR
    go_wp2_with fail
    refine (cL _ (fW.trans fB) ⟨by decide, by decide⟩).mono ?_
    rintro e u4 ⟨rfl, f4⟩
    go_wp2_with fail
    go_ret
    exact ⟨ret_int HR.out.symm, (fW.trans fB).trans f4⟩
  · clear hk1 hk9 ek1 ek9 hkk
    clear hadd
    have HR : Hid (R = lockCode m ⟨4, gr, o, wi, l, sz, f, t⟩) := by
      show R = lockCode m ⟨4, gr, o, wi, l, sz, f, t⟩
      rw [hR]
      simp [restCode]
    clear hR
    go_wp2_with fail
    refine (cL _ (fW.trans fB) ⟨by decide, by decide⟩).mono ?_
    rintro e u4 ⟨rfl, f4⟩
    go_wp2_with fail
    go_ret
    exact ⟨ret_int HR.out.symm, (fW.trans fB).trans f4⟩
  · clear hk1 hk9 ek1 ek9 hkk
    clear hadd
    have HR : Hid (R = lockCode m ⟨5, gr, o, wi, l, sz, f, t⟩) := by
      show R = lockCode m ⟨5, gr, o, wi, l, sz, f, t⟩
      rw [hR]
      simp [restCode]
    clear hR
    go_wp2_with fail
    refine (cL _ (fW.trans fB) ⟨by decide, by decide⟩).mono ?_
    rintro e u4 ⟨rfl, f4⟩
    go_wp2_with fail
    go_ret
    exact ⟨ret_int HR.out.symm, (fW.trans fB).trans f4⟩
  · clear hk1 hk9 ek1 ek9 hkk
    clear hadd
    have HR : Hid (R = chanCode m ⟨6, gr, o, wi, l, sz, f, t⟩) := by
      show R = chanCode m ⟨6, gr, o, wi, l, sz, f, t⟩
      rw [hR]
      simp [restCode]
    clear hR
    go_wp2_with fail
    refine (cC _ (fW.trans fB) ⟨by decide, by decide⟩).mono ?_
    rintro e u4 ⟨rfl, f4⟩
    go_wp2_with fail
    go_ret
    exact ⟨ret_int HR.out.symm, (fW.trans fB).trans f4⟩
  · clear hk1 hk9 ek1 ek9 hkk
    clear hadd
    have HR : Hid (R = chanCode m ⟨7, gr, o, wi, l, sz, f, t⟩) := by
      show R = chanCode m ⟨7, gr, o, wi, l, sz, f, t⟩
      rw [hR]
      simp [restCode]
    clear hR
    go_wp2_with fail
    refine (cC _ (fW.trans fB) ⟨by decide, by decide⟩).mono ?_
    rintro e u4 ⟨rfl, f4⟩
    go_wp2_with fail
    go_ret
    exact ⟨ret_int HR.out.symm, (fW.trans fB).trans f4⟩
  · clear hk1 hk9 ek1 ek9 hkk
    clear hadd
    have HR : Hid (R = chanCode m ⟨8, gr, o, wi, l, sz, f, t⟩) := by
      show R = chanCode m ⟨8, gr, o, wi, l, sz, f, t⟩
      rw [hR]
      simp [restCode]
    clear hR
    go_wp2_with fail
    refine (cC _ (fW.trans fB) ⟨by decide, by decide⟩).mono ?_
    rintro e u4 ⟨rfl, f4⟩
    go_wp2_with fail
    go_ret
    exact ⟨ret_int HR.out.symm, (fW.trans fB).trans f4⟩
  · clear hk1 hk9 ek1 ek9 hkk
    clear hadd
    have HR : Hid (R = chanCode m ⟨10, gr, o, wi, l, sz, f, t⟩) := by
      show R = chanCode m ⟨10, gr, o, wi, l, sz, f, t⟩
      rw [hR]
      simp [restCode]
    clear hR
    go_wp2_with fail
    refine (cC _ (fW.trans fB) ⟨by decide, by decide⟩).mono ?_
    rintro e u4 ⟨rfl, f4⟩
    go_wp2_with fail
    go_ret
    exact ⟨ret_int HR.out.symm, (fW.trans fB).trans f4⟩
  · clear hk1 hk9 ek1 ek9 hkk
    clear hadd
    have HR : Hid (R = chanCode m ⟨11, gr, o, wi, l, sz, f, t⟩) := by
      show R = chanCode m ⟨11, gr, o, wi, l, sz, f, t⟩
      rw [hR]
      simp [restCode]
    clear hR
    go_wp2_with fail
    refine (cC _ (fW.trans fB) ⟨by decide, by decide⟩).mono ?_
    rintro e u4 ⟨rfl, f4⟩
    go_wp2_with fail
    go_ret
    exact ⟨ret_int HR.out.symm, (fW.trans fB).trans f4⟩
  · clear hk1 hk9 ek1 ek9 hkk
    have hs := hadd rfl
    have hwr : IntKind.i64.wrap (C + sz) = C + sz := by rw [IntKind.wrap_i64]; omega
    by_cases hc : 1000000 < C + sz
    · have hd : decide (1000000 < C + sz) = true := decide_eq_true hc
      have HR : Hid (R = 9) := by
        show R = 9
        rw [hR]
        simp [restCode, ← HC.out, hc]
      clear hR hc
      go_wp2_with fail
      go_ret
      exact ⟨ret_int HR.out.symm, fW.trans fB⟩
    · have hc' : C + sz ≤ 1000000 := by omega
      have hd : decide (1000000 < C + sz) = false := decide_eq_false hc
      have HR : Hid (R = 0) := by
        show R = 0
        rw [hR]
        simp [restCode, ← HC.out, hc']
      clear hR hc hc'
      go_wp2_with fail
      go_ret
      exact ⟨ret_int HR.out.symm, fW.trans fB⟩
  · clear hk1 hk9 ek1 ek9 hkk
    clear hadd
    cases hc : (C == 0)
    · have hb : (C != 0) = true := by rw [bne, hc]; rfl
      have hc' := beq_eq_false_iff_ne.1 hc
      have HR : Hid (R = 0) := by
        show R = 0
        rw [hR]
        simp [restCode, ← HC.out, hc']
      clear hR hc'
      go_wp2_with fail
      go_ret
      exact ⟨ret_int HR.out.symm, fW.trans fB⟩
    · have hb : (C != 0) = false := by rw [bne, hc]; rfl
      have hc' := beq_iff_eq.1 hc
      have HR : Hid (R = 9) := by
        show R = 9
        rw [hR]
        simp [restCode, ← HC.out, hc']
      clear hR hc'
      go_wp2_with fail
      go_ret
      exact ⟨ret_int HR.out.symm, fW.trans fB⟩
  · clear hk1 hk9 ek1 ek9 hkk
    clear hadd
    cases hc : (C == 0)
    · have hb : (C != 0) = true := by rw [bne, hc]; rfl
      have hc' := beq_eq_false_iff_ne.1 hc
      have HR : Hid (R = 9) := by
        show R = 9
        rw [hR]
        simp [restCode, ← HC.out, hc']
      clear hR hc'
      go_wp2_with fail
      go_ret
      exact ⟨ret_int HR.out.symm, fW.trans fB⟩
    · have hb : (C != 0) = false := by rw [bne, hc]; rfl
      have hc' := beq_iff_eq.1 hc
      have HR : Hid (R = 0) := by
        show R = 0
        rw [hR]
        simp [restCode, ← HC.out, hc']
      clear hR hc'
      go_wp2_with fail
      go_ret
      exact ⟨ret_int HR.out.symm, fW.trans fB⟩
  · clear hk1 hk9 ek1 ek9 hkk
    clear hadd
    cases hm : memB m.os o
    · simp only [hm] at cO
      have HR : Hid (R = 0) := by
        show R = 0
        rw [hR]
        simp [restCode, hm]
      clear hR hm
      have := Later.some u3
      have cO := fun (s : Later u3) => cO s.u ((fW.trans fB).trans s.fr)
      have p4 : ∀ s : Later u3, s.u.cell? ⟨w.heap.size, 4, none⟩ = some (.slice oo ol oc) := fun s => s.fr.cell s4
      have q0 : ∀ s : Later u3, s.u.cell? ⟨w.heap.size + 1, 0, none⟩ = some (.int .i64 15) := fun s => s.fr.cell e0
      have q2 : ∀ s : Later u3, s.u.cell? ⟨w.heap.size + 1, 2, none⟩ = some (.int .i64 o) := fun s => s.fr.cell e2
      go_wp2_with fail
      refine wp_region_grown (by kernel_rfl) (by kernel_rfl) ?_
      repeat (go_big_quiet_step (with_reducible exact Calls.grown_same (cO _)))
      refine wpQuiet_nil ?_
      rintro _ ⟨x, rfl⟩
      go_wp2_with fail
      go_ret
      exact ⟨ret_int HR.out.symm, (fW.trans fB).trans x.fr⟩
    · simp only [hm] at cO
      have HR : Hid (R = 10) := by
        show R = 10
        rw [hR]
        simp [restCode, hm]
      clear hR hm
      have := Later.some u3
      have cO := fun (s : Later u3) => cO s.u ((fW.trans fB).trans s.fr)
      have p4 : ∀ s : Later u3, s.u.cell? ⟨w.heap.size, 4, none⟩ = some (.slice oo ol oc) := fun s => s.fr.cell s4
      have q0 : ∀ s : Later u3, s.u.cell? ⟨w.heap.size + 1, 0, none⟩ = some (.int .i64 15) := fun s => s.fr.cell e0
      have q2 : ∀ s : Later u3, s.u.cell? ⟨w.heap.size + 1, 2, none⟩ = some (.int .i64 o) := fun s => s.fr.cell e2
      go_wp2_with fail
      refine wp_region_grown (by kernel_rfl) (by kernel_rfl) ?_
      repeat (go_big_quiet_step (with_reducible exact Calls.grown_same (cO _)))
      refine wpQuiet_nil ?_
      rintro _ ⟨x, rfl⟩
      go_wp2_with fail
      go_ret
      exact ⟨ret_int HR.out.symm, (fW.trans fB).trans x.fr⟩
  · clear hk1 hk9 ek1 ek9 hkk
    clear hadd
    cases hm : memB m.os o
    · simp only [hm] at cO
      have HR : Hid (R = 10) := by
        show R = 10
        rw [hR]
        simp [restCode, hm]
      clear hR hm
      have := Later.some u3
      have cO := fun (s : Later u3) => cO s.u ((fW.trans fB).trans s.fr)
      have p4 : ∀ s : Later u3, s.u.cell? ⟨w.heap.size, 4, none⟩ = some (.slice oo ol oc) := fun s => s.fr.cell s4
      have q0 : ∀ s : Later u3, s.u.cell? ⟨w.heap.size + 1, 0, none⟩ = some (.int .i64 16) := fun s => s.fr.cell e0
      have q2 : ∀ s : Later u3, s.u.cell? ⟨w.heap.size + 1, 2, none⟩ = some (.int .i64 o) := fun s => s.fr.cell e2
      go_wp2_with fail
      refine wp_region_grown (by kernel_rfl) (by kernel_rfl) ?_
      repeat (go_big_quiet_step (with_reducible exact Calls.grown_same (cO _)))
      refine wpQuiet_nil ?_
      rintro _ ⟨x, rfl⟩
      go_wp2_with fail
      go_ret
      exact ⟨ret_int HR.out.symm, (fW.trans fB).trans x.fr⟩
    · simp only [hm] at cO
      have HR : Hid (R = 0) := by
        show R = 0
        rw [hR]
        simp [restCode, hm]
      clear hR hm
      have := Later.some u3
      have cO := fun (s : Later u3) => cO s.u ((fW.trans fB).trans s.fr)
      have p4 : ∀ s : Later u3, s.u.cell? ⟨w.heap.size, 4, none⟩ = some (.slice oo ol oc) := fun s => s.fr.cell s4
      have q0 : ∀ s : Later u3, s.u.cell? ⟨w.heap.size + 1, 0, none⟩ = some (.int .i64 16) := fun s => s.fr.cell e0
      have q2 : ∀ s : Later u3, s.u.cell? ⟨w.heap.size + 1, 2, none⟩ = some (.int .i64 o) := fun s => s.fr.cell e2
      go_wp2_with fail
      refine wp_region_grown (by kernel_rfl) (by kernel_rfl) ?_
      repeat (go_big_quiet_step (with_reducible exact Calls.grown_same (cO _)))
      refine wpQuiet_nil ?_
      rintro _ ⟨x, rfl⟩
      go_wp2_with fail
      go_ret
      exact ⟨ret_int HR.out.symm, (fW.trans fB).trans x.fr⟩
  · clear hk1 hk9 ek1 ek9 hkk
    clear hadd
    have HR : Hid (R = 0) := by
      show R = 0
      rw [hR]
      simp [restCode]
    clear hR
    go_wp2_with fail
    go_ret
    exact ⟨ret_int HR.out.symm, fW.trans fB⟩
  · clear hk1 hk9 ek1 ek9 hkk
    clear hadd
    have HR : Hid (R = 0) := by
      show R = 0
      rw [hR]
      simp [restCode]
    clear hR
    go_wp2_with fail
    go_ret
    exact ⟨ret_int HR.out.symm, fW.trans fB⟩
  · clear hk1 hk9 ek1 ek9 hkk
    clear hadd
    have HR : Hid (R = 0) := by
      show R = 0
      rw [hR]
      simp [restCode]
    clear hR
    go_wp2_with fail
    go_ret
    exact ⟨ret_int HR.out.symm, fW.trans fB⟩
  · clear hk1 hk9 ek1 ek9 hkk
    clear hadd
    have HR : Hid (R = 0) := by
      show R = 0
      rw [hR]
      simp [restCode]
    clear hR
    go_wp2_with fail
    go_ret
    exact ⟨ret_int HR.out.symm, fW.trans fB⟩
  · clear hk1 hk9 ek1 ek9 hkk
    clear hadd
    have HR : Hid (R = 0) := by
      show R = 0
      rw [hR]
      simp [restCode]
    clear hR
    go_wp2_with fail
    go_ret
    exact ⟨ret_int HR.out.symm, fW.trans fB⟩
  · clear hk1 hk9 ek1 ek9 hkk
    clear hadd
    have HR : Hid (R = 0) := by
      show R = 0
      rw [hR]
      simp [restCode]
    clear hR
    go_wp2_with fail
    go_ret
    exact ⟨ret_int HR.out.symm, fW.trans fB⟩
end Go.Proofs.YtikjodbboljhjaaGreatDoor
