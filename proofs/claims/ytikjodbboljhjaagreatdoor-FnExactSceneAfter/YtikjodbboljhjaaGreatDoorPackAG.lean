/-
  Why an event can't be done: CodeIn of the specification.
-/
import Derived.Test.YtikjodbboljhjaaGreatDoorPackAF
import Derived.Test.YtikjodbboljhjaaGreatDoorPackAD
import Derived.Test.YtikjodbboljhjaaGreatDoorPackAE
namespace Go.Proofs.YtikjodbboljhjaaGreatDoor
open Go.RowKit

theorem evOk_k {e : Ev} (h : evOk e = true) : (1 ≤ e.k ∧ e.k ≤ 22) ∧ 0 ≤ e.g ∧ e.g ≤ 15 := by
  unfold evOk at h
  simp only [Bool.and_eq_true] at h
  have h1 := inB_true h.1.1.1.1.1.1.1
  have h2 := inB_true h.1.1.1.1.1.1.2
  exact ⟨h1, h2⟩
theorem ctB_in {c : Ct} (h : ctB c = true) : (0 ≤ c.o ∧ c.o ≤ 15) ∧ 1 ≤ c.n ∧ c.n ≤ 1000000 := by
  unfold ctB at h
  simp only [Bool.and_eq_true] at h
  exact ⟨inB_true h.1, inB_true h.2⟩
theorem count_in {m : Scn} (h : scB m = true) (o : Int) : 0 ≤ countOf m.gs o ∧ countOf m.gs o ≤ 1000000 := by
  have h3 := (scB_parts h).2.2.2.1
  unfold countOf
  cases hf : m.gs.find? fun l => l.o == o with
  | none => simp
  | some c =>
    have hm := List.mem_of_find?_eq_some hf
    have := (ctB_in (rowB_all h3 c hm)).2
    simp
    omega
/-- The Size of an EvAdd. -/
theorem evOk_add {e : Ev} (h : evOk e = true) (hk : e.k = 12) : 1 ≤ e.s ∧ e.s ≤ 9 := by
  unfold evOk at h
  simp only [Bool.and_eq_true] at h
  have h4 := h.1.1.2
  unfold ev4 at h4
  rw [hk] at h4
  have : hasB 12 8 = true := by decide
  rw [this] at h4
  exact inB_true h4

set_option maxRecDepth 20000 in
set_option maxHeartbeats 8000000 in
theorem codeIn_any {B : Nat → Prop} (s : Sv) (m : Scn) (e : Ev) (w : World) (ho : I64 e.o) (h : ScR B w s m) :
    Calls Tryz.prog 11 #[.agg #[.int .i64 s.g, .slice s.lo s.ll s.lc, .slice s.co s.cl s.cc, .slice s.no s.nl s.nc, .slice s.oo s.ol s.oc], .agg #[.int .i64 e.k, .int .i64 e.g, .int .i64 e.o, .int .i64 e.w, .int .i64 e.l, .int .i64 e.s, .int .i64 e.f, .int .i64 e.t]] w fun x w' => x = .returned (.int .i64 (codeIn m e)) ∧ Fr w w' := by
  obtain ⟨k1, k2, fW, hz⟩ := box2 w s e
  have cE := fun u => specOk_any e u
  have cS := fun u (hf : Fr w u) => sceneOk_any s m u (h.fr hf)
  have cN := fun u (hf : Fr w u) => l4CountOf_any s m e.o u (h.fr hf)
  have cL := fun u (hf : Fr w u) hk => l4LockCode_any s m e u hk ho (h.fr hf)
  have cC := fun u (hf : Fr w u) hk hm => l4ChanCode_any s m e u hk hm (h.fr hf)
  have cO := fun u (hf : Fr w u) => l4In_any s.oo s.ol s.oc m.os e.o u h.ol.symm (h.fr hf).ons
  have HG : Hid (s.g = m.g) := h.g
  have hkk : evOk e = true → (1 ≤ e.k ∧ e.k ≤ 22) ∧ 0 ≤ e.g ∧ e.g ≤ 15 := evOk_k
  have hadd : evOk e = true → e.k = 12 → 1 ≤ e.s ∧ e.s ≤ 9 := evOk_add
  obtain ⟨R, hR⟩ : ∃ R, R = codeIn m e := ⟨_, rfl⟩
  rw [← hR]
  unfold codeIn at hR
  have hcnt := fun hm => count_in (m := m) hm e.o
  obtain ⟨C, hC⟩ : ∃ C, C = countOf m.gs e.o := ⟨_, rfl⟩
  have HC : Hid (C = countOf m.gs e.o) := hC
  simp only [← hC] at cN hcnt
  clear hC
  clear h
  obtain ⟨k, gr, o, wi, l, sz, f, t⟩ := e
  obtain ⟨g, lo, ll, lc, co, cl, cc, no, nl, nc, oo, ol, oc⟩ := s
  simp only at ho k1 k2 fW hz cE cS cN cL cC cO HG HC hkk hadd hcnt ⊢
  obtain ⟨EO, hEO⟩ : ∃ EO, EO = evOk ⟨k, gr, o, wi, l, sz, f, t⟩ := ⟨_, rfl⟩
  rw [← hEO] at hR hkk hadd
  simp only [← hEO] at cE
  clear hEO
  obtain ⟨SO, hSO⟩ : ∃ SO, SO = scB m := ⟨_, rfl⟩
  have HSO : Hid (SO = scB m) := hSO
  rw [← hSO] at hR
  simp only [← hSO] at cS hcnt cC
  clear hSO
  cases EO
  · have HR : Hid (R = 1) := by rw [if_pos (.inl rfl)] at hR; exact hR
    clear hR
    go_enter Tryz.func11, Tryz.ntmps11
    go_wp2_with fail
    refine (cE _).mono ?_
    rintro e u1 ⟨rfl, f1⟩
    go_wp2_with fail
    go_ret
    exact ⟨ret_int HR.out.symm, fW.trans f1⟩
  replace hkk := hkk rfl
  replace hadd := hadd rfl
  have HQ : Hid (∀ u (_ : Fr ((w.alloc (.cells #[.int .i64 g, .slice lo ll lc, .slice co cl cc, .slice no nl nc, .slice oo ol oc] 29)).alloc (.cells #[.int .i64 k, .int .i64 gr, .int .i64 o, .int .i64 wi, .int .i64 l, .int .i64 sz, .int .i64 f, .int .i64 t] 31)) u), ScB u w.heap.size ⟨g, lo, ll, lc, co, cl, cc, no, nl, nc, oo, ol, oc⟩ ∧ EvAt u (w.heap.size + 1) ⟨k, gr, o, wi, l, sz, f, t⟩) := fun u f => ⟨(k1.fr f).at, k2.at.fr f⟩
  clear k1 k2 hz
  cases SO
  · have HR : Hid (R = 1) := by rw [if_pos (.inr rfl)] at hR; exact hR
    clear hR
    go_enter Tryz.func11, Tryz.ntmps11
    go_wp2_with fail
    refine (cE _).mono ?_
    rintro e u1 ⟨rfl, f1⟩
    obtain ⟨⟨s0, s1, s2, s3, s4⟩, -⟩ := HQ.out _ f1
    simp only at s0 s1 s2 s3 s4
    go_wp2_with fail
    refine (cS _ (fW.trans f1)).mono ?_
    rintro e u2 ⟨rfl, f2⟩
    go_wp2_with fail
    go_ret
    exact ⟨ret_int HR.out.symm, (fW.trans f1).trans f2⟩
  replace hcnt := hcnt rfl
  replace cC := fun u hf hk => cC u hf hk rfl
  rw [if_neg (by simp)] at hR
  go_enter Tryz.func11, Tryz.ntmps11
  go_wp2_with fail
  refine (cE _).mono ?_
  rintro e u1 ⟨rfl, f1⟩
  obtain ⟨⟨s0, s1, s2, s3, s4⟩, -⟩ := HQ.out _ f1
  simp only at s0 s1 s2 s3 s4
  go_wp2_with fail
  refine (cS _ (fW.trans f1)).mono ?_
  rintro e u2 ⟨rfl, f2⟩
  have fA := f1.trans f2
  clear s0 s1 s2 s3 s4 cE cS f1 f2
  obtain ⟨⟨s0, s1, s2, s3, s4⟩, ⟨e0, e1, e2, e3, e4, e5, e6, e7⟩⟩ := HQ.out _ fA
  simp only at s0 s1 s2 s3 s4 e0 e1 e2 e3 e4 e5 e6 e7
  by_cases hg1 : g ≤ gr
  · have hd1 : decide (g ≤ gr) = true := decide_eq_true hg1
    have HR : Hid (R = 2) := by
      rw [if_pos] at hR
      · exact hR
      · left; rw [← HG.out]; exact hg1
    go_wp2_with fail
    go_ret
    exact ⟨ret_int HR.out.symm, fW.trans fA⟩
  have HG2 : Hid (gr < g) := (by omega : gr < g)
  have hd1 : decide (g ≤ gr) = false := decide_eq_false hg1
  clear hg1
  by_cases hk1 : k = 1
  · subst hk1
    cases ho1 : (o == g)
    · have ho3 : (o != g) = true := by rw [bne, ho1]; rfl
      have HR : Hid (R = 2) := by
        rw [if_pos] at hR
        · exact hR
        · right; left; exact ⟨rfl, by rw [← HG.out]; exact beq_eq_false_iff_ne.1 ho1⟩
      clear hR
      go_wp2_with fail
      go_ret
      exact ⟨ret_int HR.out.symm, fW.trans fA⟩
    · have ho3 : (o != g) = false := by rw [bne, ho1]; rfl
      have ho2 : o = g := beq_iff_eq.1 ho1
      rw [if_neg (by unfold gorBad; simp only; rw [← HG.out]; have := HG2.out; omega)] at hR
      clear ho2
      go_wp2_with fail
      refine (cN _ (fW.trans fA)).mono ?_
      rintro e u3 ⟨rfl, f3⟩
      have fB := fA.trans f3
      clear s0 s1 s2 s3 s4 e0 e1 e2 e3 e4 e5 e6 e7 cN f3 fA hd1
      obtain ⟨⟨s0, s1, s2, s3, s4⟩, ⟨e0, e1, e2, e3, e4, e5, e6, e7⟩⟩ := HQ.out _ fB
      simp only at s0 s1 s2 s3 s4 e0 e1 e2 e3 e4 e5 e6 e7
      have HR : Hid (R = 0) := by
        show R = 0
        rw [hR]
        simp [restCode]
      clear hR
      go_wp2_with fail
      go_ret
      exact ⟨ret_int HR.out.symm, fW.trans fB⟩
  have ek1 : (k == 1) = false := beq_eq_false_iff_ne.2 hk1
  by_cases hk9 : k = 9
  · subst hk9
    by_cases hw1 : g ≤ wi
    · have hw5 : decide (g ≤ wi) = true := decide_eq_true hw1
      have HR : Hid (R = 2) := by
        rw [if_pos] at hR
        · exact hR
        · right; right; exact ⟨rfl, .inl (by rw [← HG.out]; exact hw1)⟩
      clear hR
      go_wp2_with fail
      go_ret
      exact ⟨ret_int HR.out.symm, fW.trans fA⟩
    · have HW2 : Hid (wi < g) := (by omega : wi < g)
      have hw5 : decide (g ≤ wi) = false := decide_eq_false hw1
      clear hw1
      cases hw3 : (wi == gr)
      · have hw4 : wi ≠ gr := beq_eq_false_iff_ne.1 hw3
        rw [if_neg (by unfold gorBad; simp only; rw [← HG.out]; have := HG2.out; have := HW2.out; omega)] at hR
        clear hw4
        go_wp2_with fail
        refine (cN _ (fW.trans fA)).mono ?_
        rintro e u3 ⟨rfl, f3⟩
        have fB := fA.trans f3
        clear s0 s1 s2 s3 s4 e0 e1 e2 e3 e4 e5 e6 e7 cN f3 fA hd1
        obtain ⟨⟨s0, s1, s2, s3, s4⟩, ⟨e0, e1, e2, e3, e4, e5, e6, e7⟩⟩ := HQ.out _ fB
        simp only at s0 s1 s2 s3 s4 e0 e1 e2 e3 e4 e5 e6 e7
        have HR : Hid (R = chanCode m ⟨9, gr, o, wi, l, sz, f, t⟩) := by
          show R = chanCode m ⟨9, gr, o, wi, l, sz, f, t⟩
          rw [hR]
          simp [restCode]
        clear hR
        go_wp2_with fail
        refine (cC _ (fW.trans fB) ⟨by decide, by decide⟩).mono ?_
        rintro e u4 ⟨rfl, f4⟩
        go_wp2_with fail
        go_ret
        exact ⟨ret_int HR.out.symm, (fW.trans fB).trans f4⟩
      · have HR : Hid (R = 2) := by
          rw [if_pos] at hR
          · exact hR
          · right; right; exact ⟨rfl, .inr (beq_iff_eq.1 hw3)⟩
        clear hR
        go_wp2_with fail
        go_ret
        exact ⟨ret_int HR.out.symm, fW.trans fA⟩
  have ek9 : (k == 9) = false := beq_eq_false_iff_ne.2 hk9
  rw [if_neg (by unfold gorBad; simp only; rw [← HG.out]; have := HG2.out; omega)] at hR
  go_wp2_with fail
  refine (cN _ (fW.trans fA)).mono ?_
  rintro e u3 ⟨rfl, f3⟩
  have fB := fA.trans f3
  clear s0 s1 s2 s3 s4 e0 e1 e2 e3 e4 e5 e6 e7 cN f3 fA hd1
  obtain ⟨⟨s0, s1, s2, s3, s4⟩, ⟨e0, e1, e2, e3, e4, e5, e6, e7⟩⟩ := HQ.out _ fB
  simp only at s0 s1 s2 s3 s4 e0 e1 e2 e3 e4 e5 e6 e7
  rcases (show k = 2 ∨ k = 3 ∨ k = 4 ∨ k = 5 ∨ k = 6 ∨ k = 7 ∨ k = 8 ∨ k = 10 ∨ k = 11 ∨ k = 12 ∨ k = 13 ∨ k = 14 ∨ k = 15 ∨ k = 16 ∨ k = 17 ∨ k = 18 ∨ k = 19 ∨ k = 20 ∨ k = 21 ∨ k = 22 by omega) with rfl | rfl | rfl | rfl | rfl | rfl | rfl | rfl | rfl | rfl | rfl | rfl | rfl | rfl | rfl | rfl | rfl | rfl | rfl | rfl
  · clear hk1 hk9 ek1 ek9 hkk
    clear hadd
    have HR : Hid (R = lockCode m ⟨2, gr, o, wi, l, sz, f, t⟩) := by
      show R = lockCode m ⟨2, gr, o, wi, l, sz, f, t⟩
      rw [hR]
      simp [restCode]
    clear hR
    go_wp2_with fail
    refine (cL _ (fW.trans fB) ⟨by decide, by decide⟩).mono ?_
    rintro e u4 ⟨rfl, f4⟩
    go_wp2_with fail
    go_ret
    exact ⟨ret_int HR.out.symm, (fW.trans fB).trans f4⟩
  · clear hk1 hk9 ek1 ek9 hkk
    clear hadd
    have HR : Hid (R = lockCode m ⟨3, gr, o, wi, l, sz, f, t⟩) := by
      show R = lockCode m ⟨3, gr, o, wi, l, sz, f, t⟩
      rw [hR]
      simp [restCode]
    clear hR
    go_wp2_with fail
    refine (cL _ (fW.trans fB) ⟨by decide, by decide⟩).mono ?_
    rintro e u4 ⟨rfl, f4⟩
    go_wp2_with fail
    go_ret
    exact ⟨ret_int HR.out.symm, (fW.trans fB).trans f4⟩
  · clear hk1 hk9 ek1 ek9 hkk
    clear hadd
    have HR : Hid (R = lockCode m ⟨4, gr, o, wi, l, sz, f, t⟩) := by
      show R = lockCode m ⟨4, gr, o, wi, l, sz, f, t⟩
      rw [hR]
      simp [restCode]
    clear hR
    go_wp2_with fail
    refine (cL _ (fW.trans fB) ⟨by decide, by decide⟩).mono ?_
    rintro e u4 ⟨rfl, f4⟩
    go_wp2_with fail
    go_ret
    exact ⟨ret_int HR.out.symm, (fW.trans fB).trans f4⟩
  · clear hk1 hk9 ek1 ek9 hkk
    clear hadd
    have HR : Hid (R = lockCode m ⟨5, gr, o, wi, l, sz, f, t⟩) := by
      show R = lockCode m ⟨5, gr, o, wi, l, sz, f, t⟩
      rw [hR]
      simp [restCode]
    clear hR
    go_wp2_with fail
    refine (cL _ (fW.trans fB) ⟨by decide, by decide⟩).mono ?_
    rintro e u4 ⟨rfl, f4⟩
    go_wp2_with fail
    go_ret
    exact ⟨ret_int HR.out.symm, (fW.trans fB).trans f4⟩
  · clear hk1 hk9 ek1 ek9 hkk
    clear hadd
    have HR : Hid (R = chanCode m ⟨6, gr, o, wi, l, sz, f, t⟩) := by
      show R = chanCode m ⟨6, gr, o, wi, l, sz, f, t⟩
      rw [hR]
      simp [restCode]
    clear hR
    go_wp2_with fail
    refine (cC _ (fW.trans fB) ⟨by decide, by decide⟩).mono ?_
    rintro e u4 ⟨rfl, f4⟩
    go_wp2_with fail
    go_ret
    exact ⟨ret_int HR.out.symm, (fW.trans fB).trans f4⟩
  · clear hk1 hk9 ek1 ek9 hkk
    clear hadd
    have HR : Hid (R = chanCode m ⟨7, gr, o, wi, l, sz, f, t⟩) := by
      show R = chanCode m ⟨7, gr, o, wi, l, sz, f, t⟩
      rw [hR]
      simp [restCode]
    clear hR
    go_wp2_with fail
    refine (cC _ (fW.trans fB) ⟨by decide, by decide⟩).mono ?_
    rintro e u4 ⟨rfl, f4⟩
    go_wp2_with fail
    go_ret
    exact ⟨ret_int HR.out.symm, (fW.trans fB).trans f4⟩
  · clear hk1 hk9 ek1 ek9 hkk
    clear hadd
    have HR : Hid (R = chanCode m ⟨8, gr, o, wi, l, sz, f, t⟩) := by
      show R = chanCode m ⟨8, gr, o, wi, l, sz, f, t⟩
      rw [hR]
      simp [restCode]
    clear hR
    go_wp2_with fail
    refine (cC _ (fW.trans fB) ⟨by decide, by decide⟩).mono ?_
    rintro e u4 ⟨rfl, f4⟩
    go_wp2_with fail
    go_ret
    exact ⟨ret_int HR.out.symm, (fW.trans fB).trans f4⟩
  · clear hk1 hk9 ek1 ek9 hkk
    clear hadd
    have HR : Hid (R = chanCode m ⟨10, gr, o, wi, l, sz, f, t⟩) := by
      show R = chanCode m ⟨10, gr, o, wi, l, sz, f, t⟩
      rw [hR]
      simp [restCode]
    clear hR
    go_wp2_with fail
    refine (cC _ (fW.trans fB) ⟨by decide, by decide⟩).mono ?_
    rintro e u4 ⟨rfl, f4⟩
    go_wp2_with fail
    go_ret
    exact ⟨ret_int HR.out.symm, (fW.trans fB).trans f4⟩
  · clear hk1 hk9 ek1 ek9 hkk
    clear hadd
    have HR : Hid (R = chanCode m ⟨11, gr, o, wi, l, sz, f, t⟩) := by
      show R = chanCode m ⟨11, gr, o, wi, l, sz, f, t⟩
      rw [hR]
      simp [restCode]
    clear hR
    go_wp2_with fail
    refine (cC _ (fW.trans fB) ⟨by decide, by decide⟩).mono ?_
    rintro e u4 ⟨rfl, f4⟩
    go_wp2_with fail
    go_ret
    exact ⟨ret_int HR.out.symm, (fW.trans fB).trans f4⟩
  · clear hk1 hk9 ek1 ek9 hkk
    have hs := hadd rfl
    have hwr : IntKind.i64.wrap (C + sz) = C + sz := by rw [IntKind.wrap_i64]; omega
    by_cases hc : 1000000 < C + sz
    · have hd : decide (1000000 < C + sz) = true := decide_eq_true hc
      have HR : Hid (R = 9) := by
        show R = 9
        rw [hR]
        simp [restCode, ← HC.out, hc]
      clear hR hc
      go_wp2_with fail
      go_ret
      exact ⟨ret_int HR.out.symm, fW.trans fB⟩
    · have hc' : C + sz ≤ 1000000 := by omega
      have hd : decide (1000000 < C + sz) = false := decide_eq_false hc
      have HR : Hid (R = 0) := by
        show R = 0
        rw [hR]
        simp [restCode, ← HC.out, hc']
      clear hR hc hc'
      go_wp2_with fail
      go_ret
      exact ⟨ret_int HR.out.symm, fW.trans fB⟩
  · clear hk1 hk9 ek1 ek9 hkk
    clear hadd
    cases hc : (C == 0)
    · have hb : (C != 0) = true := by rw [bne, hc]; rfl
      have hc' := beq_eq_false_iff_ne.1 hc
      have HR : Hid (R = 0) := by
        show R = 0
        rw [hR]
        simp [restCode, ← HC.out, hc']
      clear hR hc'
      go_wp2_with fail
      go_ret
      exact ⟨ret_int HR.out.symm, fW.trans fB⟩
    · have hb : (C != 0) = false := by rw [bne, hc]; rfl
      have hc' := beq_iff_eq.1 hc
      have HR : Hid (R = 9) := by
        show R = 9
        rw [hR]
        simp [restCode, ← HC.out, hc']
      clear hR hc'
      go_wp2_with fail
      go_ret
      exact ⟨ret_int HR.out.symm, fW.trans fB⟩
  · clear hk1 hk9 ek1 ek9 hkk
    clear hadd
    cases hc : (C == 0)
    · have hb : (C != 0) = true := by rw [bne, hc]; rfl
      have hc' := beq_eq_false_iff_ne.1 hc
      have HR : Hid (R = 9) := by
        show R = 9
        rw [hR]
        simp [restCode, ← HC.out, hc']
      clear hR hc'
      go_wp2_with fail
      go_ret
      exact ⟨ret_int HR.out.symm, fW.trans fB⟩
    · have hb : (C != 0) = false := by rw [bne, hc]; rfl
      have hc' := beq_iff_eq.1 hc
      have HR : Hid (R = 0) := by
        show R = 0
        rw [hR]
        simp [restCode, ← HC.out, hc']
      clear hR hc'
      go_wp2_with fail
      go_ret
      exact ⟨ret_int HR.out.symm, fW.trans fB⟩
  · clear hk1 hk9 ek1 ek9 hkk
    clear hadd
    cases hm : memB m.os o
    · simp only [hm] at cO
      have HR : Hid (R = 0) := by
        show R = 0
        rw [hR]
        simp [restCode, hm]
      clear hR hm
      have := Later.some u3
      have cO := fun (s : Later u3) => cO s.u ((fW.trans fB).trans s.fr)
      have p4 : ∀ s : Later u3, s.u.cell? ⟨w.heap.size, 4, none⟩ = some (.slice oo ol oc) := fun s => s.fr.cell s4
      have q0 : ∀ s : Later u3, s.u.cell? ⟨w.heap.size + 1, 0, none⟩ = some (.int .i64 15) := fun s => s.fr.cell e0
      have q2 : ∀ s : Later u3, s.u.cell? ⟨w.heap.size + 1, 2, none⟩ = some (.int .i64 o) := fun s => s.fr.cell e2
      go_wp2_with fail
      refine wp_region_grown (by kernel_rfl) (by kernel_rfl) ?_
      repeat (go_big_quiet_step (with_reducible exact Calls.grown_same (cO _)))
      refine wpQuiet_nil ?_
      rintro _ ⟨x, rfl⟩
      go_wp2_with fail
      go_ret
      exact ⟨ret_int HR.out.symm, (fW.trans fB).trans x.fr⟩
    · simp only [hm] at cO
      have HR : Hid (R = 10) := by
        show R = 10
        rw [hR]
        simp [restCode, hm]
      clear hR hm
      have := Later.some u3
      have cO := fun (s : Later u3) => cO s.u ((fW.trans fB).trans s.fr)
      have p4 : ∀ s : Later u3, s.u.cell? ⟨w.heap.size, 4, none⟩ = some (.slice oo ol oc) := fun s => s.fr.cell s4
      have q0 : ∀ s : Later u3, s.u.cell? ⟨w.heap.size + 1, 0, none⟩ = some (.int .i64 15) := fun s => s.fr.cell e0
      have q2 : ∀ s : Later u3, s.u.cell? ⟨w.heap.size + 1, 2, none⟩ = some (.int .i64 o) := fun s => s.fr.cell e2
      go_wp2_with fail
      refine wp_region_grown (by kernel_rfl) (by kernel_rfl) ?_
      repeat (go_big_quiet_step (with_reducible exact Calls.grown_same (cO _)))
      refine wpQuiet_nil ?_
      rintro _ ⟨x, rfl⟩
      go_wp2_with fail
      go_ret
      exact ⟨ret_int HR.out.symm, (fW.trans fB).trans x.fr⟩
  · clear hk1 hk9 ek1 ek9 hkk
    clear hadd
    cases hm : memB m.os o
    · simp only [hm] at cO
      have HR : Hid (R = 10) := by
        show R = 10
        rw [hR]
        simp [restCode, hm]
      clear hR hm
      have := Later.some u3
      have cO := fun (s : Later u3) => cO s.u ((fW.trans fB).trans s.fr)
      have p4 : ∀ s : Later u3, s.u.cell? ⟨w.heap.size, 4, none⟩ = some (.slice oo ol oc) := fun s => s.fr.cell s4
      have q0 : ∀ s : Later u3, s.u.cell? ⟨w.heap.size + 1, 0, none⟩ = some (.int .i64 16) := fun s => s.fr.cell e0
      have q2 : ∀ s : Later u3, s.u.cell? ⟨w.heap.size + 1, 2, none⟩ = some (.int .i64 o) := fun s => s.fr.cell e2
      go_wp2_with fail
      refine wp_region_grown (by kernel_rfl) (by kernel_rfl) ?_
      repeat (go_big_quiet_step (with_reducible exact Calls.grown_same (cO _)))
      refine wpQuiet_nil ?_
      rintro _ ⟨x, rfl⟩
      go_wp2_with fail
      go_ret
      exact ⟨ret_int HR.out.symm, (fW.trans fB).trans x.fr⟩
    · simp only [hm] at cO
      have HR : Hid (R = 0) := by
        show R = 0
        rw [hR]
        simp [restCode, hm]
      clear hR hm
      have := Later.some u3
      have cO := fun (s : Later u3) => cO s.u ((fW.trans fB).trans s.fr)
      have p4 : ∀ s : Later u3, s.u.cell? ⟨w.heap.size, 4, none⟩ = some (.slice oo ol oc) := fun s => s.fr.cell s4
      have q0 : ∀ s : Later u3, s.u.cell? ⟨w.heap.size + 1, 0, none⟩ = some (.int .i64 16) := fun s => s.fr.cell e0
      have q2 : ∀ s : Later u3, s.u.cell? ⟨w.heap.size + 1, 2, none⟩ = some (.int .i64 o) := fun s => s.fr.cell e2
      go_wp2_with fail
      refine wp_region_grown (by kernel_rfl) (by kernel_rfl) ?_
      repeat (go_big_quiet_step (with_reducible exact Calls.grown_same (cO _)))
      refine wpQuiet_nil ?_
      rintro _ ⟨x, rfl⟩
      go_wp2_with fail
      go_ret
      exact ⟨ret_int HR.out.symm, (fW.trans fB).trans x.fr⟩
  · clear hk1 hk9 ek1 ek9 hkk
    clear hadd
    have HR : Hid (R = 0) := by
      show R = 0
      rw [hR]
      simp [restCode]
    clear hR
    go_wp2_with fail
    go_ret
    exact ⟨ret_int HR.out.symm, fW.trans fB⟩
  · clear hk1 hk9 ek1 ek9 hkk
    clear hadd
    have HR : Hid (R = 0) := by
      show R = 0
      rw [hR]
      simp [restCode]
    clear hR
    go_wp2_with fail
    go_ret
    exact ⟨ret_int HR.out.symm, fW.trans fB⟩
  · clear hk1 hk9 ek1 ek9 hkk
    clear hadd
    have HR : Hid (R = 0) := by
      show R = 0
      rw [hR]
      simp [restCode]
    clear hR
    go_wp2_with fail
    go_ret
    exact ⟨ret_int HR.out.symm, fW.trans fB⟩
  · clear hk1 hk9 ek1 ek9 hkk
    clear hadd
    have HR : Hid (R = 0) := by
      show R = 0
      rw [hR]
      simp [restCode]
    clear hR
    go_wp2_with fail
    go_ret
    exact ⟨ret_int HR.out.symm, fW.trans fB⟩
  · clear hk1 hk9 ek1 ek9 hkk
    clear hadd
    have HR : Hid (R = 0) := by
      show R = 0
      rw [hR]
      simp [restCode]
    clear hR
    go_wp2_with fail
    go_ret
    exact ⟨ret_int HR.out.symm, fW.trans fB⟩
  · clear hk1 hk9 ek1 ek9 hkk
    clear hadd
    have HR : Hid (R = 0) := by
      show R = 0
      rw [hR]
      simp [restCode]
    clear hR
    go_wp2_with fail
    go_ret
    exact ⟨ret_int HR.out.symm, fW.trans fB⟩
end Go.Proofs.YtikjodbboljhjaaGreatDoor
/-
  A board that is a scene: what its maps hold, and that the program's ten questions make the specification's code.
-/
namespace Go.Proofs.YtikjodbboljhjaaGreatDoor
open Go.RowKit

/-- The lock's value that a map holds is the lock that is meant. -/
def LkAt (B : Nat → Prop) (w : World) (v : Option Value) (l : Option Lk) : Prop :=
  (l = none ∧ v = none) ∨ ∃ lk lv, l = some lk ∧ v = some (valL lv) ∧ LkR B w lv lk
theorem LkAt.keep {B : Nat → Prop} {w w' : World} {v : Option Value} {l : Option Lk} {row : Option Nat} (h : LkAt B w v l) (k : w.grownBy w' row) (hr : ∀ j, row = some j → ¬ B j) : LkAt B w' v l := by
  rcases h with h | ⟨lk, lv, h1, h2, h3⟩
  · exact .inl h
  · exact .inr ⟨lk, lv, h1, h2, h3.keep k hr⟩
theorem LkAt.mono {B B' : Nat → Prop} {w : World} {v : Option Value} {l : Option Lk} (h : LkAt B w v l) (hB : ∀ b, B b → B' b) : LkAt B' w v l := by
  rcases h with h | ⟨lk, lv, h1, h2, h3⟩
  · exact .inl h
  · exact .inr ⟨lk, lv, h1, h2, h3.mono hB⟩

/-- Block b is a board, and it is the scene m; its maps have at most n entries each. -/
structure BoardM (B : Nat → Prop) (w : World) (b b1 b2 b3 b4 n : Nat) (m : Scn) : Prop where
  c0 : w.cell? ⟨b, 0, none⟩ = some (.int .i64 m.g)
  c1 : w.cell? ⟨b, 1, none⟩ = some (.map (some b1))
  c2 : w.cell? ⟨b, 2, none⟩ = some (.map (some b2))
  c3 : w.cell? ⟨b, 3, none⟩ = some (.map (some b3))
  c4 : w.cell? ⟨b, 4, none⟩ = some (.map (some b4))
  m1 : ∃ fl, MapF w b1 n fl ∧ ∀ o, LkAt B w (fl o) (m.ls.find? fun l => l.o == o)
  m2 : MapF w b2 n fun o => (m.cs.find? fun c => c.o == o).map valC
  m3 : MapF w b3 n fun o => (m.gs.find? fun c => c.o == o).map valN
  m4 : MapF w b4 n fun o => (m.os.find? fun x => x == o).map valI
theorem MapF.mono {w : World} {b n n' : Nat} {f : Int → Option Value} (h : MapF w b n f) (hn : n ≤ n') : MapF w b n' f := by
  obtain ⟨D, h1, h2⟩ := h
  exact ⟨D, h1.mono hn, h2⟩
theorem BoardM.fr {B : Nat → Prop} {w w' : World} {b b1 b2 b3 b4 n : Nat} {m : Scn} (h : BoardM B w b b1 b2 b3 b4 n m) (k : Fr w w') : BoardM B w' b b1 b2 b3 b4 n m := by
  obtain ⟨fl, q1, q2⟩ := h.m1
  exact ⟨k.cell h.c0, k.cell h.c1, k.cell h.c2, k.cell h.c3, k.cell h.c4, ⟨fl, q1.fr k, fun o => (q2 o).keep k (by simp)⟩, h.m2.fr k, h.m3.fr k, h.m4.fr k⟩

theorem LksR.tail {B : Nat → Prop} {w : World} {lv : Lv} {l : Lk} {lvs : List Lv} {ls : List Lk} (h : LksR B w (lv :: lvs) (l :: ls)) : LkR B w lv l ∧ LksR B w lvs ls :=
  ⟨h.at_ 0 (by simp) (by simp), by have := h.len; simp at this; exact this, fun j h1 h2 => by have := h.at_ (j + 1) (by simp; omega) (by simp; omega); simpa using this⟩
theorem lk_find {B : Nat → Prop} {w : World} (o : Int) : ∀ (lvs : List Lv) (ls : List Lk), LksR B w lvs ls → LkAt B w ((lvs.find? fun l => l.o == o).map valL) (ls.find? fun l => l.o == o)
  | [], [], _ => .inl ⟨rfl, rfl⟩
  | [], _ :: _, h => by have := h.len; simp at this
  | _ :: _, [], h => by have := h.len; simp at this
  | lv :: lvs, l :: ls, h => by
    obtain ⟨h1, h2⟩ := h.tail
    have ih := lk_find o lvs ls h2
    rw [List.find?_cons, List.find?_cons, ← h1.o]
    cases hb : (lv.o == o)
    · exact ih
    · exact .inr ⟨l, lv, rfl, rfl, h1⟩
theorem lk_os {B : Nat → Prop} {w : World} : ∀ (lvs : List Lv) (ls : List Lk), LksR B w lvs ls → lvs.map Lv.o = ls.map Lk.o
  | [], [], _ => rfl
  | [], _ :: _, h => by have := h.len; simp at this
  | _ :: _, [], h => by have := h.len; simp at this
  | lv :: lvs, l :: ls, h => by
    obtain ⟨h1, h2⟩ := h.tail
    rw [List.map_cons, List.map_cons, h1.o, lk_os lvs ls h2]
theorem pair_map {α : Type} {num : α → Int} {xs : List α} (h : (xs.map num).Pairwise (· < ·)) : xs.Pairwise (fun a b => num a < num b) := List.pairwise_map.1 h
/-- What rises in a right scene. -/
theorem sc_rise {m : Scn} (h : scB m = true) : (m.ls.map Lk.o).Pairwise (· < ·) ∧ (m.cs.map Ch.o).Pairwise (· < ·) ∧ (m.gs.map Ct.o).Pairwise (· < ·) ∧ m.os.Pairwise (· < ·) := by
  obtain ⟨-, h1, h2, h3, h4⟩ := scB_parts h
  refine ⟨((rowB_iff _ _ _).1 h1).2, ((rowB_iff _ _ _).1 h2).2, ((rowB_iff _ _ _).1 h3).2, ?_⟩
  have := ((rowB_iff _ _ _).1 h4).2
  simpa using this

theorem boardM_of {B : Nat → Prop} {w : World} {b b1 b2 b3 b4 : Nat} {m : Scn} {lvs : List Lv} (hm : scB m = true) (hL : LksR B w lvs m.ls) (h1 : m.ls.length ≤ 1048576) (h2 : m.cs.length ≤ 1048576) (h3 : m.gs.length ≤ 1048576) (h4 : m.os.length ≤ 1048576)
    (h : Board w b m.g b1 b2 b3 b4 lvs.length m.cs.length m.gs.length m.os.length (numF Lv.o valL lvs) (numF Ch.o valC m.cs) (numF Ct.o valN m.gs) (numF id valI m.os)) : BoardM B w b b1 b2 b3 b4 1048576 m := by
  obtain ⟨r1, r2, r3, r4⟩ := sc_rise hm
  rw [← lk_os _ _ hL] at r1
  have e1 : numF Lv.o valL lvs = fun o => (lvs.find? fun l => l.o == o).map valL := funext fun o => numF_up _ _ _ o (pair_map r1)
  have e2 : numF Ch.o valC m.cs = fun o => (m.cs.find? fun l => l.o == o).map valC := funext fun o => numF_up _ _ _ o (pair_map r2)
  have e3 : numF Ct.o valN m.gs = fun o => (m.gs.find? fun l => l.o == o).map valN := funext fun o => numF_up _ _ _ o (pair_map r3)
  have e4 : numF id valI m.os = fun o => (m.os.find? fun l => l == o).map valI := funext fun o => numF_up _ _ _ o r4
  have q1 := h.m1
  have q2 := h.m2
  have q3 := h.m3
  have q4 := h.m4
  rw [e1] at q1
  rw [e2] at q2
  rw [e3] at q3
  rw [e4] at q4
  have hl := hL.len
  exact ⟨h.c0, h.c1, h.c2, h.c3, h.c4, ⟨_, q1.mono (by omega), fun o => lk_find o lvs m.ls hL⟩, q2.mono h2, q3.mono h3, q4.mono h4⟩

/-- What the maps answer. -/
def chanZ (m : Scn) (o : Int) : Ch := (m.cs.find? fun c => c.o == o).getD ⟨0, 0, 0, 0, false⟩
def countZ (m : Scn) (o : Int) : Ct := (m.gs.find? fun c => c.o == o).getD ⟨0, 0⟩
def lockZ (m : Scn) (o : Int) : Lk := (m.ls.find? fun c => c.o == o).getD ⟨0, 0, []⟩
def hasL (m : Scn) (o : Int) : Bool := (m.ls.find? fun c => c.o == o).isSome
def hasN (m : Scn) (o : Int) : Bool := (m.gs.find? fun c => c.o == o).isSome
def hasO (m : Scn) (o : Int) : Bool := (m.os.find? fun c => c == o).isSome

theorem zeroL (u : World) : (zeroValue 47).run Tryz.prog u = .ok (.agg #[.int .i64 0, .int .i64 0, .slice none 0 0]) u := by kernel_rfl
theorem zeroC (u : World) : (zeroValue 82).run Tryz.prog u = .ok (.agg #[.int .i64 0, .int .i64 0, .int .i64 0, .int .i64 0, .bool false]) u := by kernel_rfl
theorem zeroN (u : World) : (zeroValue 85).run Tryz.prog u = .ok (.agg #[.int .i64 0, .int .i64 0]) u := by kernel_rfl
theorem zeroI (u : World) : (zeroValue 2).run Tryz.prog u = .ok (.int .i64 0) u := by kernel_rfl

theorem BoardM.lookC {B : Nat → Prop} {w : World} {b b1 b2 b3 b4 n : Nat} {m : Scn} (h : BoardM B w b b1 b2 b3 b4 n m) {o : Int} (ho : I64 o) : ∀ u, Fr w u → (Instr.lookup 128 (.map (some b2)) (.int .i64 o) false).run Tryz.prog u = .ok (.agg #[.int .i64 (chanZ m o).o, .int .i64 (chanZ m o).cap, .int .i64 (chanZ m o).sent, .int .i64 (chanZ m o).got, .bool (chanZ m o).cl]) u := by
  intro u f
  rw [(h.m2.fr f).look Tryz.underlying128 (zeroC u) ho]
  unfold chanZ
  cases m.cs.find? (fun c => c.o == o) <;> rfl
theorem BoardM.lookC2 {B : Nat → Prop} {w : World} {b b1 b2 b3 b4 n : Nat} {m : Scn} (h : BoardM B w b b1 b2 b3 b4 n m) {o : Int} (ho : I64 o) : ∀ u, Fr w u → (Instr.lookup 128 (.map (some b2)) (.int .i64 o) true).run Tryz.prog u = .ok (.tuple #[.agg #[.int .i64 (chanZ m o).o, .int .i64 (chanZ m o).cap, .int .i64 (chanZ m o).sent, .int .i64 (chanZ m o).got, .bool (chanZ m o).cl], .bool (isChan m.cs o)]) u := by
  intro u f
  rw [(h.m2.fr f).look_ok Tryz.underlying128 (zeroC u) ho]
  unfold chanZ isChan
  cases m.cs.find? (fun c => c.o == o) <;> rfl
theorem BoardM.lookN2 {B : Nat → Prop} {w : World} {b b1 b2 b3 b4 n : Nat} {m : Scn} (h : BoardM B w b b1 b2 b3 b4 n m) {o : Int} (ho : I64 o) : ∀ u, Fr w u → (Instr.lookup 131 (.map (some b3)) (.int .i64 o) true).run Tryz.prog u = .ok (.tuple #[.agg #[.int .i64 (countZ m o).o, .int .i64 (countZ m o).n], .bool (hasN m o)]) u := by
  intro u f
  rw [(h.m3.fr f).look_ok Tryz.underlying131 (zeroN u) ho]
  unfold countZ hasN
  cases m.gs.find? (fun c => c.o == o) <;> rfl
theorem BoardM.lookN {B : Nat → Prop} {w : World} {b b1 b2 b3 b4 n : Nat} {m : Scn} (h : BoardM B w b b1 b2 b3 b4 n m) {o : Int} (ho : I64 o) : ∀ u, Fr w u → (Instr.lookup 131 (.map (some b3)) (.int .i64 o) false).run Tryz.prog u = .ok (.agg #[.int .i64 (countZ m o).o, .int .i64 (countZ m o).n]) u := by
  intro u f
  rw [(h.m3.fr f).look Tryz.underlying131 (zeroN u) ho]
  unfold countZ
  cases m.gs.find? (fun c => c.o == o) <;> rfl
theorem BoardM.lookO {B : Nat → Prop} {w : World} {b b1 b2 b3 b4 n : Nat} {m : Scn} (h : BoardM B w b b1 b2 b3 b4 n m) {o : Int} (ho : I64 o) : ∃ z : Int, ∀ u, Fr w u → (Instr.lookup 134 (.map (some b4)) (.int .i64 o) true).run Tryz.prog u = .ok (.tuple #[.int .i64 z, .bool (hasO m o)]) u := by
  refine ⟨(m.os.find? fun c => c == o).getD 0, fun u f => ?_⟩
  rw [(h.m4.fr f).look_ok Tryz.underlying134 (zeroI u) ho]
  unfold hasO
  cases m.os.find? (fun c => c == o) <;> rfl
/-- A lock: its value, whichever it is, reads as the lock that is meant. -/
theorem BoardM.lookL {B : Nat → Prop} {w : World} {b b1 b2 b3 b4 n : Nat} {m : Scn} (h : BoardM B w b b1 b2 b3 b4 n m) {o : Int} (ho : I64 o) : ∃ (lo : Int) (ro : Option Addr) (rn rc : Nat), (lockZ m o).rd.length = rn ∧ rn ≤ 1048576 ∧ Reads w ro (lockZ m o).rd ∧ (InB B ro ∧ (ro = none → rc = 0)) ∧
    (∀ u, Fr w u → (Instr.lookup 125 (.map (some b1)) (.int .i64 o) true).run Tryz.prog u = .ok (.tuple #[.agg #[.int .i64 lo, .int .i64 (lockZ m o).wr, .slice ro rn rc], .bool (hasL m o)]) u) ∧
    (∀ u, Fr w u → (Instr.lookup 125 (.map (some b1)) (.int .i64 o) false).run Tryz.prog u = .ok (.agg #[.int .i64 lo, .int .i64 (lockZ m o).wr, .slice ro rn rc]) u) := by
  obtain ⟨fl, q1, q2⟩ := h.m1
  rcases q2 o with ⟨h1, h2⟩ | ⟨lk, lv, h1, h2, h3⟩
  · refine ⟨0, none, 0, 0, by simp [lockZ, h1], by omega, by rw [lockZ, h1]; exact Reads.nil _ _, ⟨inB_none _, fun _ => rfl⟩, fun u f => ?_, fun u f => ?_⟩
    · rw [(q1.fr f).look_ok Tryz.underlying125 (zeroL u) ho, h2]
      simp [lockZ, hasL, h1]
    · rw [(q1.fr f).look Tryz.underlying125 (zeroL u) ho, h2]
      simp [lockZ, h1]
  · refine ⟨lv.o, lv.ro, lv.rn, lv.rc, by simp [lockZ, h1, h3.rn], by have := h3.rn; have := h3.sz; omega, by rw [lockZ, h1]; exact h3.rd, ⟨h3.bl, h3.rc⟩, fun u f => ?_, fun u f => ?_⟩
    · rw [(q1.fr f).look_ok Tryz.underlying125 (zeroL u) ho, h2]
      simp [lockZ, hasL, h1, valL, h3.wr]
    · rw [(q1.fr f).look Tryz.underlying125 (zeroL u) ho, h2]
      simp [lockZ, h1, valL, h3.wr]
end Go.Proofs.YtikjodbboljhjaaGreatDoor
/-
  The program's questions on a board: who lacks a goroutine; what was done once.
-/
namespace Go.Proofs.YtikjodbboljhjaaGreatDoor
open Go.RowKit

def lacksB (g : Int) (e : Ev) : Bool := decide (g ≤ e.g) || (decide (e.k = 1) && decide (e.o ≠ g)) || (decide (e.k = 9) && (decide (g ≤ e.w) || decide (e.w = e.g)))

set_option maxHeartbeats 1000000 in
theorem lacksGor_any (b : Nat) (g : Int) (e : Ev) (w : World) (hb : w.cell? ⟨b, 0, none⟩ = some (.int .i64 g)) :
    Calls Tryz.prog 112 #[.pointer (some ⟨b, 0, none⟩), .agg #[.int .i64 e.k, .int .i64 e.g, .int .i64 e.o, .int .i64 e.w, .int .i64 e.l, .int .i64 e.s, .int .i64 e.f, .int .i64 e.t]] w fun x w' => x = .returned (.bool (lacksB g e)) ∧ Fr w w' := by
  have fW := Fr.alloc w (.cells #[.int .i64 e.k, .int .i64 e.g, .int .i64 e.o, .int .i64 e.w, .int .i64 e.l, .int .i64 e.s, .int .i64 e.f, .int .i64 e.t] 31)
  have kE := EvAt.new w e 31
  have hb := fW.cell hb
  obtain ⟨R, hR⟩ : ∃ R, R = lacksB g e := ⟨_, rfl⟩
  rw [← hR]
  have HR : Hid (R = lacksB g e) := hR
  clear hR
  obtain ⟨k, gr, o, wi, l, sz, f, t⟩ := e
  simp only at fW kE hb ⊢
  go_enter Tryz.func112, Tryz.ntmps112
  go_wp2_with fail
  obtain ⟨W, hW⟩ : ∃ W, W = w.alloc (.cells #[.int .i64 k, .int .i64 gr, .int .i64 o, .int .i64 wi, .int .i64 l, .int .i64 sz, .int .i64 f, .int .i64 t] 31) := ⟨_, rfl⟩
  rw [← hW] at fW kE hb ⊢
  clear hW
  obtain ⟨c0, c1, c2, c3, c4, c5, c6, c7⟩ := kE
  simp only at c0 c1 c2 c3
  clear c4 c5 c6 c7
  go_region_held3 (fun u => u.cell? ⟨b, 0, none⟩ = some (.int .i64 g) ∧ u.cell? ⟨w.heap.size, 0, none⟩ = some (.int .i64 k) ∧ u.cell? ⟨w.heap.size, 1, none⟩ = some (.int .i64 gr) ∧ u.cell? ⟨w.heap.size, 2, none⟩ = some (.int .i64 o) ∧ u.cell? ⟨w.heap.size, 3, none⟩ = some (.int .i64 wi)) (go_keep) (fail)
  obtain ⟨V, hV⟩ : ∃ V, V = W.drew := ⟨_, rfl⟩
  have fV : Fr w V := by rw [hV]; exact fW.trans (Fr.drew W)
  have kE : V.cell? ⟨b, 0, none⟩ = some (.int .i64 g) ∧ V.cell? ⟨w.heap.size, 0, none⟩ = some (.int .i64 k) ∧ V.cell? ⟨w.heap.size, 1, none⟩ = some (.int .i64 gr) ∧ V.cell? ⟨w.heap.size, 2, none⟩ = some (.int .i64 o) ∧ V.cell? ⟨w.heap.size, 3, none⟩ = some (.int .i64 wi) := by rw [hV]; exact ⟨hb, c0, c1, c2, c3⟩
  rw [← hV]
  clear hV fW hb c0 c1 c2 c3
  obtain ⟨hb, c0, c1, c2, c3⟩ := kE
  by_cases h1 : g ≤ gr
  · have HN : Hid (R = true) := by show R = true; rw [HR.out]; simp [lacksB, h1]
    go_wp2_with fail
    go_ret
    exact ⟨ret_bool HN.out.symm, fV⟩
  · by_cases h2 : k = 1
    · subst h2
      by_cases h3 : o = g
      · have HN : Hid (R = false) := by show R = false; rw [HR.out]; simp [lacksB, h1, h3]
        have hq : (o != g) = false := by simp [h3]
        have h3 : Hid (o = g) := h3
        go_wp2_with fail
        go_region_held3 (fun u => u.cell? ⟨b, 0, none⟩ = some (.int .i64 g) ∧ u.cell? ⟨w.heap.size, 0, none⟩ = some (.int .i64 1) ∧ u.cell? ⟨w.heap.size, 1, none⟩ = some (.int .i64 gr) ∧ u.cell? ⟨w.heap.size, 2, none⟩ = some (.int .i64 o) ∧ u.cell? ⟨w.heap.size, 3, none⟩ = some (.int .i64 wi)) (go_keep) (fail)
        go_wp2_with fail
        go_ret
        exact ⟨ret_bool HN.out.symm, fV.trans (Fr.drew V)⟩
      · have HN : Hid (R = true) := by show R = true; rw [HR.out]; simp [lacksB, h1, h3]
        have hq : (o != g) = true := by simp [h3]
        go_wp2_with fail
        go_region_held3 (fun u => u.cell? ⟨b, 0, none⟩ = some (.int .i64 g) ∧ u.cell? ⟨w.heap.size, 0, none⟩ = some (.int .i64 1) ∧ u.cell? ⟨w.heap.size, 1, none⟩ = some (.int .i64 gr) ∧ u.cell? ⟨w.heap.size, 2, none⟩ = some (.int .i64 o) ∧ u.cell? ⟨w.heap.size, 3, none⟩ = some (.int .i64 wi)) (go_keep) (fail)
        go_wp2_with fail
        go_ret
        exact ⟨ret_bool HN.out.symm, fV.trans (Fr.drew V)⟩
    · by_cases h3 : k = 9
      · subst h3
        have := Later.some V
        have q0 : ∀ s : Later V, s.u.cell? ⟨b, 0, none⟩ = some (.int .i64 g) := fun s => s.fr.cell hb
        have q1 : ∀ s : Later V, s.u.cell? ⟨w.heap.size, 1, none⟩ = some (.int .i64 gr) := fun s => s.fr.cell c1
        have q3 : ∀ s : Later V, s.u.cell? ⟨w.heap.size, 3, none⟩ = some (.int .i64 wi) := fun s => s.fr.cell c3
        by_cases h4 : g ≤ wi
        · have HN : Hid (R = true) := by show R = true; rw [HR.out]; simp [lacksB, h4]
          go_wp2_with fail
          refine wp_region_grown (by kernel_rfl) (by kernel_rfl) ?_
          repeat (go_big_quiet_step (fail))
          refine wpQuiet_nil ?_
          rintro _ ⟨s, rfl⟩
          go_wp2_with fail
          go_ret
          exact ⟨ret_bool HN.out.symm, fV.trans s.fr⟩
        · by_cases h5 : wi = gr
          · have HN : Hid (R = true) := by show R = true; rw [HR.out]; simp [lacksB, h5]
            subst h5
            have hd : decide (g ≤ wi) = false := by simpa using h4
            go_wp2_with fail
            refine wp_region_grown (by kernel_rfl) (by kernel_rfl) ?_
            repeat (go_big_quiet_step (fail))
            refine wpQuiet_nil ?_
            rintro _ ⟨s, rfl⟩
            go_wp2_with fail
            go_ret
            exact ⟨ret_bool HN.out.symm, fV.trans s.fr⟩
          · have HN : Hid (R = false) := by show R = false; rw [HR.out]; simp [lacksB, h1, h4, h5]
            have hd : decide (g ≤ wi) = false := by simpa using h4
            go_wp2_with fail
            refine wp_region_grown (by kernel_rfl) (by kernel_rfl) ?_
            repeat (go_big_quiet_step (fail))
            refine wpQuiet_nil ?_
            rintro _ ⟨s, rfl⟩
            go_wp2_with fail
            go_ret
            exact ⟨ret_bool ((show (wi == gr) = false by simpa using h5).trans HN.out.symm), fV.trans s.fr⟩
      · have HN : Hid (R = false) := by show R = false; rw [HR.out]; simp [lacksB, h1, h2, h3]
        go_wp2_with fail
        go_ret
        exact ⟨ret_bool HN.out.symm, fV⟩
end Go.Proofs.YtikjodbboljhjaaGreatDoor
/-
  codeFor: the program's code of an event on a board.
-/
namespace Go.Proofs.YtikjodbboljhjaaGreatDoor
open Go.RowKit

def codeC (B0 B1 B2 B3 B4 B5 B6 B7 B8 B9 : Bool) : Int := if B0 = false then 1 else if B1 = true then 2 else if B2 = true then 3 else if B3 = true then 4 else if B4 = true then 5 else if B5 = true then 6 else if B6 = true then 7 else if B7 = true then 8 else if B8 = true then 9 else if B9 = true then 10 else 0

set_option maxHeartbeats 2000000 in
theorem codeFor_any (b : Nat) (e : Ev) (w : World) (B0 B1 B2 B3 B4 B5 B6 B7 B8 B9 : Bool)
    (q0 : ∀ u, Fr w u → Calls Tryz.prog 111 #[.agg #[.int .i64 e.k, .int .i64 e.g, .int .i64 e.o, .int .i64 e.w, .int .i64 e.l, .int .i64 e.s, .int .i64 e.f, .int .i64 e.t]] u fun x w' => x = .returned (.bool B0) ∧ Fr u w')
    (q1 : Hid (B0 = true → ∀ u, Fr w u → Calls Tryz.prog 112 #[.pointer (some ⟨b, 0, none⟩), .agg #[.int .i64 e.k, .int .i64 e.g, .int .i64 e.o, .int .i64 e.w, .int .i64 e.l, .int .i64 e.s, .int .i64 e.f, .int .i64 e.t]] u fun x w' => x = .returned (.bool B1) ∧ Fr u w'))
    (q2 : Hid (B0 = true → ∀ u, Fr w u → Calls Tryz.prog 113 #[.pointer (some ⟨b, 0, none⟩), .agg #[.int .i64 e.k, .int .i64 e.g, .int .i64 e.o, .int .i64 e.w, .int .i64 e.l, .int .i64 e.s, .int .i64 e.f, .int .i64 e.t]] u fun x w' => x = .returned (.bool B2) ∧ Fr u w'))
    (q3 : Hid (B0 = true → ∀ u, Fr w u → Calls Tryz.prog 114 #[.pointer (some ⟨b, 0, none⟩), .agg #[.int .i64 e.k, .int .i64 e.g, .int .i64 e.o, .int .i64 e.w, .int .i64 e.l, .int .i64 e.s, .int .i64 e.f, .int .i64 e.t]] u fun x w' => x = .returned (.bool B3) ∧ Fr u w'))
    (q4 : Hid (B0 = true → ∀ u, Fr w u → Calls Tryz.prog 115 #[.pointer (some ⟨b, 0, none⟩), .agg #[.int .i64 e.k, .int .i64 e.g, .int .i64 e.o, .int .i64 e.w, .int .i64 e.l, .int .i64 e.s, .int .i64 e.f, .int .i64 e.t]] u fun x w' => x = .returned (.bool B4) ∧ Fr u w'))
    (q5 : Hid (B0 = true → ∀ u, Fr w u → Calls Tryz.prog 116 #[.pointer (some ⟨b, 0, none⟩), .agg #[.int .i64 e.k, .int .i64 e.g, .int .i64 e.o, .int .i64 e.w, .int .i64 e.l, .int .i64 e.s, .int .i64 e.f, .int .i64 e.t]] u fun x w' => x = .returned (.bool B5) ∧ Fr u w'))
    (q6 : Hid (B0 = true → ∀ u, Fr w u → Calls Tryz.prog 117 #[.pointer (some ⟨b, 0, none⟩), .agg #[.int .i64 e.k, .int .i64 e.g, .int .i64 e.o, .int .i64 e.w, .int .i64 e.l, .int .i64 e.s, .int .i64 e.f, .int .i64 e.t]] u fun x w' => x = .returned (.bool B6) ∧ Fr u w'))
    (q7 : Hid (B0 = true → ∀ u, Fr w u → Calls Tryz.prog 118 #[.pointer (some ⟨b, 0, none⟩), .agg #[.int .i64 e.k, .int .i64 e.g, .int .i64 e.o, .int .i64 e.w, .int .i64 e.l, .int .i64 e.s, .int .i64 e.f, .int .i64 e.t]] u fun x w' => x = .returned (.bool B7) ∧ Fr u w'))
    (q8 : Hid (B0 = true → ∀ u, Fr w u → Calls Tryz.prog 119 #[.pointer (some ⟨b, 0, none⟩), .agg #[.int .i64 e.k, .int .i64 e.g, .int .i64 e.o, .int .i64 e.w, .int .i64 e.l, .int .i64 e.s, .int .i64 e.f, .int .i64 e.t]] u fun x w' => x = .returned (.bool B8) ∧ Fr u w'))
    (q9 : Hid (B0 = true → ∀ u, Fr w u → Calls Tryz.prog 120 #[.pointer (some ⟨b, 0, none⟩), .agg #[.int .i64 e.k, .int .i64 e.g, .int .i64 e.o, .int .i64 e.w, .int .i64 e.l, .int .i64 e.s, .int .i64 e.f, .int .i64 e.t]] u fun x w' => x = .returned (.bool B9) ∧ Fr u w')) :
    Calls Tryz.prog 47 #[.pointer (some ⟨b, 0, none⟩), .agg #[.int .i64 e.k, .int .i64 e.g, .int .i64 e.o, .int .i64 e.w, .int .i64 e.l, .int .i64 e.s, .int .i64 e.f, .int .i64 e.t]] w fun x w' => x = .returned (.int .i64 (codeC B0 B1 B2 B3 B4 B5 B6 B7 B8 B9)) ∧ Fr w w' := by
  have fW := Fr.alloc w (.cells #[.int .i64 e.k, .int .i64 e.g, .int .i64 e.o, .int .i64 e.w, .int .i64 e.l, .int .i64 e.s, .int .i64 e.f, .int .i64 e.t] 31)
  have kE := EvAt.new w e 31
  obtain ⟨k, gr, o, wi, l, sz, f, t⟩ := e
  simp only at fW kE q0 ⊢
  go_enter Tryz.func47, Tryz.ntmps47
  go_wp2_with fail
  obtain ⟨W, hW⟩ : ∃ W, W = w.alloc (.cells #[.int .i64 k, .int .i64 gr, .int .i64 o, .int .i64 wi, .int .i64 l, .int .i64 sz, .int .i64 f, .int .i64 t] 31) := ⟨_, rfl⟩
  rw [← hW] at fW kE ⊢
  clear hW
  have HE : Hid (∀ u, Fr W u → EvAt u w.heap.size ⟨k, gr, o, wi, l, sz, f, t⟩) := fun u f => kE.fr f
  clear kE
  refine (q0 W fW).mono ?_
  rintro x u0 ⟨rfl, f0⟩
  clear q0
  cases B0
  · go_wp2_with fail
    go_ret
    exact ⟨rfl, fW.trans f0⟩
  have g0 := f0
  clear f0
  have r1 := q1.out (by trivial)
  obtain ⟨c0, c1, c2, c3, c4, c5, c6, c7⟩ := HE.out _ g0
  simp only at c0 c1 c2 c3 c4 c5 c6 c7
  go_wp2_with fail
  refine (r1 u0 (fW.trans g0)).mono ?_
  rintro e u1 ⟨rfl, f1⟩
  clear q1 r1 c0 c1 c2 c3 c4 c5 c6 c7
  have g1 := g0.trans f1
  clear f1 g0
  cases B1
  case true =>
    go_wp2_with fail
    go_ret
    exact ⟨rfl, fW.trans g1⟩
  have r2 := q2.out (by trivial)
  obtain ⟨c0, c1, c2, c3, c4, c5, c6, c7⟩ := HE.out _ g1
  simp only at c0 c1 c2 c3 c4 c5 c6 c7
  go_wp2_with fail
  refine (r2 u1 (fW.trans g1)).mono ?_
  rintro e u2 ⟨rfl, f2⟩
  clear q2 r2 c0 c1 c2 c3 c4 c5 c6 c7
  have g2 := g1.trans f2
  clear f2 g1
  cases B2
  case true =>
    go_wp2_with fail
    go_ret
    exact ⟨rfl, fW.trans g2⟩
  have r3 := q3.out (by trivial)
  obtain ⟨c0, c1, c2, c3, c4, c5, c6, c7⟩ := HE.out _ g2
  simp only at c0 c1 c2 c3 c4 c5 c6 c7
  go_wp2_with fail
  refine (r3 u2 (fW.trans g2)).mono ?_
  rintro e u3 ⟨rfl, f3⟩
  clear q3 r3 c0 c1 c2 c3 c4 c5 c6 c7
  have g3 := g2.trans f3
  clear f3 g2
  cases B3
  case true =>
    go_wp2_with fail
    go_ret
    exact ⟨rfl, fW.trans g3⟩
  have r4 := q4.out (by trivial)
  obtain ⟨c0, c1, c2, c3, c4, c5, c6, c7⟩ := HE.out _ g3
  simp only at c0 c1 c2 c3 c4 c5 c6 c7
  go_wp2_with fail
  refine (r4 u3 (fW.trans g3)).mono ?_
  rintro e u4 ⟨rfl, f4⟩
  clear q4 r4 c0 c1 c2 c3 c4 c5 c6 c7
  have g4 := g3.trans f4
  clear f4 g3
  cases B4
  case true =>
    go_wp2_with fail
    go_ret
    exact ⟨rfl, fW.trans g4⟩
  have r5 := q5.out (by trivial)
  obtain ⟨c0, c1, c2, c3, c4, c5, c6, c7⟩ := HE.out _ g4
  simp only at c0 c1 c2 c3 c4 c5 c6 c7
  go_wp2_with fail
  refine (r5 u4 (fW.trans g4)).mono ?_
  rintro e u5 ⟨rfl, f5⟩
  clear q5 r5 c0 c1 c2 c3 c4 c5 c6 c7
  have g5 := g4.trans f5
  clear f5 g4
  cases B5
  case true =>
    go_wp2_with fail
    go_ret
    exact ⟨rfl, fW.trans g5⟩
  have r6 := q6.out (by trivial)
  obtain ⟨c0, c1, c2, c3, c4, c5, c6, c7⟩ := HE.out _ g5
  simp only at c0 c1 c2 c3 c4 c5 c6 c7
  go_wp2_with fail
  refine (r6 u5 (fW.trans g5)).mono ?_
  rintro e u6 ⟨rfl, f6⟩
  clear q6 r6 c0 c1 c2 c3 c4 c5 c6 c7
  have g6 := g5.trans f6
  clear f6 g5
  cases B6
  case true =>
    go_wp2_with fail
    go_ret
    exact ⟨rfl, fW.trans g6⟩
  have r7 := q7.out (by trivial)
  obtain ⟨c0, c1, c2, c3, c4, c5, c6, c7⟩ := HE.out _ g6
  simp only at c0 c1 c2 c3 c4 c5 c6 c7
  go_wp2_with fail
  refine (r7 u6 (fW.trans g6)).mono ?_
  rintro e u7 ⟨rfl, f7⟩
  clear q7 r7 c0 c1 c2 c3 c4 c5 c6 c7
  have g7 := g6.trans f7
  clear f7 g6
  cases B7
  case true =>
    go_wp2_with fail
    go_ret
    exact ⟨rfl, fW.trans g7⟩
  have r8 := q8.out (by trivial)
  obtain ⟨c0, c1, c2, c3, c4, c5, c6, c7⟩ := HE.out _ g7
  simp only at c0 c1 c2 c3 c4 c5 c6 c7
  go_wp2_with fail
  refine (r8 u7 (fW.trans g7)).mono ?_
  rintro e u8 ⟨rfl, f8⟩
  clear q8 r8 c0 c1 c2 c3 c4 c5 c6 c7
  have g8 := g7.trans f8
  clear f8 g7
  cases B8
  case true =>
    go_wp2_with fail
    go_ret
    exact ⟨rfl, fW.trans g8⟩
  have r9 := q9.out (by trivial)
  obtain ⟨c0, c1, c2, c3, c4, c5, c6, c7⟩ := HE.out _ g8
  simp only at c0 c1 c2 c3 c4 c5 c6 c7
  go_wp2_with fail
  refine (r9 u8 (fW.trans g8)).mono ?_
  rintro e u9 ⟨rfl, f9⟩
  clear q9 r9 c0 c1 c2 c3 c4 c5 c6 c7
  have g9 := g8.trans f9
  clear f9 g8
  cases B9
  case true =>
    go_wp2_with fail
    go_ret
    exact ⟨rfl, fW.trans g9⟩
  go_wp2_with fail
  go_ret
  exact ⟨rfl, fW.trans g9⟩
end Go.Proofs.YtikjodbboljhjaaGreatDoor
/-
  The program's questions on a board: channels.
-/
namespace Go.Proofs.YtikjodbboljhjaaGreatDoor
open Go.RowKit

def closedB (c : Ch) (e : Ev) : Bool := if e.k = 7 ∨ e.k = 9 ∨ e.k = 10 then c.cl else if e.k = 11 then !c.cl else false

set_option maxRecDepth 20000 in
set_option maxHeartbeats 1000000 in
theorem isWronglyClosed_any (b b2 : Nat) (c : Ch) (e : Ev) (w : World) (hb : w.cell? ⟨b, 2, none⟩ = some (.map (some b2)))
    (hL : ∀ u, Fr w u → (Instr.lookup 128 (.map (some b2)) (.int .i64 e.o) false).run Tryz.prog u = .ok (.agg #[.int .i64 c.o, .int .i64 c.cap, .int .i64 c.sent, .int .i64 c.got, .bool c.cl]) u) :
    Calls Tryz.prog 116 #[.pointer (some ⟨b, 0, none⟩), .agg #[.int .i64 e.k, .int .i64 e.g, .int .i64 e.o, .int .i64 e.w, .int .i64 e.l, .int .i64 e.s, .int .i64 e.f, .int .i64 e.t]] w fun x w' => x = .returned (.bool (closedB c e)) ∧ Fr w w' := by
  have fW := Fr.alloc w (.cells #[.int .i64 e.k, .int .i64 e.g, .int .i64 e.o, .int .i64 e.w, .int .i64 e.l, .int .i64 e.s, .int .i64 e.f, .int .i64 e.t] 31)
  have kE := EvAt.new w e 31
  have hb := fW.cell hb
  obtain ⟨R, hR⟩ : ∃ R, R = closedB c e := ⟨_, rfl⟩
  rw [← hR]
  have HR : Hid (R = closedB c e) := hR
  clear hR
  obtain ⟨k, gr, o, wi, l, sz, f, t⟩ := e
  obtain ⟨co, cap, sent, got, cl⟩ := c
  simp only at fW kE hb hL ⊢
  go_enter Tryz.func116, Tryz.ntmps116
  go_wp2_with fail
  obtain ⟨W, hW⟩ : ∃ W, W = w.alloc (.cells #[.int .i64 k, .int .i64 gr, .int .i64 o, .int .i64 wi, .int .i64 l, .int .i64 sz, .int .i64 f, .int .i64 t] 31) := ⟨_, rfl⟩
  rw [← hW] at fW kE hb ⊢
  clear hW
  obtain ⟨c0, c1, c2, c3, c4, c5, c6, c7⟩ := kE
  simp only at c0 c2
  clear c1 c3 c4 c5 c6 c7
  have HL : Hid (∀ u, Fr w u → (Instr.lookup 128 (.map (some b2)) (.int .i64 o) false).run Tryz.prog u = .ok (.agg #[.int .i64 co, .int .i64 cap, .int .i64 sent, .int .i64 got, .bool cl]) u) := hL
  clear hL
  have l1 := HL.out _ (fW.trans (Fr.drew W))
  have l2 := HL.out _ ((fW.trans (Fr.alloc W (.cells #[.int .i64 0, .int .i64 0, .int .i64 0, .int .i64 0, .bool false] 82))).trans (Fr.drew _))
  go_region_held3 (fun u => u.cell? ⟨b, 2, none⟩ = some (.map (some b2)) ∧ u.cell? ⟨w.heap.size, 2, none⟩ = some (.int .i64 o)) (go_keep) (fail)
  all_goals (
    clear l1 l2 HL
    obtain ⟨V, hV⟩ : ∃ V, V = (W.alloc (.cells #[.int .i64 co, .int .i64 cap, .int .i64 sent, .int .i64 got, .bool cl] 82)).drew := ⟨_, rfl⟩
    have fA : Fr W V := by rw [hV]; exact (Fr.alloc _ _).trans (Fr.drew _)
    have fV : Fr w V := fW.trans fA
    have x0 := fA.cell c0
    have y1 : V.cell? ⟨W.heap.size, 1, none⟩ = some (.int .i64 cap) := by rw [hV]; simp [go_sem]
    have y2 : V.cell? ⟨W.heap.size, 2, none⟩ = some (.int .i64 sent) := by rw [hV]; simp [go_sem]
    have y3 : V.cell? ⟨W.heap.size, 3, none⟩ = some (.int .i64 got) := by rw [hV]; simp [go_sem]
    have y4 : V.cell? ⟨W.heap.size, 4, none⟩ = some (.bool cl) := by rw [hV]; simp [go_sem]
    rw [← hV]
    clear hV fA c0 c2 hb
    rcases (show k = 7 ∨ k = 9 ∨ k = 10 ∨ k = 11 ∨ (k ≠ 7 ∧ k ≠ 9 ∧ k ≠ 10 ∧ k ≠ 11) by omega) with rfl | rfl | rfl | rfl | hk
    · have HN : Hid (R = cl) := by show R = cl; rw [HR.out]; simp [closedB]
      go_wp2_with fail
      go_ret
      exact ⟨ret_bool HN.out.symm, fV⟩
    · have HN : Hid (R = cl) := by show R = cl; rw [HR.out]; simp [closedB]
      go_wp2_with fail
      go_ret
      exact ⟨ret_bool HN.out.symm, fV⟩
    · have HN : Hid (R = cl) := by show R = cl; rw [HR.out]; simp [closedB]
      go_wp2_with fail
      go_ret
      exact ⟨ret_bool HN.out.symm, fV⟩
    · have HN : Hid (R = !cl) := by show R = !cl; rw [HR.out]; simp [closedB]
      go_wp2_with fail
      go_ret
      exact ⟨ret_bool HN.out.symm, fV⟩
    · obtain ⟨h7, h9, h10, h11⟩ := hk
      have HN : Hid (R = false) := by show R = false; rw [HR.out]; simp [closedB, h7, h9, h10, h11]
      go_wp2_with fail
      go_ret
      exact ⟨ret_bool HN.out.symm, fV⟩)
end Go.Proofs.YtikjodbboljhjaaGreatDoor
/-
  The program's questions on a board: full and empty channels.
-/
namespace Go.Proofs.YtikjodbboljhjaaGreatDoor
open Go.RowKit

def fullB (c : Ch) (e : Ev) : Bool := decide (e.k = 7) && decide (c.sent - c.got = c.cap)
def emptyB (c : Ch) (e : Ev) : Bool := if e.k = 8 then decide (c.sent = c.got) else if e.k = 11 then decide (c.sent ≠ c.got) else false

set_option maxRecDepth 20000 in
set_option maxHeartbeats 1000000 in
theorem isFull_any (b b2 : Nat) (c : Ch) (e : Ev) (w : World) (hb : w.cell? ⟨b, 2, none⟩ = some (.map (some b2)))
    (hs : 0 ≤ c.got ∧ c.got ≤ c.sent ∧ c.sent ≤ 1000000) (hL : ∀ u, Fr w u → (Instr.lookup 128 (.map (some b2)) (.int .i64 e.o) false).run Tryz.prog u = .ok (.agg #[.int .i64 c.o, .int .i64 c.cap, .int .i64 c.sent, .int .i64 c.got, .bool c.cl]) u) :
    Calls Tryz.prog 117 #[.pointer (some ⟨b, 0, none⟩), .agg #[.int .i64 e.k, .int .i64 e.g, .int .i64 e.o, .int .i64 e.w, .int .i64 e.l, .int .i64 e.s, .int .i64 e.f, .int .i64 e.t]] w fun x w' => x = .returned (.bool (fullB c e)) ∧ Fr w w' := by
  have fW := Fr.alloc w (.cells #[.int .i64 e.k, .int .i64 e.g, .int .i64 e.o, .int .i64 e.w, .int .i64 e.l, .int .i64 e.s, .int .i64 e.f, .int .i64 e.t] 31)
  have kE := EvAt.new w e 31
  have hb := fW.cell hb
  obtain ⟨R, hR⟩ : ∃ R, R = fullB c e := ⟨_, rfl⟩
  rw [← hR]
  have HR : Hid (R = fullB c e) := hR
  clear hR
  obtain ⟨k, gr, o, wi, l, sz, f, t⟩ := e
  obtain ⟨co, cap, sent, got, cl⟩ := c
  simp only at fW kE hb hL hs ⊢
  go_enter Tryz.func117, Tryz.ntmps117
  go_wp2_with fail
  obtain ⟨W, hW⟩ : ∃ W, W = w.alloc (.cells #[.int .i64 k, .int .i64 gr, .int .i64 o, .int .i64 wi, .int .i64 l, .int .i64 sz, .int .i64 f, .int .i64 t] 31) := ⟨_, rfl⟩
  rw [← hW] at fW kE hb ⊢
  clear hW
  obtain ⟨c0, c1, c2, c3, c4, c5, c6, c7⟩ := kE
  simp only at c0 c2
  clear c1 c3 c4 c5 c6 c7
  have HL : Hid (∀ u, Fr w u → (Instr.lookup 128 (.map (some b2)) (.int .i64 o) false).run Tryz.prog u = .ok (.agg #[.int .i64 co, .int .i64 cap, .int .i64 sent, .int .i64 got, .bool cl]) u) := hL
  clear hL
  have l1 := HL.out _ (fW.trans (Fr.drew W))
  have l2 := HL.out _ ((fW.trans (Fr.alloc W (.cells #[.int .i64 0, .int .i64 0, .int .i64 0, .int .i64 0, .bool false] 82))).trans (Fr.drew _))
  go_region_held3 (fun u => u.cell? ⟨b, 2, none⟩ = some (.map (some b2)) ∧ u.cell? ⟨w.heap.size, 2, none⟩ = some (.int .i64 o)) (go_keep) (fail)
  all_goals (
    clear l1 l2 HL
    obtain ⟨V, hV⟩ : ∃ V, V = (W.alloc (.cells #[.int .i64 co, .int .i64 cap, .int .i64 sent, .int .i64 got, .bool cl] 82)).drew := ⟨_, rfl⟩
    have fA : Fr W V := by rw [hV]; exact (Fr.alloc _ _).trans (Fr.drew _)
    have fV : Fr w V := fW.trans fA
    have x0 := fA.cell c0
    have y1 : V.cell? ⟨W.heap.size, 1, none⟩ = some (.int .i64 cap) := by rw [hV]; simp [go_sem]
    have y2 : V.cell? ⟨W.heap.size, 2, none⟩ = some (.int .i64 sent) := by rw [hV]; simp [go_sem]
    have y3 : V.cell? ⟨W.heap.size, 3, none⟩ = some (.int .i64 got) := by rw [hV]; simp [go_sem]
    have y4 : V.cell? ⟨W.heap.size, 4, none⟩ = some (.bool cl) := by rw [hV]; simp [go_sem]
    rw [← hV]
    clear hV fA c0 c2 hb
    obtain ⟨s1, s2, s3⟩ := hs
    by_cases hk : k = 7
    · subst hk
      by_cases h2 : sent - got = cap
      · have HN : Hid (R = true) := by show R = true; rw [HR.out]; simp [fullB, h2]
        subst h2
        go_wp2_with fail
        go_ret
        exact ⟨ret_bool HN.out.symm, fV⟩
      · have HN : Hid (R = false) := by show R = false; rw [HR.out]; simp [fullB, h2]
        go_wp2_with fail
        go_ret
        first | exact ⟨ret_bool HN.out.symm, fV⟩ | exact ⟨ret_bool ((show (sent - got == cap) = false by simpa using h2).trans HN.out.symm), fV⟩
    · have HN : Hid (R = false) := by show R = false; rw [HR.out]; simp [fullB, hk]
      go_wp2_with fail
      go_ret
      exact ⟨ret_bool HN.out.symm, fV⟩)

set_option maxRecDepth 20000 in
set_option maxHeartbeats 1000000 in
theorem isWronglyEmpty_any (b b2 : Nat) (c : Ch) (e : Ev) (w : World) (hb : w.cell? ⟨b, 2, none⟩ = some (.map (some b2)))
    (hL : ∀ u, Fr w u → (Instr.lookup 128 (.map (some b2)) (.int .i64 e.o) false).run Tryz.prog u = .ok (.agg #[.int .i64 c.o, .int .i64 c.cap, .int .i64 c.sent, .int .i64 c.got, .bool c.cl]) u) :
    Calls Tryz.prog 118 #[.pointer (some ⟨b, 0, none⟩), .agg #[.int .i64 e.k, .int .i64 e.g, .int .i64 e.o, .int .i64 e.w, .int .i64 e.l, .int .i64 e.s, .int .i64 e.f, .int .i64 e.t]] w fun x w' => x = .returned (.bool (emptyB c e)) ∧ Fr w w' := by
  have fW := Fr.alloc w (.cells #[.int .i64 e.k, .int .i64 e.g, .int .i64 e.o, .int .i64 e.w, .int .i64 e.l, .int .i64 e.s, .int .i64 e.f, .int .i64 e.t] 31)
  have kE := EvAt.new w e 31
  have hb := fW.cell hb
  obtain ⟨R, hR⟩ : ∃ R, R = emptyB c e := ⟨_, rfl⟩
  rw [← hR]
  have HR : Hid (R = emptyB c e) := hR
  clear hR
  obtain ⟨k, gr, o, wi, l, sz, f, t⟩ := e
  obtain ⟨co, cap, sent, got, cl⟩ := c
  simp only at fW kE hb hL ⊢
  go_enter Tryz.func118, Tryz.ntmps118
  go_wp2_with fail
  obtain ⟨W, hW⟩ : ∃ W, W = w.alloc (.cells #[.int .i64 k, .int .i64 gr, .int .i64 o, .int .i64 wi, .int .i64 l, .int .i64 sz, .int .i64 f, .int .i64 t] 31) := ⟨_, rfl⟩
  rw [← hW] at fW kE hb ⊢
  clear hW
  obtain ⟨c0, c1, c2, c3, c4, c5, c6, c7⟩ := kE
  simp only at c0 c2
  clear c1 c3 c4 c5 c6 c7
  have HL : Hid (∀ u, Fr w u → (Instr.lookup 128 (.map (some b2)) (.int .i64 o) false).run Tryz.prog u = .ok (.agg #[.int .i64 co, .int .i64 cap, .int .i64 sent, .int .i64 got, .bool cl]) u) := hL
  clear hL
  have l1 := HL.out _ (fW.trans (Fr.drew W))
  have l2 := HL.out _ ((fW.trans (Fr.alloc W (.cells #[.int .i64 0, .int .i64 0, .int .i64 0, .int .i64 0, .bool false] 82))).trans (Fr.drew _))
  go_region_held3 (fun u => u.cell? ⟨b, 2, none⟩ = some (.map (some b2)) ∧ u.cell? ⟨w.heap.size, 2, none⟩ = some (.int .i64 o)) (go_keep) (fail)
  all_goals (
    clear l1 l2 HL
    obtain ⟨V, hV⟩ : ∃ V, V = (W.alloc (.cells #[.int .i64 co, .int .i64 cap, .int .i64 sent, .int .i64 got, .bool cl] 82)).drew := ⟨_, rfl⟩
    have fA : Fr W V := by rw [hV]; exact (Fr.alloc _ _).trans (Fr.drew _)
    have fV : Fr w V := fW.trans fA
    have x0 := fA.cell c0
    have y1 : V.cell? ⟨W.heap.size, 1, none⟩ = some (.int .i64 cap) := by rw [hV]; simp [go_sem]
    have y2 : V.cell? ⟨W.heap.size, 2, none⟩ = some (.int .i64 sent) := by rw [hV]; simp [go_sem]
    have y3 : V.cell? ⟨W.heap.size, 3, none⟩ = some (.int .i64 got) := by rw [hV]; simp [go_sem]
    have y4 : V.cell? ⟨W.heap.size, 4, none⟩ = some (.bool cl) := by rw [hV]; simp [go_sem]
    rw [← hV]
    clear hV fA c0 c2 hb
    rcases (show k = 8 ∨ k = 11 ∨ (k ≠ 8 ∧ k ≠ 11) by omega) with rfl | rfl | hk
    · by_cases h2 : sent = got
      · have HN : Hid (R = true) := by show R = true; rw [HR.out]; simp [emptyB, h2]
        subst h2
        go_wp2_with fail
        go_ret
        exact ⟨ret_bool HN.out.symm, fV⟩
      · have HN : Hid (R = false) := by show R = false; rw [HR.out]; simp [emptyB, h2]
        go_wp2_with fail
        go_ret
        first | exact ⟨ret_bool HN.out.symm, fV⟩ | exact ⟨ret_bool ((show (sent == got) = false by simpa using h2).trans HN.out.symm), fV⟩
    · by_cases h2 : sent = got
      · have HN : Hid (R = false) := by show R = false; rw [HR.out]; simp [emptyB, h2]
        subst h2
        go_wp2_with fail
        go_ret
        exact ⟨ret_bool HN.out.symm, fV⟩
      · have HN : Hid (R = true) := by show R = true; rw [HR.out]; simp [emptyB, h2]
        go_wp2_with fail
        go_ret
        first | exact ⟨ret_bool HN.out.symm, fV⟩ | exact ⟨ret_bool ((show (sent != got) = true by simpa using h2).trans HN.out.symm), fV⟩
    · obtain ⟨h8, h11⟩ := hk
      have HN : Hid (R = false) := by show R = false; rw [HR.out]; simp [emptyB, h8, h11]
      go_wp2_with fail
      go_ret
      exact ⟨ret_bool HN.out.symm, fV⟩)
end Go.Proofs.YtikjodbboljhjaaGreatDoor
