/-
  The program's ten questions make the specification's code.
-/
import Derived.Test.YtikjodbboljhjaaGreatDoorScBm
import Derived.Test.YtikjodbboljhjaaGreatDoorScFor
import Derived.Test.YtikjodbboljhjaaGreatDoorEvOk
import Derived.Test.YtikjodbboljhjaaGreatDoorScAsk2
import Derived.Test.YtikjodbboljhjaaGreatDoorScAsk3
import Derived.Test.YtikjodbboljhjaaGreatDoorScAsk4
import Derived.Test.YtikjodbboljhjaaGreatDoorScAsk5
import Derived.Test.YtikjodbboljhjaaGreatDoorScAsk6
namespace Go.Proofs.YtikjodbboljhjaaGreatDoor
open Go.RowKit

/-- A right lock is had by a writer, or by readers alone. -/
theorem lock_in {m : Scn} (h : scB m = true) (o : Int) : (hasL m o = false ∧ lockOf m.ls o = ⟨o, -1, []⟩ ∧ lockZ m o = ⟨0, 0, []⟩) ∨ (hasL m o = true ∧ lockOf m.ls o = lockZ m o ∧ ((0 ≤ (lockZ m o).wr ∧ (lockZ m o).rd = []) ∨ ((lockZ m o).wr = -1 ∧ 0 < (lockZ m o).rd.length))) := by
  have h1 := (scB_parts h).2.1
  unfold hasL lockOf lockZ
  cases hf : m.ls.find? fun l => l.o == o with
  | none => exact .inl ⟨rfl, rfl, rfl⟩
  | some l =>
    refine .inr ⟨rfl, rfl, ?_⟩
    have hq := rowB_all h1 l (List.mem_of_find?_eq_some hf)
    unfold lkB at hq
    simp only [Bool.and_eq_true] at hq
    obtain ⟨-, -, h2, h3⟩ := hq
    have h2 := inB_true h2
    simp only [Option.getD_some]
    by_cases h4 : 0 ≤ l.wr
    · refine .inl ⟨h4, ?_⟩
      by_cases h5 : 0 < l.rd.length
      · simp [h4, h5] at h3
      · exact List.eq_nil_of_length_eq_zero (by omega)
    · refine .inr ⟨by omega, ?_⟩
      by_cases h5 : 0 < l.rd.length
      · exact h5
      · simp [h4, h5] at h3
theorem chan_z (m : Scn) (o : Int) : (isChan m.cs o = false ∧ chanOf m.cs o = ⟨o, 0, 0, 0, false⟩ ∧ chanZ m o = ⟨0, 0, 0, 0, false⟩) ∨ (isChan m.cs o = true ∧ chanOf m.cs o = chanZ m o) := by
  unfold isChan chanOf chanZ
  cases m.cs.find? fun l => l.o == o with
  | none => exact .inl ⟨rfl, rfl, rfl⟩
  | some l => exact .inr ⟨rfl, rfl⟩
theorem count_z {m : Scn} (h : scB m = true) (o : Int) : countOf m.gs o = (countZ m o).n ∧ (hasN m o = false ∧ (countZ m o).n = 0 ∨ hasN m o = true ∧ 1 ≤ (countZ m o).n) := by
  have h3 := (scB_parts h).2.2.2.1
  unfold countOf countZ hasN
  cases hf : m.gs.find? fun l => l.o == o with
  | none => exact ⟨rfl, .inl ⟨rfl, rfl⟩⟩
  | some c =>
    have := (ctB_in (rowB_all h3 c (List.mem_of_find?_eq_some hf))).2
    exact ⟨rfl, .inr ⟨rfl, this.1⟩⟩
theorem once_z (m : Scn) (o : Int) : memB m.os o = hasO m o := by
  unfold memB hasO
  induction m.os with
  | nil => rfl
  | cons x xs ih =>
    rw [List.any_cons, List.find?_cons, ih]
    cases x == o <;> rfl
theorem chanZ_in {m : Scn} (h : scB m = true) (o : Int) : 0 ≤ (chanZ m o).got ∧ (chanZ m o).got ≤ (chanZ m o).sent ∧ (chanZ m o).sent ≤ 1000000 := by
  have := chan_in h o
  rcases chan_z m o with ⟨-, -, h2⟩ | ⟨-, h2⟩
  · rw [h2]; simp
  · rw [← h2]; omega
theorem evOk_s {e : Ev} (h : evOk e = true) : 0 ≤ e.s ∧ e.s ≤ 1000000000 := by
  unfold evOk at h
  simp only [Bool.and_eq_true] at h
  have h4 := h.1.1.2
  unfold ev4 fitB at h4
  split at h4
  · have h5 := inB_true h4
    have h6 : 0 ≤ loV e.k := by unfold loV; split <;> omega
    have h7 : hiV e.k ≤ 64 := by unfold hiV; split <;> (try split) <;> (try split) <;> (try split) <;> omega
    omega
  · have h5 : e.s = 0 := by simpa using h4
    omega

set_option maxHeartbeats 4000000 in
theorem code_same {m : Scn} (hm : scB m = true) (e : Ev) :
    codeC (evOk e) (lacksB m.g e) (heldB (hasL m e.o) (lockZ m e.o).wr (lockZ m e.o).rd e) (notHadB (hasL m e.o) (lockZ m e.o).wr (lockZ m e.o).rd e) (wchanB (isChan m.cs e.o) (chanZ m e.o) e) (closedB (chanZ m e.o) e) (fullB (chanZ m e.o) e) (emptyB (chanZ m e.o) e) (countB (hasN m e.o) (countZ m e.o).n (chanZ m e.o).sent e) (onceB (hasO m e.o) e) = codeIn m e := by
  unfold codeIn
  cases hE : evOk e
  · simp [codeC]
  obtain ⟨⟨k1, k2⟩, g1, g2⟩ := evOk_k hE
  by_cases hG : gorBad m e
  · have h1 : lacksB m.g e = true := by
      unfold gorBad at hG
      simp only [lacksB, Bool.or_eq_true, Bool.and_eq_true, decide_eq_true_eq]
      rcases hG with h | h | h
      · exact .inl (.inl h)
      · exact .inl (.inr h)
      · exact .inr h
    simp [codeC, h1, hG, hm]
  have h1 : lacksB m.g e = false := by
    unfold gorBad at hG
    cases hb : lacksB m.g e with
    | false => rfl
    | true =>
      simp only [lacksB, Bool.or_eq_true, Bool.and_eq_true, decide_eq_true_eq] at hb
      exact absurd (by rcases hb with (h | h) | h; exact .inl h; exact .inr (.inl h); exact .inr (.inr h)) hG
  rw [if_neg (by simp [hm]), if_neg hG]
  obtain ⟨hc0, hc1⟩ := count_z hm e.o
  have ho := once_z m e.o
  have hl := lock_in hm e.o
  have hc := chan_z m e.o
  unfold codeC
  rw [h1]
  simp only [Bool.true_eq_false, if_false, Bool.false_eq_true]
  unfold restCode lockCode chanCode heldB notHadB wchanB closedB fullB emptyB countB onceB
  rw [hc0, ho]
  clear hG h1 hE hc0 ho hm
  obtain ⟨L, hL⟩ : ∃ L, L = lockZ m e.o := ⟨_, rfl⟩
  obtain ⟨C, hC⟩ : ∃ L, L = chanZ m e.o := ⟨_, rfl⟩
  obtain ⟨N, hN⟩ : ∃ L, L = (countZ m e.o).n := ⟨_, rfl⟩
  obtain ⟨L1, hL1⟩ : ∃ L, L = lockOf m.ls e.o := ⟨_, rfl⟩
  obtain ⟨C1, hC1⟩ : ∃ L, L = chanOf m.cs e.o := ⟨_, rfl⟩
  rw [← hL, ← hL1] at hl
  rw [← hC, ← hC1] at hc
  rw [← hN] at hc1
  simp only [← hL, ← hC, ← hN, ← hL1, ← hC1]
  clear hL hC hN hL1 hC1
  obtain ⟨k, gr, o, wi, l, sz, f, t⟩ := e
  simp only at *
  have hk : k = 1 ∨ k = 2 ∨ k = 3 ∨ k = 4 ∨ k = 5 ∨ k = 6 ∨ k = 7 ∨ k = 8 ∨ k = 9 ∨ k = 10 ∨ k = 11 ∨ k = 12 ∨ k = 13 ∨ k = 14 ∨ k = 15 ∨ k = 16 ∨ (17 ≤ k ∧ k ≤ 22) := by omega
  rcases hk with rfl | rfl | rfl | rfl | rfl | rfl | rfl | rfl | rfl | rfl | rfl | rfl | rfl | rfl | rfl | rfl | hk
  · simp
  · rcases hl with ⟨h1, h2, h3⟩ | ⟨h1, h2, h3⟩
    · simp [h1, h2]
    · subst h2
      rcases h3 with ⟨h3, h4⟩ | ⟨h3, h4⟩ <;> simp [h1, h3, h4]
  · rcases hl with ⟨h1, h2, h3⟩ | ⟨h1, h2, h3⟩
    · have : ¬ (-1 = gr) := by omega
      simp [h1, h2, this]
    · subst h2
      by_cases h5 : L1.wr = gr <;> simp [h1, h5]
  · rcases hl with ⟨h1, h2, h3⟩ | ⟨h1, h2, h3⟩
    · simp [h1, h2, memB]
    · subst h2
      rcases h3 with ⟨h3, h4⟩ | ⟨h3, h4⟩
      · have : ¬ (L1.wr = -1) := by omega
        simp [h1, h3, this]
      · have : ¬ (0 ≤ (-1 : Int)) := by omega
        simp [h1, h3]
  · rcases hl with ⟨h1, h2, h3⟩ | ⟨h1, h2, h3⟩
    · subst h2; subst h3; simp [memB]
    · subst h2
      cases memB L1.rd gr <;> simp
  · cases isChan m.cs o <;> simp
  · rcases hc with ⟨h1, h2, h3⟩ | ⟨h1, h2⟩
    · simp [h1]
    · subst h2
      by_cases q1 : C1.cap = 0 <;> cases q2 : C1.cl <;> by_cases q3 : C1.sent - C1.got = C1.cap <;> by_cases q4 : C1.sent = 1000000 <;> simp [h1, q1, q3, q4]
  · rcases hc with ⟨h1, h2, h3⟩ | ⟨h1, h2⟩
    · simp [h1]
    · subst h2
      by_cases q1 : C1.cap = 0 <;> by_cases q3 : C1.sent = C1.got <;> simp [h1, q1, q3]
  · rcases hc with ⟨h1, h2, h3⟩ | ⟨h1, h2⟩
    · simp [h1]
    · subst h2
      by_cases q1 : C1.cap = 0 <;> cases q2 : C1.cl <;> simp [h1, q1]
  · rcases hc with ⟨h1, h2, h3⟩ | ⟨h1, h2⟩
    · simp [h1]
    · subst h2
      cases q2 : C1.cl <;> simp [h1]
  · rcases hc with ⟨h1, h2, h3⟩ | ⟨h1, h2⟩
    · simp [h1]
    · subst h2
      cases q2 : C1.cl <;> by_cases q3 : C1.sent = C1.got <;> simp [h1, q3]
  · simp
  · rcases hc1 with ⟨h1, h2⟩ | ⟨h1, h2⟩
    · simp [h1, h2]
    · have : ¬ N = 0 := by omega
      simp [h1, this]
  · rcases hc1 with ⟨h1, h2⟩ | ⟨h1, h2⟩
    · simp [h1, h2]
    · have : ¬ N = 0 := by omega
      simp [h1, this]
  · cases hasO m o <;> simp
  · cases hasO m o <;> simp
  · have a1 : ¬ k = 2 := by omega
    have a2 : ¬ k = 3 := by omega
    have a3 : ¬ k = 4 := by omega
    have a4 : ¬ k = 5 := by omega
    have a5 : ¬ k = 6 := by omega
    have a6 : ¬ k = 7 := by omega
    have a7 : ¬ k = 8 := by omega
    have a8 : ¬ k = 9 := by omega
    have a9 : ¬ k = 10 := by omega
    have b1 : ¬ k = 11 := by omega
    have b2 : ¬ k = 12 := by omega
    have b3 : ¬ k = 13 := by omega
    have b4 : ¬ k = 14 := by omega
    have b5 : ¬ k = 15 := by omega
    have b6 : ¬ k = 16 := by omega
    have b7 : ¬ (2 ≤ k ∧ k ≤ 5) := by omega
    have b8 : ¬ (6 ≤ k ∧ k ≤ 11) := by omega
    simp only [a1, a2, a3, a4, a5, a6, a7, a8, a9, b1, b2, b3, b4, b5, b6, b7, b8, or_self, if_false, decide_false, Bool.false_and, Bool.false_eq_true]

/-- The code of an event on a board that is a right scene. -/
theorem codeM_any {B : Nat → Prop} {b b1 b2 b3 b4 n : Nat} {m : Scn} (e : Ev) (w : World) (h : BoardM B w b b1 b2 b3 b4 n m) (hm : scB m = true) (hs : Shapes w) (ho : I64 e.o) :
    Calls Tryz.prog 47 #[.pointer (some ⟨b, 0, none⟩), .agg #[.int .i64 e.k, .int .i64 e.g, .int .i64 e.o, .int .i64 e.w, .int .i64 e.l, .int .i64 e.s, .int .i64 e.f, .int .i64 e.t]] w fun x w' => x = .returned (.int .i64 (codeIn m e)) ∧ Fr w w' := by
  rw [← code_same hm e]
  obtain ⟨lo, ro, rn, rc, l1, l2, l3, -, l4, -⟩ := h.lookL ho
  obtain ⟨z, z1⟩ := h.lookO ho
  have hc := chanZ_in hm e.o
  have hn := count_in hm e.o
  rw [(count_z hm e.o).1] at hn
  exact codeFor_any b e w _ _ _ _ _ _ _ _ _ _ (fun u f => implOk_any e u (hs.fr f))
    (fun _ u f => lacksGor_any b m.g e u (f.cell h.c0))
    (fun _ u f => isHeld_any b b1 _ lo _ ro rn rc _ e u (f.cell h.c1) l1 (by omega) (l3.fr f) (fun v g => l4 v (f.trans g)))
    (fun _ u f => isNotHad_any b b1 _ lo _ ro rn rc _ e u (f.cell h.c1) l1 (by omega) (l3.fr f) (fun v g => l4 v (f.trans g)))
    (fun _ u f => isWrongChan_any b b2 _ _ e u (f.cell h.c2) (fun v g => h.lookC2 ho v (f.trans g)))
    (fun _ u f => isWronglyClosed_any b b2 _ e u (f.cell h.c2) (fun v g => h.lookC ho v (f.trans g)))
    (fun _ u f => isFull_any b b2 _ e u (f.cell h.c2) hc (fun v g => h.lookC ho v (f.trans g)))
    (fun _ u f => isWronglyEmpty_any b b2 _ e u (f.cell h.c2) (fun v g => h.lookC ho v (f.trans g)))
    (fun hE u f => isMiscounted_any b b2 b3 _ _ _ _ e u (f.cell h.c3) (f.cell h.c2) hn (evOk_s hE) (fun v g => h.lookN2 ho v (f.trans g)) (fun v g => h.lookC ho v (f.trans g)))
    (fun _ u f => isWrongOnce_any b b4 _ z e u (f.cell h.c4) (fun v g => z1 v (f.trans g)))
end Go.Proofs.YtikjodbboljhjaaGreatDoor
