/-
  What can be done leaves a right scene.
-/
import Derived.Test.YtikjodbboljhjaaGreatDoorScRight
namespace Go.Proofs.YtikjodbboljhjaaGreatDoor
open Go.RowKit

theorem evOk_o {e : Ev} (h : evOk e = true) : 0 ≤ e.o ∧ e.o ≤ 15 := by
  unfold evOk at h
  simp only [Bool.and_eq_true] at h
  have h1 := h.1.1.1.1.1.2
  unfold ev1 fitB at h1
  split at h1
  · exact inB_true h1
  · have : e.o = 0 := by simpa using h1
    omega
theorem evOk_make {e : Ev} (h : evOk e = true) (hk : e.k = 6) : 0 ≤ e.s ∧ e.s ≤ 8 := by
  unfold evOk at h
  simp only [Bool.and_eq_true] at h
  have h4 := h.1.1.2
  unfold ev4 at h4
  rw [hk] at h4
  have : hasB 6 8 = true := by decide
  rw [this] at h4
  exact inB_true h4
theorem lkB_iff (g : Int) (l : Lk) : lkB g l = true ↔ ((∀ x ∈ l.rd, 0 ≤ x ∧ x ≤ g - 1) ∧ l.rd.Pairwise (· < ·)) ∧ (0 ≤ l.o ∧ l.o ≤ 15) ∧ (-1 ≤ l.wr ∧ l.wr ≤ g - 1) ∧ ((0 ≤ l.wr ∧ l.rd = []) ∨ (l.wr < 0 ∧ l.rd ≠ [])) := by
  unfold lkB
  rw [Bool.and_eq_true, Bool.and_eq_true, Bool.and_eq_true, rdB_iff]
  have e : (!(decide (0 ≤ l.wr) == decide (0 < l.rd.length))) = true ↔ ((0 ≤ l.wr ∧ l.rd = []) ∨ (l.wr < 0 ∧ l.rd ≠ [])) := by
    have e1 : 0 < l.rd.length ↔ l.rd ≠ [] := List.length_pos_iff
    by_cases h1 : 0 ≤ l.wr <;> by_cases h2 : l.rd = []
    · simp [h1, h2]
    · have := e1.2 h2
      simp [h1, h2, this]
    · simp [h1, h2]
    · have := e1.2 h2
      simp [h1, h2, this]; omega
  rw [e]
  constructor
  · rintro ⟨h1, h2, h3, h4⟩; exact ⟨h1, inB_true h2, inB_true h3, h4⟩
  · rintro ⟨h1, h2, h3, h4⟩; exact ⟨h1, inB_mk h2.1 h2.2, inB_mk h3.1 h3.2, h4⟩
theorem scB_iff (m : Scn) : scB m = true ↔ (1 ≤ m.g ∧ m.g ≤ 16) ∧ ((∀ x ∈ m.ls, lkB m.g x = true) ∧ (m.ls.map Lk.o).Pairwise (· < ·)) ∧ ((∀ x ∈ m.cs, chB x = true) ∧ (m.cs.map Ch.o).Pairwise (· < ·)) ∧ ((∀ x ∈ m.gs, ctB x = true) ∧ (m.gs.map Ct.o).Pairwise (· < ·)) ∧ ((∀ x ∈ m.os, 0 ≤ x ∧ x ≤ 15) ∧ m.os.Pairwise (· < ·)) := by
  unfold scB
  rw [Bool.and_eq_true, Bool.and_eq_true, Bool.and_eq_true, Bool.and_eq_true, rowB_iff, rowB_iff, rowB_iff, rowB_iff]
  have e : m.os.map (fun x => x) = m.os := by simp
  rw [e]
  constructor
  · rintro ⟨h1, h2, h3, h4, h5, h6⟩; exact ⟨inB_true h1, h2, h3, h4, fun x hx => inB_true (h5 x hx), h6⟩
  · rintro ⟨h1, h2, h3, h4, h5, h6⟩; exact ⟨inB_mk h1.1 h1.2, h2, h3, h4, fun x hx => inB_mk (h5 x hx).1 (h5 x hx).2, h6⟩
/-- The lock of an object: right, or nobody has it. -/
theorem lock_all {m : Scn} (h : scB m = true) (o : Int) : (lockOf m.ls o).o = o ∧ (lockOf m.ls o = ⟨o, -1, []⟩ ∨ lkB m.g (lockOf m.ls o) = true) := by
  have h1 := ((scB_iff m).1 h).2.1.1
  unfold lockOf
  cases hf : m.ls.find? fun l => l.o == o with
  | none => exact ⟨rfl, .inl rfl⟩
  | some l => exact ⟨by simpa using List.find?_some hf, .inr (h1 l (List.mem_of_find?_eq_some hf))⟩
theorem chan_o (cs : List Ch) (o : Int) : (chanOf cs o).o = o := by
  unfold chanOf
  cases hf : cs.find? fun l => l.o == o with
  | none => rfl
  | some l => simpa using List.find?_some hf

theorem set_lk {m : Scn} (h : scB m = true) (l : Lk) (hl : lkFree l = false → lkB m.g l = true) : scB (setLk m l) = true := by
  obtain ⟨h1, ⟨h2, h3⟩, h4⟩ := (scB_iff m).1 h
  refine (scB_iff _).2 ⟨h1, ⟨fun x hx => ?_, rise_setL Lk.o l _ _ h3⟩, h4⟩
  rcases mem_setL Lk.o l _ _ h3 x hx with q | ⟨q1, q2⟩
  · exact h2 x q
  · rw [q2]; exact hl q1
theorem set_ch {m : Scn} (h : scB m = true) (c : Ch) (hc : chB c = true) : scB (setCh m c) = true := by
  obtain ⟨h1, h2, ⟨h3, h4⟩, h5⟩ := (scB_iff m).1 h
  refine (scB_iff _).2 ⟨h1, h2, ⟨fun x hx => ?_, rise_setL Ch.o c _ _ h4⟩, h5⟩
  rcases mem_setL Ch.o c _ _ h4 x hx with q | ⟨q1, q2⟩
  · exact h3 x q
  · rw [q2]; exact hc
theorem set_ct {m : Scn} (h : scB m = true) (o n : Int) (hc : n ≠ 0 → ctB ⟨o, n⟩ = true) : scB (setCt m o n) = true := by
  obtain ⟨h1, h2, h3, ⟨h4, h5⟩, h6⟩ := (scB_iff m).1 h
  refine (scB_iff _).2 ⟨h1, h2, h3, ⟨fun x hx => ?_, rise_setL Ct.o ⟨o, n⟩ _ _ h5⟩, h6⟩
  rcases mem_setL Ct.o ⟨o, n⟩ _ _ h5 x hx with q | ⟨q1, q2⟩
  · exact h4 x q
  · rw [q2]; exact hc (by simpa using q1)
theorem chB_mk {c : Ch} (h1 : 0 ≤ c.o ∧ c.o ≤ 15) (h2 : 0 ≤ c.cap ∧ c.cap ≤ 8) (h3 : 0 ≤ c.sent ∧ c.sent ≤ 1000000) (h4 : 0 ≤ c.got ∧ c.got ≤ c.sent) (h5 : c.sent ≤ c.got + c.cap) : chB c = true := by
  unfold chB
  simp only [Bool.and_eq_true, decide_eq_true_eq]
  exact ⟨inB_mk h1.1 h1.2, inB_mk h2.1 h2.2, inB_mk h3.1 h3.2, inB_mk h4.1 h4.2, h5⟩
theorem memB_iff (xs : List Int) (x : Int) : memB xs x = true ↔ x ∈ xs := by
  unfold memB
  rw [List.any_eq_true]
  constructor
  · rintro ⟨y, hy, e⟩
    have : y = x := by simpa using e
    rwa [← this]
  · intro h
    exact ⟨x, h, by simp⟩

/-- The parts of 'it can be done'. -/
theorem code_parts {m : Scn} {e : Ev} (h : codeIn m e = 0) : evOk e = true ∧ scB m = true ∧ ¬ gorBad m e ∧ restCode m e = 0 := by
  unfold codeIn at h
  split at h
  · cases h
  · rename_i h1
    split at h
    · cases h
    · rename_i h2
      refine ⟨?_, ?_, h2, h⟩
      · cases q : evOk e
        · exact absurd (.inl q) h1
        · rfl
      · cases q : scB m
        · exact absurd (.inr q) h1
        · rfl

set_option maxHeartbeats 1000000 in
theorem do_ok {m : Scn} {e : Ev} (h : codeIn m e = 0) : scB (doS m e) = true := by
  obtain ⟨hE, hm, hG, hR⟩ := code_parts h
  obtain ⟨⟨k1, k2⟩, g1, g2⟩ := evOk_k hE
  obtain ⟨o1, o2⟩ := evOk_o hE
  have hg : e.g < m.g := by
    unfold gorBad at hG
    omega
  have HS := (scB_iff m).1 hm
  unfold doS
  split
  · rename_i hk
    have ho : e.o = m.g := by
      unfold gorBad at hG
      omega
    obtain ⟨h1, ⟨h2, h3⟩, h4⟩ := HS
    refine (scB_iff _).2 ⟨by simp only; omega, ⟨fun x hx => ?_, h3⟩, h4⟩
    obtain ⟨⟨q1, q2⟩, q3, q4, q5⟩ := (lkB_iff _ _).1 (h2 x hx)
    exact (lkB_iff _ _).2 ⟨⟨fun y hy => by have := q1 y hy; simp only; omega, q2⟩, q3, by simp only; omega, q5⟩
  split
  · rename_i hk0 hk
    refine set_lk hm _ fun hf => ?_
    obtain ⟨lo, ll⟩ := lock_all hm e.o
    obtain ⟨L, hL⟩ : ∃ L, L = lockOf m.ls e.o := ⟨_, rfl⟩
    unfold restCode at hR
    rw [if_pos hk] at hR
    unfold lockCode at hR
    unfold lockTo at hf ⊢
    rw [← hL] at lo ll hR hf ⊢
    by_cases k2 : e.k = 2
    · rw [if_pos k2] at hR hf ⊢
      split at hR
      · cases hR
      · rename_i hq
        have hw : ¬ 0 ≤ L.wr := fun q => hq (.inl q)
        have hd : L.rd = [] := List.eq_nil_of_length_eq_zero (by have : ¬ 0 < L.rd.length := fun q => hq (.inr q); omega)
        exact (lkB_iff _ _).2 ⟨⟨by simp [hd], by simp [hd]⟩, by simp only; omega, by simp only; omega, .inl ⟨g1, hd⟩⟩
    rw [if_neg k2] at hR hf ⊢
    by_cases k4 : e.k = 4
    · have k3 : ¬ e.k = 3 := by omega
      rw [if_pos k4] at hR
      rw [if_neg k3, if_pos k4] at hf ⊢
      split at hR
      · cases hR
      · rename_i hq
        have hw : ¬ 0 ≤ L.wr := fun q => hq (.inl q)
        have hd : memB L.rd e.g = false := by
          cases q : memB L.rd e.g
          · rfl
          · exact absurd (.inr q) hq
        have hp : (∀ x ∈ L.rd, 0 ≤ x ∧ x ≤ m.g - 1) ∧ L.rd.Pairwise (· < ·) ∧ -1 ≤ L.wr := by
          rcases ll with q | q
          · rw [q]; simp
          · obtain ⟨q1, q2, q3, q4⟩ := (lkB_iff _ _).1 q
            exact ⟨q1.1, q1.2, q3.1⟩
        refine (lkB_iff _ _).2 ⟨⟨fun x hx => ?_, rise_withL _ _ hp.2.1 hd⟩, by simp only; omega, by simp only; omega, .inr ⟨by simp only; omega, fun q => ?_⟩⟩
        · rcases (mem_withL _ _ hp.2.1 x).1 hx with q | q
          · exact hp.1 x q
          · omega
        · have := (mem_withL _ _ hp.2.1 e.g).2 (.inr rfl)
          simp only at q
          rw [q] at this
          simp at this
    rw [if_neg k4] at hR
    by_cases k3 : e.k = 3
    · rw [if_pos k3] at hR hf ⊢
      split at hR
      · rename_i hq
        have hd : L.rd = [] := by
          rcases ll with q | q
          · rw [q]
          · obtain ⟨q1, q2, q3, q4⟩ := (lkB_iff _ _).1 q
            rcases q4 with q4 | q4
            · exact q4.2
            · omega
        simp [lkFree, hd] at hf
      · cases hR
    have k5 : e.k = 5 := by omega
    rw [if_neg k3, if_pos k5] at hR
    rw [if_neg k3, if_neg k4] at hf ⊢
    split at hR
    · rename_i hq
      have hin := (memB_iff _ _).1 hq
      rcases ll with q | q
      · rw [q] at hin; simp at hin
      · obtain ⟨q1, q2, q3, q4⟩ := (lkB_iff _ _).1 q
        have hw : L.wr < 0 := by
          rcases q4 with q4 | q4
          · rw [q4.2] at hin; simp at hin
          · exact q4.1
        refine (lkB_iff _ _).2 ⟨⟨fun x hx => q1.1 x (List.mem_filter.1 hx).1, q1.2.sublist List.filter_sublist⟩, q2, q3, .inr ⟨hw, fun q => ?_⟩⟩
        simp only at q
        simp [lkFree, hw, q] at hf
    · cases hR
  split
  · rename_i hk0 hk1 hk
    refine set_ch hm _ ?_
    have hcc := chan_in hm e.o
    have hco := chan_o m.cs e.o
    unfold restCode at hR
    rw [if_neg hk1, if_pos (by omega)] at hR
    unfold chanCode at hR
    unfold chanTo
    rcases chan_z m e.o with ⟨z1, z2, -⟩ | ⟨z1, z2⟩
    · rw [z1, z2] at hR
      by_cases k6 : e.k = 6
      · rw [if_pos k6, z2]
        have hs := evOk_make hE k6
        exact chB_mk ⟨o1, o2⟩ hs (by simp) (by simp) (by simp only; omega)
      · simp [k6] at hR
    · rw [z1] at hR
      obtain ⟨C, hC⟩ : ∃ C, C = chanOf m.cs e.o := ⟨_, rfl⟩
      rw [← hC] at hcc hR hco ⊢
      by_cases k6 : e.k = 6
      · simp [k6] at hR
      rw [if_neg k6]
      by_cases k7 : e.k = 7
      · rw [if_pos k7]
        simp only [k7] at hR
        by_cases q1 : C.cap = 0
        · simp [q1] at hR
        by_cases q2 : C.cl = true
        · simp [q1, q2] at hR
        by_cases q3 : C.sent - C.got = C.cap
        · simp [q1, q2, q3] at hR
        by_cases q4 : C.sent = 1000000
        · simp [q1, q2, q4] at hR
          omega
        exact chB_mk (by simp only; omega) (by simp only; omega) (by simp only; omega) (by simp only; omega) (by simp only; omega)
      rw [if_neg k7]
      by_cases k8 : e.k = 8
      · rw [if_pos k8]
        simp only [k8] at hR
        by_cases q1 : C.cap = 0
        · simp [q1] at hR
        by_cases q3 : C.sent = C.got
        · simp [q1, q3] at hR
        exact chB_mk (by simp only; omega) (by simp only; omega) (by simp only; omega) (by simp only; omega) (by simp only; omega)
      rw [if_neg k8]
      exact chB_mk (by simp only; omega) (by simp only; omega) (by simp only; omega) (by simp only; omega) (by simp only; omega)
  split
  · rename_i hk0 hk1 hk2 hk
    have hc := count_in hm e.o
    have hs := evOk_add hE hk
    unfold restCode at hR
    rw [if_neg hk1, if_neg (by omega), if_neg (by omega), if_neg (by omega), if_pos hk] at hR
    refine set_ct hm _ _ fun _ => ?_
    split at hR
    · cases hR
    · unfold ctB
      rw [Bool.and_eq_true]
      exact ⟨inB_mk o1 o2, inB_mk (by simp only; omega) (by simp only; omega)⟩
  split
  · rename_i hk0 hk1 hk2 hk3 hk
    have hc := count_in hm e.o
    refine set_ct hm _ _ fun hn => ?_
    unfold restCode at hR
    rw [if_neg hk1, if_neg (by omega), if_pos hk] at hR
    split at hR
    · cases hR
    · unfold ctB
      rw [Bool.and_eq_true]
      exact ⟨inB_mk o1 o2, inB_mk (by simp only; omega) (by simp only; omega)⟩
  split
  · rename_i hk0 hk1 hk2 hk3 hk4 hk
    obtain ⟨h1, h2, h3, h4, h5, h6⟩ := HS
    have hn : memB m.os e.o = false := by
      unfold restCode at hR
      rw [if_neg hk1, if_neg (by omega), if_neg (by omega), if_neg (by omega), if_neg (by omega), if_pos (.inl hk)] at hR
      cases q : memB m.os e.o
      · rfl
      · simp [q, hk] at hR
    refine (scB_iff _).2 ⟨h1, h2, h3, h4, fun x hx => ?_, rise_withL _ _ h6 hn⟩
    rcases (mem_withL _ _ h6 x).1 hx with q | q
    · exact h5 x q
    · omega
  · exact hm
end Go.Proofs.YtikjodbboljhjaaGreatDoor
