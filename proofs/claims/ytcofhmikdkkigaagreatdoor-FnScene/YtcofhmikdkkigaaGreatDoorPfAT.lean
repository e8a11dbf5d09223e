/-
  Pack AT: ScRight2, ScBw, ScW1, ScSort.
-/
import Derived.Test.YtcofhmikdkkigaaGreatDoorPfAS
import Derived.Deep.RegionHeld3
import Derived.Shelf.SortM.Plain
import Derived.Shelf.SortM.SortNone
import Derived.Ground.SlgmProg
import Derived.Sort.OwnSortedInts
namespace Go.Proofs.YtcofhmikdkkigaaGreatDoor
open Go.RowKit

theorem evOk_o {e : Ev} (h : evOk e = true) : 0 ≤ e.o ∧ e.o ≤ 15 := by
  unfold evOk at h
  simp only [Bool.and_eq_true] at h
  have h1 := h.1.1.1.1.1.2
  unfold ev1 fitB at h1
  split at h1
  · exact inB_true h1
  · have : e.o = 0 := by simpa using h1
    omega
theorem evOk_make {e : Ev} (h : evOk e = true) (hk : e.k = 6) : 0 ≤ e.s ∧ e.s ≤ 8 := by
  unfold evOk at h
  simp only [Bool.and_eq_true] at h
  have h4 := h.1.1.2
  unfold ev4 at h4
  rw [hk] at h4
  have : hasB 6 8 = true := by decide
  rw [this] at h4
  exact inB_true h4
theorem lkB_iff (g : Int) (l : Lk) : lkB g l = true ↔ ((∀ x ∈ l.rd, 0 ≤ x ∧ x ≤ g - 1) ∧ l.rd.Pairwise (· < ·)) ∧ (0 ≤ l.o ∧ l.o ≤ 15) ∧ (-1 ≤ l.wr ∧ l.wr ≤ g - 1) ∧ ((0 ≤ l.wr ∧ l.rd = []) ∨ (l.wr < 0 ∧ l.rd ≠ [])) := by
  unfold lkB
  rw [Bool.and_eq_true, Bool.and_eq_true, Bool.and_eq_true, rdB_iff]
  have e : (!(decide (0 ≤ l.wr) == decide (0 < l.rd.length))) = true ↔ ((0 ≤ l.wr ∧ l.rd = []) ∨ (l.wr < 0 ∧ l.rd ≠ [])) := by
    have e1 : 0 < l.rd.length ↔ l.rd ≠ [] := List.length_pos_iff
    by_cases h1 : 0 ≤ l.wr <;> by_cases h2 : l.rd = []
    · simp [h1, h2]
    · have := e1.2 h2
      simp [h1, h2, this]
    · simp [h1, h2]
    · have := e1.2 h2
      simp [h1, h2, this]; omega
  rw [e]
  constructor
  · rintro ⟨h1, h2, h3, h4⟩; exact ⟨h1, inB_true h2, inB_true h3, h4⟩
  · rintro ⟨h1, h2, h3, h4⟩; exact ⟨h1, inB_mk h2.1 h2.2, inB_mk h3.1 h3.2, h4⟩
theorem scB_iff (m : Scn) : scB m = true ↔ (1 ≤ m.g ∧ m.g ≤ 16) ∧ ((∀ x ∈ m.ls, lkB m.g x = true) ∧ (m.ls.map Lk.o).Pairwise (· < ·)) ∧ ((∀ x ∈ m.cs, chB x = true) ∧ (m.cs.map Ch.o).Pairwise (· < ·)) ∧ ((∀ x ∈ m.gs, ctB x = true) ∧ (m.gs.map Ct.o).Pairwise (· < ·)) ∧ ((∀ x ∈ m.os, 0 ≤ x ∧ x ≤ 15) ∧ m.os.Pairwise (· < ·)) := by
  unfold scB
  rw [Bool.and_eq_true, Bool.and_eq_true, Bool.and_eq_true, Bool.and_eq_true, rowB_iff, rowB_iff, rowB_iff, rowB_iff]
  have e : m.os.map (fun x => x) = m.os := by simp
  rw [e]
  constructor
  · rintro ⟨h1, h2, h3, h4, h5, h6⟩; exact ⟨inB_true h1, h2, h3, h4, fun x hx => inB_true (h5 x hx), h6⟩
  · rintro ⟨h1, h2, h3, h4, h5, h6⟩; exact ⟨inB_mk h1.1 h1.2, h2, h3, h4, fun x hx => inB_mk (h5 x hx).1 (h5 x hx).2, h6⟩
theorem lock_all {m : Scn} (h : scB m = true) (o : Int) : (lockOf m.ls o).o = o ∧ (lockOf m.ls o = ⟨o, -1, []⟩ ∨ lkB m.g (lockOf m.ls o) = true) := by
  have h1 := ((scB_iff m).1 h).2.1.1
  unfold lockOf
  cases hf : m.ls.find? fun l => l.o == o with
  | none => exact ⟨rfl, .inl rfl⟩
  | some l => exact ⟨by simpa using List.find?_some hf, .inr (h1 l (List.mem_of_find?_eq_some hf))⟩
theorem chan_o (cs : List Ch) (o : Int) : (chanOf cs o).o = o := by
  unfold chanOf
  cases hf : cs.find? fun l => l.o == o with
  | none => rfl
  | some l => simpa using List.find?_some hf

theorem set_lk {m : Scn} (h : scB m = true) (l : Lk) (hl : lkFree l = false → lkB m.g l = true) : scB (setLk m l) = true := by
  obtain ⟨h1, ⟨h2, h3⟩, h4⟩ := (scB_iff m).1 h
  refine (scB_iff _).2 ⟨h1, ⟨fun x hx => ?_, rise_setL Lk.o l _ _ h3⟩, h4⟩
  rcases mem_setL Lk.o l _ _ h3 x hx with q | ⟨q1, q2⟩
  · exact h2 x q
  · rw [q2]; exact hl q1
theorem set_ch {m : Scn} (h : scB m = true) (c : Ch) (hc : chB c = true) : scB (setCh m c) = true := by
  obtain ⟨h1, h2, ⟨h3, h4⟩, h5⟩ := (scB_iff m).1 h
  refine (scB_iff _).2 ⟨h1, h2, ⟨fun x hx => ?_, rise_setL Ch.o c _ _ h4⟩, h5⟩
  rcases mem_setL Ch.o c _ _ h4 x hx with q | ⟨q1, q2⟩
  · exact h3 x q
  · rw [q2]; exact hc
theorem set_ct {m : Scn} (h : scB m = true) (o n : Int) (hc : n ≠ 0 → ctB ⟨o, n⟩ = true) : scB (setCt m o n) = true := by
  obtain ⟨h1, h2, h3, ⟨h4, h5⟩, h6⟩ := (scB_iff m).1 h
  refine (scB_iff _).2 ⟨h1, h2, h3, ⟨fun x hx => ?_, rise_setL Ct.o ⟨o, n⟩ _ _ h5⟩, h6⟩
  rcases mem_setL Ct.o ⟨o, n⟩ _ _ h5 x hx with q | ⟨q1, q2⟩
  · exact h4 x q
  · rw [q2]; exact hc (by simpa using q1)
theorem chB_mk {c : Ch} (h1 : 0 ≤ c.o ∧ c.o ≤ 15) (h2 : 0 ≤ c.cap ∧ c.cap ≤ 8) (h3 : 0 ≤ c.sent ∧ c.sent ≤ 1000000) (h4 : 0 ≤ c.got ∧ c.got ≤ c.sent) (h5 : c.sent ≤ c.got + c.cap) : chB c = true := by
  unfold chB
  simp only [Bool.and_eq_true, decide_eq_true_eq]
  exact ⟨inB_mk h1.1 h1.2, inB_mk h2.1 h2.2, inB_mk h3.1 h3.2, inB_mk h4.1 h4.2, h5⟩
theorem memB_iff (xs : List Int) (x : Int) : memB xs x = true ↔ x ∈ xs := by
  unfold memB
  rw [List.any_eq_true]
  constructor
  · rintro ⟨y, hy, e⟩
    have : y = x := by simpa using e
    rwa [← this]
  · intro h
    exact ⟨x, h, by simp⟩

theorem code_parts {m : Scn} {e : Ev} (h : codeIn m e = 0) : evOk e = true ∧ scB m = true ∧ ¬ gorBad m e ∧ restCode m e = 0 := by
  unfold codeIn at h
  split at h
  · cases h
  · rename_i h1
    split at h
    · cases h
    · rename_i h2
      refine ⟨?_, ?_, h2, h⟩
      · cases q : evOk e
        · exact absurd (.inl q) h1
        · rfl
      · cases q : scB m
        · exact absurd (.inr q) h1
        · rfl

set_option maxHeartbeats 1000000 in
theorem do_ok {m : Scn} {e : Ev} (h : codeIn m e = 0) : scB (doS m e) = true := by
  obtain ⟨hE, hm, hG, hR⟩ := code_parts h
  obtain ⟨⟨k1, k2⟩, g1, g2⟩ := evOk_k hE
  obtain ⟨o1, o2⟩ := evOk_o hE
  have hg : e.g < m.g := by
    unfold gorBad at hG
    omega
  have HS := (scB_iff m).1 hm
  unfold doS
  split
  · rename_i hk
    have ho : e.o = m.g := by
      unfold gorBad at hG
      omega
    obtain ⟨h1, ⟨h2, h3⟩, h4⟩ := HS
    refine (scB_iff _).2 ⟨by simp only; omega, ⟨fun x hx => ?_, h3⟩, h4⟩
    obtain ⟨⟨q1, q2⟩, q3, q4, q5⟩ := (lkB_iff _ _).1 (h2 x hx)
    exact (lkB_iff _ _).2 ⟨⟨fun y hy => by have := q1 y hy; simp only; omega, q2⟩, q3, by simp only; omega, q5⟩
  split
  · rename_i hk0 hk
    refine set_lk hm _ fun hf => ?_
    obtain ⟨lo, ll⟩ := lock_all hm e.o
    obtain ⟨L, hL⟩ : ∃ L, L = lockOf m.ls e.o := ⟨_, rfl⟩
    unfold restCode at hR
    rw [if_pos hk] at hR
    unfold lockCode at hR
    unfold lockTo at hf ⊢
    rw [← hL] at lo ll hR hf ⊢
    by_cases k2 : e.k = 2
    · rw [if_pos k2] at hR hf ⊢
      split at hR
      · cases hR
      · rename_i hq
        have hw : ¬ 0 ≤ L.wr := fun q => hq (.inl q)
        have hd : L.rd = [] := List.eq_nil_of_length_eq_zero (by have : ¬ 0 < L.rd.length := fun q => hq (.inr q); omega)
        exact (lkB_iff _ _).2 ⟨⟨by simp [hd], by simp [hd]⟩, by simp only; omega, by simp only; omega, .inl ⟨g1, hd⟩⟩
    rw [if_neg k2] at hR hf ⊢
    by_cases k4 : e.k = 4
    · have k3 : ¬ e.k = 3 := by omega
      rw [if_pos k4] at hR
      rw [if_neg k3, if_pos k4] at hf ⊢
      split at hR
      · cases hR
      · rename_i hq
        have hw : ¬ 0 ≤ L.wr := fun q => hq (.inl q)
        have hd : memB L.rd e.g = false := by
          cases q : memB L.rd e.g
          · rfl
          · exact absurd (.inr q) hq
        have hp : (∀ x ∈ L.rd, 0 ≤ x ∧ x ≤ m.g - 1) ∧ L.rd.Pairwise (· < ·) ∧ -1 ≤ L.wr := by
          rcases ll with q | q
          · rw [q]; simp
          · obtain ⟨q1, q2, q3, q4⟩ := (lkB_iff _ _).1 q
            exact ⟨q1.1, q1.2, q3.1⟩
        refine (lkB_iff _ _).2 ⟨⟨fun x hx => ?_, rise_withL _ _ hp.2.1 hd⟩, by simp only; omega, by simp only; omega, .inr ⟨by simp only; omega, fun q => ?_⟩⟩
        · rcases (mem_withL _ _ hp.2.1 x).1 hx with q | q
          · exact hp.1 x q
          · omega
        · have := (mem_withL _ _ hp.2.1 e.g).2 (.inr rfl)
          simp only at q
          rw [q] at this
          simp at this
    rw [if_neg k4] at hR
    by_cases k3 : e.k = 3
    · rw [if_pos k3] at hR hf ⊢
      split at hR
      · rename_i hq
        have hd : L.rd = [] := by
          rcases ll with q | q
          · rw [q]
          · obtain ⟨q1, q2, q3, q4⟩ := (lkB_iff _ _).1 q
            rcases q4 with q4 | q4
            · exact q4.2
            · omega
        simp [lkFree, hd] at hf
      · cases hR
    have k5 : e.k = 5 := by omega
    rw [if_neg k3, if_pos k5] at hR
    rw [if_neg k3, if_neg k4] at hf ⊢
    split at hR
    · rename_i hq
      have hin := (memB_iff _ _).1 hq
      rcases ll with q | q
      · rw [q] at hin; simp at hin
      · obtain ⟨q1, q2, q3, q4⟩ := (lkB_iff _ _).1 q
        have hw : L.wr < 0 := by
          rcases q4 with q4 | q4
          · rw [q4.2] at hin; simp at hin
          · exact q4.1
        refine (lkB_iff _ _).2 ⟨⟨fun x hx => q1.1 x (List.mem_filter.1 hx).1, q1.2.sublist List.filter_sublist⟩, q2, q3, .inr ⟨hw, fun q => ?_⟩⟩
        simp only at q
        simp [lkFree, hw, q] at hf
    · cases hR
  split
  · rename_i hk0 hk1 hk
    refine set_ch hm _ ?_
    have hcc := chan_in hm e.o
    have hco := chan_o m.cs e.o
    unfold restCode at hR
    rw [if_neg hk1, if_pos (by omega)] at hR
    unfold chanCode at hR
    unfold chanTo
    rcases chan_z m e.o with ⟨z1, z2, -⟩ | ⟨z1, z2⟩
    · rw [z1, z2] at hR
      by_cases k6 : e.k = 6
      · rw [if_pos k6, z2]
        have hs := evOk_make hE k6
        exact chB_mk ⟨o1, o2⟩ hs (by simp) (by simp) (by simp only; omega)
      · simp [k6] at hR
    · rw [z1] at hR
      obtain ⟨C, hC⟩ : ∃ C, C = chanOf m.cs e.o := ⟨_, rfl⟩
      rw [← hC] at hcc hR hco ⊢
      by_cases k6 : e.k = 6
      · simp [k6] at hR
      rw [if_neg k6]
      by_cases k7 : e.k = 7
      · rw [if_pos k7]
        simp only [k7] at hR
        by_cases q1 : C.cap = 0
        · simp [q1] at hR
        by_cases q2 : C.cl = true
        · simp [q1, q2] at hR
        by_cases q3 : C.sent - C.got = C.cap
        · simp [q1, q2, q3] at hR
        by_cases q4 : C.sent = 1000000
        · simp [q1, q2, q4] at hR
          omega
        exact chB_mk (by simp only; omega) (by simp only; omega) (by simp only; omega) (by simp only; omega) (by simp only; omega)
      rw [if_neg k7]
      by_cases k8 : e.k = 8
      · rw [if_pos k8]
        simp only [k8] at hR
        by_cases q1 : C.cap = 0
        · simp [q1] at hR
        by_cases q3 : C.sent = C.got
        · simp [q1, q3] at hR
        exact chB_mk (by simp only; omega) (by simp only; omega) (by simp only; omega) (by simp only; omega) (by simp only; omega)
      rw [if_neg k8]
      exact chB_mk (by simp only; omega) (by simp only; omega) (by simp only; omega) (by simp only; omega) (by simp only; omega)
  split
  · rename_i hk0 hk1 hk2 hk
    have hc := count_in hm e.o
    have hs := evOk_add hE hk
    unfold restCode at hR
    rw [if_neg hk1, if_neg (by omega), if_neg (by omega), if_neg (by omega), if_pos hk] at hR
    refine set_ct hm _ _ fun _ => ?_
    split at hR
    · cases hR
    · unfold ctB
      rw [Bool.and_eq_true]
      exact ⟨inB_mk o1 o2, inB_mk (by simp only; omega) (by simp only; omega)⟩
  split
  · rename_i hk0 hk1 hk2 hk3 hk
    have hc := count_in hm e.o
    refine set_ct hm _ _ fun hn => ?_
    unfold restCode at hR
    rw [if_neg hk1, if_neg (by omega), if_pos hk] at hR
    split at hR
    · cases hR
    · unfold ctB
      rw [Bool.and_eq_true]
      exact ⟨inB_mk o1 o2, inB_mk (by simp only; omega) (by simp only; omega)⟩
  split
  · rename_i hk0 hk1 hk2 hk3 hk4 hk
    obtain ⟨h1, h2, h3, h4, h5, h6⟩ := HS
    have hn : memB m.os e.o = false := by
      unfold restCode at hR
      rw [if_neg hk1, if_neg (by omega), if_neg (by omega), if_neg (by omega), if_neg (by omega), if_pos (.inl hk)] at hR
      cases q : memB m.os e.o
      · rfl
      · simp [q, hk] at hR
    refine (scB_iff _).2 ⟨h1, h2, h3, h4, fun x hx => ?_, rise_withL _ _ h6 hn⟩
    rcases (mem_withL _ _ h6 x).1 hx with q | q
    · exact h5 x q
    · omega
  · exact hm
end Go.Proofs.YtcofhmikdkkigaaGreatDoor
namespace Go.Proofs.YtcofhmikdkkigaaGreatDoor
open Go.RowKit

def On (b b1 b2 b3 b4 x : Nat) : Prop := x = b ∨ x = b1 ∨ x = b2 ∨ x = b3 ∨ x = b4
def Off (lo : Nat × Nat) (x : Nat) : Prop := x < lo.1 ∨ lo.2 ≤ x

structure FrS (S : Nat → Prop) (w w' : World) : Prop where
  os : w'.os = w.os
  tape : w'.tape = w.tape
  output : w'.output = w.output
  size : w.heap.size ≤ w'.heap.size
  block : ∀ k, k < w.heap.size → ¬ S k → w'.heap[k]? = w.heap[k]?
theorem FrS.refl (S : Nat → Prop) (w : World) : FrS S w w := ⟨rfl, rfl, rfl, Nat.le_refl _, fun _ _ _ => rfl⟩
theorem FrS.trans {S : Nat → Prop} {a b c : World} (h : FrS S a b) (k : FrS S b c) : FrS S a c :=
  ⟨k.os.trans h.os, k.tape.trans h.tape, k.output.trans h.output, Nat.le_trans h.size k.size, fun i hi hs => (k.block i (Nat.lt_of_lt_of_le hi h.size) hs).trans (h.block i hi hs)⟩
theorem Fr.toS {S : Nat → Prop} {w w' : World} (h : Fr w w') : FrS S w w' := ⟨h.os, h.tape, h.output, h.size, fun i hi _ => h.block i hi (by simp)⟩
theorem grown_toS {S : Nat → Prop} {w w' : World} {x : Nat} (h : w.grownBy w' (some x)) (hx : S x) : FrS S w w' :=
  ⟨h.os, h.tape, h.output, h.size, fun i hi hs => h.block i hi (fun e => by cases e; exact hs hx)⟩
theorem FrS.cell {S : Nat → Prop} {w w' : World} (h : FrS S w w') {p : Addr} {v : Value} (hc : w.cell? p = some v) (hs : ¬ S p.block) : w'.cell? p = some v := by
  rw [World.cell?_of_block (h.block p.block (World.block_lt_of_cell? w _ hc) hs)]
  exact hc
theorem Fr.thenS {S : Nat → Prop} {a w w' : World} (h : Fr a w) (k : FrS S w w') (hs : ∀ j, S j → a.heap.size ≤ j) : Fr a w' :=
  ⟨k.os.trans h.os, k.tape.trans h.tape, k.output.trans h.output, Nat.le_trans h.size k.size, fun i hi _ => (k.block i (Nat.lt_of_lt_of_le hi h.size) (fun q => by have := hs i q; omega)).trans (h.block i hi (by simp))⟩

def delF (f : Int → Option Value) (i : Int) : Int → Option Value := fun j => if j = i then none else f j
theorem grown_turned {w w' : World} {b : Nat} (h : w.mapTurned w' b) : w.grownBy w' (some b) := World.mapTurned.grown h
theorem MapF.del {w : World} {b n : Nat} {f : Int → Option Value} (h : MapF w b n f) {t e : TypeId} (ht : Tryz.prog.underlying t = some (.map 2 e)) {i : Int} (hi : I64 i) (ty : TypeId) :
    ∃ w', (Builtin.delete_ #[t, 2] ty #[.map (some b), .int .i64 i]).run Tryz.prog w = .ok (.tuple #[]) w' ∧ MapF w' b n (delF f i) ∧ w.grownBy w' (some b) := by
  obtain ⟨D, h1, h2⟩ := h
  obtain ⟨w', hrun, h3, h4⟩ := h1.drop keyed64 ht (Maps.keyOf_int_mk Tryz.underlying2 (lit64 hi)) ty
  refine ⟨w', hrun, ⟨_, h3, fun j z => ?_⟩, grown_turned h4⟩
  unfold delF
  by_cases e : j = i
  · subst e
    rw [if_pos rfl, Maps.atKey_del_same]
    rfl
  · rw [if_neg e, Maps.atKey_del_other (by simpa using e), h2]

structure BoardW (lo : Nat × Nat) (w : World) (b b1 b2 b3 b4 n : Nat) (m : Scn) : Prop where
  ge : lo.1 ≤ b1 ∧ b < lo.2 ∧ lo.2 ≤ w.heap.size
  row : w.heap[b]? = some (.cells #[.int .i64 m.g, .map (some b1), .map (some b2), .map (some b3), .map (some b4)] 141 (0, 0))
  lt : b1 < b2 ∧ b2 < b3 ∧ b3 < b4 ∧ b4 < b
  m1 : ∃ fl, MapF w b1 n fl ∧ ∀ o, LkAt (Off lo) w (fl o) (m.ls.find? fun l => l.o == o)
  m2 : MapF w b2 n fun o => (m.cs.find? fun c => c.o == o).map valC
  m3 : MapF w b3 n fun o => (m.gs.find? fun c => c.o == o).map valN
  m4 : MapF w b4 n fun o => (m.os.find? fun x => x == o).map valI
theorem BoardW.toM {w : World} {lo : Nat × Nat} {b b1 b2 b3 b4 n : Nat} {m : Scn} (h : BoardW lo w b b1 b2 b3 b4 n m) : BoardM (Off lo) w b b1 b2 b3 b4 n m :=
  ⟨cell_of_row w b 0 _ _ _ h.row, cell_of_row w b 1 _ _ _ h.row, cell_of_row w b 2 _ _ _ h.row, cell_of_row w b 3 _ _ _ h.row, cell_of_row w b 4 _ _ _ h.row, h.m1, h.m2, h.m3, h.m4⟩
theorem BoardW.blt {w : World} {lo : Nat × Nat} {b b1 b2 b3 b4 n : Nat} {m : Scn} (h : BoardW lo w b b1 b2 b3 b4 n m) : b < w.heap.size := (Array.getElem?_eq_some_iff.1 h.row).1
theorem MapF.keepS {S : Nat → Prop} {w w' : World} {b n : Nat} {f : Int → Option Value} (h : MapF w b n f) (k : FrS S w w') (hs : ¬ S b) : MapF w' b n f := by
  have hlt := h.lt
  obtain ⟨D, ⟨es, clock, hb, F, hn, hD⟩, h2⟩ := h
  exact ⟨D, ⟨es, clock, (k.block b hlt hs).trans hb, F, hn, hD⟩, h2⟩
theorem Reads.keepS {S : Nat → Prop} {w w' : World} {ao : Option Addr} {xs : List Int} (h : Reads w ao xs) (k : FrS S w w') (hs : ∀ b, blk ao = some b → ¬ S b) : Reads w' ao xs := by
  refine ⟨h.len, h.bd, fun i hi => ?_⟩
  obtain ⟨b, off, e, hc⟩ := h.at_ i hi
  exact ⟨b, off, e, fun j hj => k.cell (hc j hj) (hs b (by rw [e]; rfl))⟩
theorem LkAt.keepS {S B : Nat → Prop} {w w' : World} {v : Option Value} {l : Option Lk} (h : LkAt B w v l) (k : FrS S w w') (hs : ∀ b, B b → ¬ S b) : LkAt B w' v l := by
  rcases h with h | ⟨lk, lv, h1, h2, h3⟩
  · exact .inl h
  · exact .inr ⟨lk, lv, h1, h2, ⟨h3.o, h3.wr, h3.rn, h3.rd.keepS k (fun b q => hs b (h3.bl b q)), h3.bl, h3.rc, h3.sz, h3.io, h3.iw⟩⟩
theorem BoardW.keepS {S : Nat → Prop} {w w' : World} {lo : Nat × Nat} {b b1 b2 b3 b4 n : Nat} {m : Scn} (h : BoardW lo w b b1 b2 b3 b4 n m) (k : FrS S w w') (hs : ∀ x, S x → ¬ On b b1 b2 b3 b4 x ∧ lo.1 ≤ x ∧ x < lo.2) : BoardW lo w' b b1 b2 b3 b4 n m := by
  have hb := h.blt
  have hl := h.lt
  have hg := h.ge
  have n0 : ∀ x, On b b1 b2 b3 b4 x → ¬ S x := fun x hx q => (hs x q).1 hx
  obtain ⟨fl, q1, q2⟩ := h.m1
  exact ⟨⟨hg.1, hg.2.1, by have := k.size; omega⟩, (k.block b hb (n0 b (.inl rfl))).trans h.row, hl, ⟨fl, q1.keepS k (n0 _ (.inr (.inl rfl))), fun o => (q2 o).keepS k (fun x hx q => by have := (hs x q).2; unfold Off at hx; omega)⟩, h.m2.keepS k (n0 _ (.inr (.inr (.inl rfl)))), h.m3.keepS k (n0 _ (.inr (.inr (.inr (.inl rfl))))), h.m4.keepS k (n0 _ (.inr (.inr (.inr (.inr rfl)))))⟩
theorem BoardW.fr {w w' : World} {lo : Nat × Nat} {b b1 b2 b3 b4 n : Nat} {m : Scn} (h : BoardW lo w b b1 b2 b3 b4 n m) (k : Fr w w') : BoardW lo w' b b1 b2 b3 b4 n m := h.keepS (S := fun _ => False) k.toS (fun _ q => q.elim)
theorem BoardW.mono {w : World} {lo : Nat × Nat} {b b1 b2 b3 b4 n n' : Nat} {m : Scn} (h : BoardW lo w b b1 b2 b3 b4 n m) (hn : n ≤ n') : BoardW lo w b b1 b2 b3 b4 n' m := by
  obtain ⟨fl, q1, q2⟩ := h.m1
  exact ⟨h.ge, h.row, h.lt, ⟨fl, q1.mono hn, q2⟩, h.m2.mono hn, h.m3.mono hn, h.m4.mono hn⟩
theorem off_lt {lo : Nat × Nat} {b b1 b2 b3 b4 x y : Nat} (hl : b1 < b2 ∧ b2 < b3 ∧ b3 < b4 ∧ b4 < b) (hg : lo.1 ≤ b1 ∧ b < lo.2 ∧ lo.2 ≤ y) (h : On b b1 b2 b3 b4 x) : ∀ j, some x = some j → ¬ Off lo j := by
  intro j e q
  cases e
  unfold On at h
  unfold Off at q
  omega

theorem BoardW.setL {w w' : World} {lo : Nat × Nat} {b b1 b2 b3 b4 n n' : Nat} {m : Scn} {l : Lk} {fl' : Int → Option Value} (h : BoardW lo w b b1 b2 b3 b4 n m) (hm : scB m = true) (hn : n ≤ n') (g : w.grownBy w' (some b1)) (M : MapF w' b1 n' fl')
    (hf : ∀ fl, (∀ o, LkAt (Off lo) w (fl o) (m.ls.find? fun l => l.o == o)) → MapF w b1 n fl → ∀ o, LkAt (Off lo) w' (fl' o) (if o = l.o then (if lkFree l = true then none else some l) else m.ls.find? fun l => l.o == o)) :
    BoardW lo w' b b1 b2 b3 b4 n' (setLk m l) := by
  obtain ⟨fl, q1, q2⟩ := h.m1
  have hl := h.lt
  have hb := h.blt
  refine ⟨⟨h.ge.1, h.ge.2.1, Nat.le_trans h.ge.2.2 g.size⟩, (g.block b hb (by simp; omega)).trans h.row, hl, ⟨fl', M, fun o => ?_⟩, (h.m2.keep g (by simp; omega)).mono hn, (h.m3.keep g (by simp; omega)).mono hn, (h.m4.keep g (by simp; omega)).mono hn⟩
  have := hf fl q2 q1 o
  rw [show (setLk m l).ls = Go.Proofs.YtcofhmikdkkigaaGreatDoor.setL Lk.o l (lkFree l) m.ls from rfl, find_setL Lk.o l (lkFree l) m.ls (sc_rise hm).1]
  exact this
theorem BoardW.setC {w w' : World} {lo : Nat × Nat} {b b1 b2 b3 b4 n n' : Nat} {m : Scn} {c : Ch} (h : BoardW lo w b b1 b2 b3 b4 n m) (hm : scB m = true) (hn : n ≤ n') (g : w.grownBy w' (some b2))
    (M : MapF w' b2 n' (putM (fun o => (m.cs.find? fun c => c.o == o).map valC) c.o (valC c))) : BoardW lo w' b b1 b2 b3 b4 n' (setCh m c) := by
  obtain ⟨fl, q1, q2⟩ := h.m1
  have hl := h.lt
  have hb := h.blt
  refine ⟨⟨h.ge.1, h.ge.2.1, Nat.le_trans h.ge.2.2 g.size⟩, (g.block b hb (by simp; omega)).trans h.row, hl, ⟨fl, (q1.keep g (by simp; omega)).mono hn, fun o => (q2 o).keep g (off_lt hl h.ge (.inr (.inr (.inl rfl))))⟩, ?_, (h.m3.keep g (by simp; omega)).mono hn, (h.m4.keep g (by simp; omega)).mono hn⟩
  have e : (putM (fun o => (m.cs.find? fun c => c.o == o).map valC) c.o (valC c)) = fun o => ((setCh m c).cs.find? fun c => c.o == o).map valC := funext fun o => by
    rw [show (setCh m c).cs = Go.Proofs.YtcofhmikdkkigaaGreatDoor.setL Ch.o c false m.cs from rfl, find_setL Ch.o c false m.cs (sc_rise hm).2.1]
    unfold putM
    split <;> simp
  rw [← e]
  exact M
theorem BoardW.setN {w w' : World} {lo : Nat × Nat} {b b1 b2 b3 b4 n n' : Nat} {m : Scn} {o x : Int} {f' : Int → Option Value} (h : BoardW lo w b b1 b2 b3 b4 n m) (hm : scB m = true) (hn : n ≤ n') (g : w.grownBy w' (some b3))
    (M : MapF w' b3 n' f') (hf : f' = if x = 0 then delF (fun o => (m.gs.find? fun c => c.o == o).map valN) o else putM (fun o => (m.gs.find? fun c => c.o == o).map valN) o (valN ⟨o, x⟩)) : BoardW lo w' b b1 b2 b3 b4 n' (setCt m o x) := by
  obtain ⟨fl, q1, q2⟩ := h.m1
  have hl := h.lt
  have hb := h.blt
  refine ⟨⟨h.ge.1, h.ge.2.1, Nat.le_trans h.ge.2.2 g.size⟩, (g.block b hb (by simp; omega)).trans h.row, hl, ⟨fl, (q1.keep g (by simp; omega)).mono hn, fun o => (q2 o).keep g (off_lt hl h.ge (.inr (.inr (.inr (.inl rfl)))))⟩, (h.m2.keep g (by simp; omega)).mono hn, ?_, (h.m4.keep g (by simp; omega)).mono hn⟩
  have e : f' = fun o' => ((setCt m o x).gs.find? fun c => c.o == o').map valN := funext fun o' => by
    rw [hf, show (setCt m o x).gs = Go.Proofs.YtcofhmikdkkigaaGreatDoor.setL Ct.o ⟨o, x⟩ (x == 0) m.gs from rfl, find_setL Ct.o ⟨o, x⟩ (x == 0) m.gs (sc_rise hm).2.2.1]
    by_cases hx : x = 0
    · subst hx
      rw [if_pos rfl]
      unfold delF
      by_cases q : o' = o <;> simp [q]
    · rw [if_neg hx]
      unfold putM
      by_cases q : o' = o <;> simp [q, hx]
  rw [← e]
  exact M
theorem BoardW.setO {w w' : World} {lo : Nat × Nat} {b b1 b2 b3 b4 n n' : Nat} {m : Scn} {o : Int} (h : BoardW lo w b b1 b2 b3 b4 n m) (hm : scB m = true) (hn : n ≤ n') (g : w.grownBy w' (some b4))
    (M : MapF w' b4 n' (putM (fun o => (m.os.find? fun c => c == o).map valI) o (valI o))) : BoardW lo w' b b1 b2 b3 b4 n' { m with os := withL m.os o } := by
  obtain ⟨fl, q1, q2⟩ := h.m1
  have hl := h.lt
  have hb := h.blt
  refine ⟨⟨h.ge.1, h.ge.2.1, Nat.le_trans h.ge.2.2 g.size⟩, (g.block b hb (by simp; omega)).trans h.row, hl, ⟨fl, (q1.keep g (by simp; omega)).mono hn, fun o => (q2 o).keep g (off_lt hl h.ge (.inr (.inr (.inr (.inr rfl)))))⟩, (h.m2.keep g (by simp; omega)).mono hn, (h.m3.keep g (by simp; omega)).mono hn, ?_⟩
  have e : (putM (fun o => (m.os.find? fun c => c == o).map valI) o (valI o)) = fun o' => ((withL m.os o).find? fun c => c == o').map valI := funext fun o' => by
    rw [find_self]
    unfold putM
    simp only [find_self]
    by_cases q : o' = o
    · subst q
      rw [if_pos rfl, if_pos ((mem_withL _ _ (sc_rise hm).2.2.2 o').2 (.inr rfl))]
      rfl
    · rw [if_neg q]
      by_cases q2 : o' ∈ m.os
      · rw [if_pos q2, if_pos ((mem_withL _ _ (sc_rise hm).2.2.2 o').2 (.inl q2))]
      · rw [if_neg q2, if_neg (fun q3 => by rcases (mem_withL _ _ (sc_rise hm).2.2.2 o').1 q3 with q4 | q4; exact q2 q4; exact q q4)]
  rw [← e]
  exact M
theorem BoardW.setG {w : World} {lo : Nat × Nat} {b b1 b2 b3 b4 n : Nat} {m : Scn} (h : BoardW lo w b b1 b2 b3 b4 n m) (g : Int) : BoardW lo (w.setCell ⟨b, 0, none⟩ (.int .i64 g)) b b1 b2 b3 b4 n { m with g := g } := by
  obtain ⟨fl, q1, q2⟩ := h.m1
  have hl := h.lt
  have k := grown_set w b 0 (.int .i64 g)
  exact ⟨⟨h.ge.1, h.ge.2.1, Nat.le_trans h.ge.2.2 k.size⟩, heap_setCell_same w b 0 _ _ (.int .i64 g) h.row, hl, ⟨fl, q1.keep k (by simp; omega), fun o => (q2 o).keep k (off_lt hl h.ge (.inl rfl))⟩, h.m2.keep k (by simp; omega), h.m3.keep k (by simp; omega), h.m4.keep k (by simp; omega)⟩
end Go.Proofs.YtcofhmikdkkigaaGreatDoor
namespace Go.Proofs.YtcofhmikdkkigaaGreatDoor
open Go.RowKit

theorem field_n (a c : Int) (u : World) : Sem.run Tryz.prog (Instr.field 92 (.agg #[.int .i64 a, .int .i64 c]) 1) u = .ok (.int .i64 c) u := by
  have hu := run_underlying (w := u) Tryz.underlying92
  simp [Instr.field, asAgg, hu, go_sem]

theorem wp_del {w : World} {ops : Array Oper} {rest : List Oper} {o : Oper} {a : Act} {Q : Exit → Act → World → Prop} (hg : o.guard = none) (m x : Operand) (t : TypeId) (hop : o.op = .call { callee := .builtin .delete, args := #[m, x], argTypes := #[t, 2] })
    {e : TypeId} (ht : Tryz.prog.underlying t = some (.map 2 e)) (b n : Nat) (f : Int → Option Value) (i : Int) (hm : a.eval m = .map (some b)) (hx : a.eval x = .int .i64 i) (h : MapF w b n f) (hi : I64 i)
    (hK : ∀ w', MapF w' b n (delF f i) → w.grownBy w' (some b) → wpList Tryz.prog ops Q rest (a.put o.dst (.tuple #[])) w') : wpList Tryz.prog ops Q (o :: rest) a w := by
  refine wpList_plain hg fun K' hK' => ?_
  obtain ⟨w', hrun, r1, r2⟩ := h.del ht hi o.type
  unfold Oper.wp
  simp [execOp, hop, resolve, invoke, builtin, hm, hx, hrun, Result.andThen]
  exact hK' _ _ (hK w' r1 r2)

set_option maxRecDepth 20000 in
set_option maxHeartbeats 1000000 in
theorem addCount_any {lo : Nat × Nat} {b b1 b2 b3 b4 n : Nat} {m : Scn} (o x : Int) (w : World) (h : BoardW lo w b b1 b2 b3 b4 n m) (hm : scB m = true) (hn : n < 4000000) (ho : I64 o) (hx : -1 ≤ x ∧ x ≤ 1000) :
    Calls Tryz.prog 152 #[.pointer (some ⟨b, 0, none⟩), .int .i64 o, .int .i64 x] w fun y w' => y = .returned (.tuple #[]) ∧ BoardW lo w' b b1 b2 b3 b4 (n + 1) (setCt m o (countOf m.gs o + x)) ∧ w.grownBy w' (some b3) := by
  have hL := h.toM.lookN ho w (Fr.refl w)
  have hc := count_in hm o
  rw [(count_z hm o).1] at hc ⊢
  have c3 := h.toM.c3
  have M := h.m3
  have HD : Hid (∀ w' x n' f', n ≤ n' → w.grownBy w' (some b3) → MapF w' b3 n' f' → (f' = if x = 0 then delF (fun o => (m.gs.find? fun c => c.o == o).map valN) o else putM (fun o => (m.gs.find? fun c => c.o == o).map valN) o (valN ⟨o, x⟩)) → BoardW lo w' b b1 b2 b3 b4 n' (setCt m o x)) := fun w' x n' f' q1 q2 q3 q4 => h.setN hm q1 q2 q3 q4
  clear h hm
  obtain ⟨F, hF⟩ : ∃ F, F = fun o => (m.gs.find? fun c => c.o == o).map valN := ⟨_, rfl⟩
  rw [← hF] at M HD
  clear hF
  obtain ⟨C, hC⟩ : ∃ C, C = countZ m o := ⟨_, rfl⟩
  rw [← hC] at hL hc ⊢
  clear hC
  obtain ⟨co, cn⟩ := C
  simp only at hL hc ⊢
  have hf := fun u => field_n co cn u
  have hw : IntKind.i64.wrap (cn + x) = cn + x := by rw [IntKind.wrap_i64]; omega
  by_cases hs : cn + x = 0
  · have hb : (cn + x == 0) = true := by simp; omega
    have HS : Hid (cn + x = 0) := hs
    clear hs
    go_enter Tryz.func152, Tryz.ntmps152
    go_wp2_with (at_delete; refine wp_del rfl _ _ _ rfl Tryz.underlying135 b3 n F o rfl rfl M ho ?_; intro w1 M1 g1)
    first | refine bodyPost_ret (results_none rfl _ _ _) rfl ?_ | go_end0
    exact ⟨rfl, HD.out w1 (cn + x) (n + 1) _ (by omega) g1 (M1.mono (by omega)) (by rw [if_pos HS.out]), g1⟩
  · have hb : (cn + x == 0) = false := by simp; omega
    have HS : Hid (¬ cn + x = 0) := hs
    clear hs
    go_enter Tryz.func152, Tryz.ntmps152
    go_wp2_with (at_mapUpdate; refine wp_put rfl _ _ _ _ rfl Tryz.underlying135 b3 n F o (.agg #[.int .i64 o, .int .i64 (cn + x)]) rfl rfl rfl M (by unfold maxLen; omega) ho ?_; intro w1 M1 g1)
    first | refine bodyPost_ret (results_none rfl _ _ _) rfl ?_ | go_end0
    exact ⟨rfl, HD.out w1 (cn + x) (n + 1) _ (by omega) g1 M1 (by rw [if_neg HS.out]; rfl), g1⟩

set_option maxRecDepth 20000 in
set_option maxHeartbeats 1000000 in
theorem useChan_any {lo : Nat × Nat} {b b1 b2 b3 b4 n : Nat} {m : Scn} (e : Ev) (w : World) (hk : e.k = 7 ∨ e.k = 8 ∨ e.k = 10) (h : BoardW lo w b b1 b2 b3 b4 n m) (hm : scB m = true) (hn : n < 4000000) (ho : I64 e.o) (hi : isChan m.cs e.o = true) :
    Calls Tryz.prog 151 #[.pointer (some ⟨b, 0, none⟩), .int .i64 e.o, .int .i64 e.k] w fun y w' => y = .returned (.tuple #[]) ∧ BoardW lo w' b b1 b2 b3 b4 (n + 1) (setCh m (chanTo m e)) ∧ w.grownBy w' (some b2) := by
  have hL := h.toM.lookC ho w (Fr.refl w)
  have hc := chanZ_in hm e.o
  have hco := chan_o m.cs e.o
  unfold chanTo
  rcases chan_z m e.o with ⟨z1, z2, -⟩ | ⟨z1, z2⟩
  · rw [hi] at z1; cases z1
  rw [z2] at hco ⊢
  have c2 := h.toM.c2
  have hbl := h.blt
  have hlt := h.lt
  have HD : Hid (∀ W w' c n', Fr w W → n ≤ n' → W.grownBy w' (some b2) → MapF w' b2 n' (putM (fun o => (m.cs.find? fun c => c.o == o).map valC) c.o (valC c)) → BoardW lo w' b b1 b2 b3 b4 n' (setCh m c)) := fun W w' c n' f q1 q2 q3 => (h.fr f).setC hm q1 q2 q3
  have M := h.m2
  clear h hm hi
  obtain ⟨F, hF⟩ : ∃ F, F = fun o => (m.cs.find? fun c => c.o == o).map valC := ⟨_, rfl⟩
  rw [← hF] at M HD
  clear hF z1 z2
  obtain ⟨C, hC⟩ : ∃ C, C = chanZ m e.o := ⟨_, rfl⟩
  rw [← hC] at hL hc hco ⊢
  clear hC
  obtain ⟨k, gr, o, wi, l, sz, f, t⟩ := e
  obtain ⟨co, cap, sent, got, cl⟩ := C
  simp only at hL hc hco hk ho ⊢
  subst hco
  rcases hk with rfl | rfl | rfl
  · have hw : IntKind.i64.wrap (sent + 1) = sent + 1 := by rw [IntKind.wrap_i64]; omega
    have fW := Fr.alloc w (.cells #[.int .i64 co, .int .i64 cap, .int .i64 (sent + 1), .int .i64 got, .bool cl] 89)
    have kC := ChK.new w ⟨co, cap, (sent + 1), got, cl⟩
    simp only at kC
    go_enter Tryz.func151, Tryz.ntmps151
    go_wp2_with fail
    obtain ⟨W, hW⟩ : ∃ W, W = w.alloc (.cells #[.int .i64 co, .int .i64 cap, .int .i64 (sent + 1), .int .i64 got, .bool cl] 89) := ⟨_, rfl⟩
    rw [← hW] at fW kC ⊢
    clear hW
    have hne : ¬ (some w.heap.size = some b2) := fun q => by simp only [Option.some.injEq] at q; omega
    have hne2 : ¬ (some b = some b2) := fun q => by simp only [Option.some.injEq] at q; omega
    obtain ⟨C, hC⟩ : ∃ C, C = w.heap.size := ⟨_, rfl⟩
    rw [← hC] at kC hne ⊢
    clear hC hL
    have c2 := fW.cell c2
    obtain ⟨w1, hrun, M1, g1⟩ := ((M.fr fW).fr (Fr.drew W)).put Tryz.underlying132 (by unfold maxLen; omega) ho (.agg #[.int .i64 co, .int .i64 cap, .int .i64 (sent + 1), .int .i64 got, .bool cl])
    have gW : W.grownBy w1 (some b2) := grown_trans (grown_draw W 1 _) g1
    obtain ⟨y0, y1, y2, y3, y4⟩ := kC.at
    obtain ⟨z0, z1, z2, z3, z4⟩ := (kC.keep gW (fun q => hne q.symm)).at
    have x2 := gW.cell c2 hne2
    simp only at y0 y1 y2 y3 y4 z0 z1 z2 z3 z4
    clear M kC
    go_region_held3 (fun u => u.cell? ⟨b, 2, none⟩ = some (.map (some b2)) ∧ u.cell? ⟨C, 0, none⟩ = some (.int .i64 co) ∧ u.cell? ⟨C, 1, none⟩ = some (.int .i64 cap) ∧ u.cell? ⟨C, 2, none⟩ = some (.int .i64 (sent + 1)) ∧ u.cell? ⟨C, 3, none⟩ = some (.int .i64 got) ∧ u.cell? ⟨C, 4, none⟩ = some (.bool cl)) (go_keep) (fail)
    first | refine bodyPost_ret (results_none rfl _ _ _) rfl ?_ | go_end0
    exact ⟨rfl, HD.out W w1 ⟨co, cap, (sent + 1), got, cl⟩ (n + 1) fW (by omega) gW M1, grown_trans fW.wide gW⟩
  · have hw : IntKind.i64.wrap (got + 1) = got + 1 := by rw [IntKind.wrap_i64]; omega
    have fW := Fr.alloc w (.cells #[.int .i64 co, .int .i64 cap, .int .i64 sent, .int .i64 (got + 1), .bool cl] 89)
    have kC := ChK.new w ⟨co, cap, sent, (got + 1), cl⟩
    simp only at kC
    go_enter Tryz.func151, Tryz.ntmps151
    go_wp2_with fail
    obtain ⟨W, hW⟩ : ∃ W, W = w.alloc (.cells #[.int .i64 co, .int .i64 cap, .int .i64 sent, .int .i64 (got + 1), .bool cl] 89) := ⟨_, rfl⟩
    rw [← hW] at fW kC ⊢
    clear hW
    have hne : ¬ (some w.heap.size = some b2) := fun q => by simp only [Option.some.injEq] at q; omega
    have hne2 : ¬ (some b = some b2) := fun q => by simp only [Option.some.injEq] at q; omega
    obtain ⟨C, hC⟩ : ∃ C, C = w.heap.size := ⟨_, rfl⟩
    rw [← hC] at kC hne ⊢
    clear hC hL
    have c2 := fW.cell c2
    obtain ⟨w1, hrun, M1, g1⟩ := ((M.fr fW).fr (Fr.drew W)).put Tryz.underlying132 (by unfold maxLen; omega) ho (.agg #[.int .i64 co, .int .i64 cap, .int .i64 sent, .int .i64 (got + 1), .bool cl])
    have gW : W.grownBy w1 (some b2) := grown_trans (grown_draw W 1 _) g1
    obtain ⟨y0, y1, y2, y3, y4⟩ := kC.at
    obtain ⟨z0, z1, z2, z3, z4⟩ := (kC.keep gW (fun q => hne q.symm)).at
    have x2 := gW.cell c2 hne2
    simp only at y0 y1 y2 y3 y4 z0 z1 z2 z3 z4
    clear M kC
    go_region_held3 (fun u => u.cell? ⟨b, 2, none⟩ = some (.map (some b2)) ∧ u.cell? ⟨C, 0, none⟩ = some (.int .i64 co) ∧ u.cell? ⟨C, 1, none⟩ = some (.int .i64 cap) ∧ u.cell? ⟨C, 2, none⟩ = some (.int .i64 sent) ∧ u.cell? ⟨C, 3, none⟩ = some (.int .i64 (got + 1)) ∧ u.cell? ⟨C, 4, none⟩ = some (.bool cl)) (go_keep) (fail)
    first | refine bodyPost_ret (results_none rfl _ _ _) rfl ?_ | go_end0
    exact ⟨rfl, HD.out W w1 ⟨co, cap, sent, (got + 1), cl⟩ (n + 1) fW (by omega) gW M1, grown_trans fW.wide gW⟩
  · have fW := Fr.alloc w (.cells #[.int .i64 co, .int .i64 cap, .int .i64 sent, .int .i64 got, .bool true] 89)
    have kC := ChK.new w ⟨co, cap, sent, got, true⟩
    simp only at kC
    go_enter Tryz.func151, Tryz.ntmps151
    go_wp2_with fail
    obtain ⟨W, hW⟩ : ∃ W, W = w.alloc (.cells #[.int .i64 co, .int .i64 cap, .int .i64 sent, .int .i64 got, .bool true] 89) := ⟨_, rfl⟩
    rw [← hW] at fW kC ⊢
    clear hW
    have hne : ¬ (some w.heap.size = some b2) := fun q => by simp only [Option.some.injEq] at q; omega
    have hne2 : ¬ (some b = some b2) := fun q => by simp only [Option.some.injEq] at q; omega
    obtain ⟨C, hC⟩ : ∃ C, C = w.heap.size := ⟨_, rfl⟩
    rw [← hC] at kC hne ⊢
    clear hC hL
    have c2 := fW.cell c2
    obtain ⟨w1, hrun, M1, g1⟩ := ((M.fr fW).fr (Fr.drew W)).put Tryz.underlying132 (by unfold maxLen; omega) ho (.agg #[.int .i64 co, .int .i64 cap, .int .i64 sent, .int .i64 got, .bool true])
    have gW : W.grownBy w1 (some b2) := grown_trans (grown_draw W 1 _) g1
    obtain ⟨y0, y1, y2, y3, y4⟩ := kC.at
    obtain ⟨z0, z1, z2, z3, z4⟩ := (kC.keep gW (fun q => hne q.symm)).at
    have x2 := gW.cell c2 hne2
    simp only at y0 y1 y2 y3 y4 z0 z1 z2 z3 z4
    clear M kC
    go_region_held3 (fun u => u.cell? ⟨b, 2, none⟩ = some (.map (some b2)) ∧ u.cell? ⟨C, 0, none⟩ = some (.int .i64 co) ∧ u.cell? ⟨C, 1, none⟩ = some (.int .i64 cap) ∧ u.cell? ⟨C, 2, none⟩ = some (.int .i64 sent) ∧ u.cell? ⟨C, 3, none⟩ = some (.int .i64 got) ∧ u.cell? ⟨C, 4, none⟩ = some (.bool true)) (go_keep) (fail)
    first | refine bodyPost_ret (results_none rfl _ _ _) rfl ?_ | go_end0
    exact ⟨rfl, HD.out W w1 ⟨co, cap, sent, got, true⟩ (n + 1) fW (by omega) gW M1, grown_trans fW.wide gW⟩
end Go.Proofs.YtcofhmikdkkigaaGreatDoor
namespace Go.Proofs
shelf_lay_g SlLaysM.n5 Slgm 5 at Tryz 186 as Tryz.sortA
end Go.Proofs
namespace Go.Proofs.YtcofhmikdkkigaaGreatDoor
open Go.RowKit

theorem sort_any (v : Value) (xs : List Int) (base : Nat) (w : World) (h : OwnS w base v xs) :
    Calls Tryz.prog 186 #[v] w fun e w' => e = .returned (.tuple #[]) ∧ OwnS w' base v (xs.mergeSort fun x y => decide (x ≤ y)) ∧ w.grownBy w' v.ownBlock := by
  obtain ⟨g, cap, rfl, ho, hl, hb⟩ := h
  rcases ho.2 with ⟨e, _⟩ | ⟨g', cap', cur, e, hg, hc, h1, h2, h3, h4⟩
  · cases e
  cases e
  have hlt : g < w.heap.size := (Array.getElem?_eq_some_iff.1 hc).1
  have h4' : cur.toList.take xs.length = xs.map (Value.int .i64) := by simpa using h4
  refine (Go.Proofs.AnyM.slices_Sort_int Tryz.sortA g 0 cap xs w (holds_of_blockI hc h4') hlt (by omega)).mono ?_
  rintro e w' ⟨rfl, n, os, rfl⟩
  have hlen : (xs.mergeSort fun x y => decide (x ≤ y)).length = xs.length := List.length_mergeSort xs
  refine ⟨rfl, ⟨g, cap, by rw [hlen], ?_, by rw [hlen]; exact hl, fun x hx => hb x ((List.mergeSort_perm xs _).mem_iff.1 hx)⟩, grownBy_sortedI _⟩
  have := ownsRow_sortedI (n := n) (os := os) (e := 2) hlen hg hc h1 h2 h3
  rw [hlen]
  exact this
end Go.Proofs.YtcofhmikdkkigaaGreatDoor
