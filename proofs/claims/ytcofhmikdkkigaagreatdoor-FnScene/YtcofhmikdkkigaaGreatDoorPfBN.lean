/-
  Pack BN: Rev.
-/
import Derived.Test.YtcofhmikdkkigaaGreatDoorPfBB
import Derived.Test.YtcofhmikdkkigaaGreatDoorPfAJ
import Derived.Deep.RegionHeld3
namespace Go.Proofs.YtcofhmikdkkigaaGreatDoor
open Go.RowKit

def evOf (k g : Int) (f : List Int) : Ev := ⟨k, g, f.getD 0 0, f.getD 1 0, f.getD 2 0, f.getD 3 0, f.getD 4 0, f.getD 5 0⟩
theorem evOf_put (k g : Int) (f : List Int) (i : Nat) (n : Int) (hi : i < 6) (hf : f.length = 6) : (evOf k g f).put (i + 2) n = evOf k g (f.set i n) := by
  match f, hf with
  | [a, b, c, d, e, h], _ =>
    rcases (by omega : i = 0 ∨ i = 1 ∨ i = 2 ∨ i = 3 ∨ i = 4 ∨ i = 5) with rfl | rfl | rfl | rfl | rfl | rfl <;> rfl
theorem offF_yes (k : Int) (i : Nat) (hi : i < 6) (h : hasB k (2 ^ i) = true) : offF k i = (i + 2) :: offF k (i + 1) := by
  have e : 6 - i = (6 - (i + 1)) + 1 := by omega
  rw [offF, e, List.range'_succ, List.filter_cons_of_pos (by simpa using h)]
  rfl
theorem offF_no (k : Int) (i : Nat) (hi : i < 6) (h : hasB k (2 ^ i) = false) : offF k i = offF k (i + 1) := by
  have e : 6 - i = (6 - (i + 1)) + 1 := by omega
  rw [offF, e, List.range'_succ, List.filter_cons_of_neg (by simp [h])]
  rfl
theorem offF_end (k : Int) : offF k 6 = [] := rfl

def RE (bs : List Int) (k : Int) (q : Nat) (i p : Nat) (g : Int) (f : List Int) : Prop := rdSeq bs (offF k i) p (evOf k g f) = rdSeq bs (offs k) q (ev0 k) ∧ f.length = 6 ∧ ∀ x ∈ f, I64 x
theorem RE.start {bs : List Int} {k : Int} {q p : Nat} {g : Int} (h : rdN bs q = some (g, p)) : RE bs k q 0 p g [0, 0, 0, 0, 0, 0] := by
  refine ⟨?_, rfl, ?_⟩
  · rw [offs, rdSeq, h]; rfl
  · intro x hx; simp at hx; subst hx; exact ⟨by decide, by decide⟩
theorem RE.no {bs : List Int} {k : Int} {q i p : Nat} {g : Int} {f : List Int} (h : RE bs k q i p g f) (hi : i < 6) (hh : hasB k (2 ^ i) = false) : RE bs k q (i + 1) p g f := by
  refine ⟨?_, h.2⟩
  rw [← h.1, offF_no k i hi hh]
theorem RE.yes {bs : List Int} {k : Int} {q i p p' : Nat} {g n : Int} {f : List Int} (h : RE bs k q i p g f) (hi : i < 6) (hh : hasB k (2 ^ i) = true) (hr : rdN bs p = some (n, p')) (hn : I64 n) : RE bs k q (i + 1) p' g (f.set i n) := by
  refine ⟨?_, by rw [List.length_set]; exact h.2.1, fun x hx => ?_⟩
  · rw [← h.1, offF_yes k i hi hh, rdSeq, hr]
    simp only []
    rw [evOf_put k g f i n hi h.2.1]
  · rcases List.mem_or_eq_of_mem_set hx with hx | rfl
    · exact h.2.2 x hx
    · exact hn
theorem RE.stop {bs : List Int} {k : Int} {q i p : Nat} {g : Int} {f : List Int} (h : RE bs k q i p g f) (hi : i < 6) (hh : hasB k (2 ^ i) = true) (hr : rdN bs p = none) : rdSeq bs (offs k) q (ev0 k) = none := by
  rw [← h.1, offF_yes k i hi hh, rdSeq, hr]
theorem RE.fin {bs : List Int} {k : Int} {q p : Nat} {g : Int} {f : List Int} (h : RE bs k q 6 p g f) : rdSeq bs (offs k) q (ev0 k) = some (evOf k g f, p) := by
  rw [← h.1, offF_end]; rfl

theorem EvB.set8 {w : World} {b : Nat} {e0 : Ev} (h : EvB w b e0) (e : Ev) : EvB ((((((((w.setCell ⟨b, 0, none⟩ (.int .i64 e.k)).setCell ⟨b, 1, none⟩ (.int .i64 e.g)).setCell ⟨b, 2, none⟩ (.int .i64 e.o)).setCell ⟨b, 3, none⟩ (.int .i64 e.w)).setCell ⟨b, 4, none⟩ (.int .i64 e.l)).setCell ⟨b, 5, none⟩ (.int .i64 e.s)).setCell ⟨b, 6, none⟩ (.int .i64 e.f)).setCell ⟨b, 7, none⟩ (.int .i64 e.t)) b e :=
  (((((((h.setK e.k).setG e.g).setO e.o).setW e.w).setL e.l).setS e.s).setF e.f).setT e.t
theorem grown_st (w : World) (g o : Nat) (v : Value) : w.grownBy (w.setCell ⟨g, o, none⟩ v) (some g) :=
  ⟨rfl, rfl, rfl, by simp, fun k _ hk => heap_setCell_other w ⟨g, o, none⟩ k v (fun e => hk (by simp [e]))⟩
theorem grown_tw {a b c : World} {row : Option Nat} (h : a.grownBy b row) (k : b.grownBy c row) : a.grownBy c row :=
  ⟨k.os.trans h.os, k.tape.trans h.tape, k.output.trans h.output, Nat.le_trans h.size k.size, fun i hi hne => (k.block i (Nat.lt_of_lt_of_le hi h.size) hne).trans (h.block i hi hne)⟩
theorem grown_st8 (w : World) (r : Nat) (v0 v1 v2 v3 v4 v5 v6 v7 : Value) :
    w.grownBy ((((((((w.setCell ⟨r, 0, none⟩ v0).setCell ⟨r, 1, none⟩ v1).setCell ⟨r, 2, none⟩ v2).setCell ⟨r, 3, none⟩ v3).setCell ⟨r, 4, none⟩ v4).setCell ⟨r, 5, none⟩ v5).setCell ⟨r, 6, none⟩ v6).setCell ⟨r, 7, none⟩ v7) (some r) :=
  grown_tw (grown_tw (grown_tw (grown_tw (grown_tw (grown_tw (grown_tw (grown_st _ r 0 _) (grown_st _ r 1 _)) (grown_st _ r 2 _)) (grown_st _ r 3 _)) (grown_st _ r 4 _)) (grown_st _ r 5 _)) (grown_st _ r 6 _)) (grown_st _ r 7 _)

theorem ownI_st {w : World} {base g cap n : Nat} {xs : List Int} (h : OwnI w base (.slice (some ⟨g, 0, none⟩) n cap) xs) (hn : n = xs.length) (j : Nat) (x : Int) (hx : I64 x) :
    OwnI (w.setCell ⟨g, j, none⟩ (.int .i64 x)) base (.slice (some ⟨g, 0, none⟩) n cap) (xs.set j x) ∧ w.grownBy (w.setCell ⟨g, j, none⟩ (.int .i64 x)) (some g) := by
  subst hn
  have hst := h.1.stored j (.int .i64 x)
  refine ⟨⟨?_, by simpa using h.2.1, fun y hy => ?_⟩, hst.2⟩
  · have e : (xs.set j x).map (Value.int .i64) = (xs.map (Value.int .i64)).set j (.int .i64 x) := by rw [List.map_set]
    rw [e, List.length_set]
    exact hst.1
  · rcases List.mem_or_eq_of_mem_set hy with hy | rfl
    · exact h.2.2 y hy
    · exact hx

def ReadC (bs : List Int) (p : Nat) (w : World) (x : Ending) (w' : World) : Prop :=
  Fr w w' ∧ ((∃ e q, rdEv bs p = .ok (e, q) ∧ x = .returned (.tuple #[.agg #[.int .i64 e.k, .int .i64 e.g, .int .i64 e.o, .int .i64 e.w, .int .i64 e.l, .int .i64 e.s, .int .i64 e.f, .int .i64 e.t], .int .i64 (q : Int), .int .i64 0])) ∨
    (∃ c y, rdEv bs p = .error c ∧ (c = 2 ∨ c = 3) ∧ x = .returned (.tuple #[.agg #[.int .i64 0, .int .i64 0, .int .i64 0, .int .i64 0, .int .i64 0, .int .i64 0, .int .i64 0, .int .i64 0], .int .i64 y, .int .i64 c])))

theorem rdEv_no {bs : List Int} {p : Nat} (h : rdN bs p = none) : rdEv bs p = .error 2 := by rw [rdEv, h]
theorem rdEv_kind {bs : List Int} {p q : Nat} {k : Int} (h : rdN bs p = some (k, q)) (hk : inB 1 22 k = false) : rdEv bs p = .error 3 := by
  rw [rdEv, h]; simp [hk]
theorem rdEv_seq {bs : List Int} {p q : Nat} {k : Int} (h : rdN bs p = some (k, q)) (hk : inB 1 22 k = true) (hs : rdSeq bs (offs k) q (ev0 k) = none) : rdEv bs p = .error 2 := by
  rw [rdEv, h]; simp [hk, hs]
theorem rdEv_fin {bs : List Int} {p q r : Nat} {k : Int} {e : Ev} (h : rdN bs p = some (k, q)) (hk : inB 1 22 k = true) (hs : rdSeq bs (offs k) q (ev0 k) = some (e, r)) : rdEv bs p = if evOk e then .ok (e, r) else .error 3 := by
  rw [rdEv, h]; simp [hk, hs]
theorem rdSeq_gor {bs : List Int} {q : Nat} {k : Int} (h : rdN bs q = none) : rdSeq bs (offs k) q (ev0 k) = none := by rw [offs, rdSeq, h]

end Go.Proofs.YtcofhmikdkkigaaGreatDoor
