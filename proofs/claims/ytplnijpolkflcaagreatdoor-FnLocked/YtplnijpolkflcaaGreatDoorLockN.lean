/-
  Two goroutines, one behind the other, under a lock that nobody has.
-/
import Derived.Test.YtplnijpolkflcaaGreatDoorLawO
namespace Go.Proofs.YtplnijpolkflcaaGreatDoor
open Go.RowKit

/-- A lock, a write under it, the lock given back; the lock, a write under it. -/
def fiveL (a b : Int) : List Ev := [⟨2, a, 9, 0, 0, 0, 0, 0⟩, ⟨21, a, 0, 0, 50, 2, 0, 0⟩, ⟨3, a, 9, 0, 0, 0, 0, 0⟩, ⟨2, b, 9, 0, 0, 0, 0, 0⟩, ⟨21, b, 0, 0, 51, 2, 0, 0⟩]
def fiveC (a b : Int) : Obj := .cells #[.int .i64 2, .int .i64 a, .int .i64 9, .int .i64 0, .int .i64 0, .int .i64 0, .int .i64 0, .int .i64 0, .int .i64 21, .int .i64 a, .int .i64 0, .int .i64 0, .int .i64 50, .int .i64 2, .int .i64 0, .int .i64 0, .int .i64 3, .int .i64 a, .int .i64 9, .int .i64 0, .int .i64 0, .int .i64 0, .int .i64 0, .int .i64 0, .int .i64 2, .int .i64 b, .int .i64 9, .int .i64 0, .int .i64 0, .int .i64 0, .int .i64 0, .int .i64 0, .int .i64 21, .int .i64 b, .int .i64 0, .int .i64 0, .int .i64 51, .int .i64 2, .int .i64 0, .int .i64 0] 31
theorem five_new (w : World) (a b : Int) : ∀ j u, ((fiveL a b).flatMap layEv.cs)[j]? = some u → (w.alloc (fiveC a b)).cell? ((⟨w.heap.size, 0, none⟩ : Addr).add j) = some u := by
  obtain ⟨g', c', e', oo, ll⟩ := ownG_lit layEv w (fiveL a b) (by simp [fiveL]) (fiveC a b) rfl
  simp only [Value.slice.injEq, Option.some.injEq, Addr.mk.injEq, and_true, true_and] at e'
  obtain ⟨rfl, rfl⟩ := e'
  exact news_of_reads (own_readsG oo ll)
theorem five_ok {g : Int} (hg : 0 ≤ g ∧ g ≤ 15) : evOk ⟨2, g, 9, 0, 0, 0, 0, 0⟩ = true ∧ evOk ⟨3, g, 9, 0, 0, 0, 0, 0⟩ = true ∧ evOk ⟨21, g, 0, 0, 50, 2, 0, 0⟩ = true ∧ evOk ⟨21, g, 0, 0, 51, 2, 0, 0⟩ = true := by
  refine ⟨?_, ?_, ?_, ?_⟩ <;> (simp only [evOk, ev1, ev2, ev3, ev4, ev5, ev6, Bool.and_eq_true]; simp [inB, hasB, fldV, fldN, fitB, hg, loV, hiV])
theorem lk_after {m : Scn} (hm : scB m = true) (l : Lk) : lockOf (setLk m l).ls l.o = if lkFree l = true then ⟨l.o, -1, []⟩ else l := by
  have := find_setL Lk.o l (lkFree l) m.ls (sc_rise hm).1 l.o
  rw [if_pos rfl] at this
  unfold lockOf setLk
  simp only [this]
  split <;> rfl
theorem nine_free {m : Scn} (h : LowL m) : lockOf m.ls 9 = ⟨9, -1, []⟩ := by
  unfold lockOf
  have : m.ls.find? (fun l => l.o == 9) = none := by
    rw [List.find?_eq_none]
    intro l hl
    have := h l hl
    simp
    omega
  rw [this]
  rfl
theorem code_lock {m : Scn} {a : Int} (hm : scB m = true) (ha : 0 ≤ a ∧ a < 3) (hg : 3 ≤ m.g) (h : lockOf m.ls 9 = ⟨9, -1, []⟩) : codeIn m ⟨2, a, 9, 0, 0, 0, 0, 0⟩ = 0 := by
  unfold codeIn
  rw [if_neg (by simp [five_ok (g := a) (by omega), hm]), if_neg (by unfold gorBad; simp only; omega)]
  unfold restCode lockCode
  simp [h]
theorem code_un {m : Scn} {a : Int} (hm : scB m = true) (ha : 0 ≤ a ∧ a < 3) (hg : 3 ≤ m.g) (h : (lockOf m.ls 9).wr = a) : codeIn m ⟨3, a, 9, 0, 0, 0, 0, 0⟩ = 0 := by
  unfold codeIn
  rw [if_neg (by simp [five_ok (g := a) (by omega), hm]), if_neg (by unfold gorBad; simp only; omega)]
  unfold restCode lockCode
  simp [h]
theorem code_wr {m : Scn} {a x : Int} (hm : scB m = true) (ha : 0 ≤ a ∧ a < 3) (hg : 3 ≤ m.g) (hx : x = 50 ∨ x = 51) : codeIn m ⟨21, a, 0, 0, x, 2, 0, 0⟩ = 0 := by
  have hok : evOk ⟨21, a, 0, 0, x, 2, 0, 0⟩ = true := by
    rcases hx with rfl | rfl
    · exact (five_ok (g := a) (by omega)).2.2.1
    · exact (five_ok (g := a) (by omega)).2.2.2
  unfold codeIn
  rw [if_neg (by simp [hok, hm]), if_neg (by unfold gorBad; simp only; omega)]
  unfold restCode
  simp
theorem leg_snoc2 {es : List Ev} {m0 m : Scn} {e : Ev} {n : Nat} (h : legS m0 es = (m, n, 0)) (hn : n = es.length) (hc : codeIn m e = 0) : legS m0 (es ++ [e]) = (doS m e, n + 1, 0) := by
  subst hn
  exact leg_snoc es m0 m h hc
theorem five_legal {es : List Ev} {m : Scn} {a b : Int} (h : legS scn0 es = (m, es.length, 0)) (hg : 3 ≤ m.g) (hlow : LowL m) (ha : 0 ≤ a ∧ a < 3) (hb : 0 ≤ b ∧ b < 3) : (legS scn0 (es ++ fiveL a b)).2.1 = (es ++ fiveL a b).length := by
  have hm : scB m = true := by
    have q := leg_ok es scn0 (by decide)
    rw [h] at q
    exact q
  have c1 := code_lock hm ha hg (nine_free hlow)
  have s1 := leg_snoc es scn0 m h c1
  have d1 : doS m ⟨2, a, 9, 0, 0, 0, 0, 0⟩ = setLk m ⟨9, a, []⟩ := by
    unfold doS lockTo
    simp [nine_free hlow]
  have m1 := do_ok c1
  rw [d1] at s1 m1
  have l1 : lockOf (setLk m ⟨9, a, []⟩).ls 9 = ⟨9, a, []⟩ := by
    have := lk_after hm ⟨9, a, []⟩
    rw [if_neg (by simp [lkFree]; omega)] at this
    exact this
  have g1 : 3 ≤ (setLk m ⟨9, a, []⟩).g := hg
  obtain ⟨M, hM⟩ : ∃ M, M = setLk m ⟨9, a, []⟩ := ⟨_, rfl⟩
  rw [← hM] at s1 m1 l1 g1
  clear hM d1 c1
  have c2 := code_wr (x := 50) m1 ha g1 (.inl rfl)
  have d2 : doS M ⟨21, a, 0, 0, 50, 2, 0, 0⟩ = M := by unfold doS; simp
  have s2 := leg_snoc2 s1 (by simp) c2
  rw [d2] at s2
  have c3 := code_un m1 ha g1 (by rw [l1])
  have d3 : doS M ⟨3, a, 9, 0, 0, 0, 0, 0⟩ = setLk M ⟨9, -1, []⟩ := by
    unfold doS lockTo
    simp [l1]
  have m3 := do_ok c3
  have s3 := leg_snoc2 s2 (by simp) c3
  rw [d3] at s3 m3
  have l3 : lockOf (setLk M ⟨9, -1, []⟩).ls 9 = ⟨9, -1, []⟩ := by
    have := lk_after m1 ⟨9, -1, []⟩
    rw [if_pos (by simp [lkFree])] at this
    exact this
  have g3 : 3 ≤ (setLk M ⟨9, -1, []⟩).g := g1
  obtain ⟨M3, hM3⟩ : ∃ M3, M3 = setLk M ⟨9, -1, []⟩ := ⟨_, rfl⟩
  rw [← hM3] at s3 m3 l3 g3
  clear hM3 d3 c3 s2 c2 d2 s1 m1 l1 g1
  have c4 := code_lock m3 hb g3 l3
  have s4 := leg_snoc2 s3 (by simp) c4
  have m4 := do_ok c4
  have g4 : 3 ≤ (doS M3 ⟨2, b, 9, 0, 0, 0, 0, 0⟩).g := by have := do_g M3 ⟨2, b, 9, 0, 0, 0, 0, 0⟩; omega
  have c5 := code_wr (x := 51) m4 hb g4 (.inr rfl)
  have s5 := leg_snoc2 s4 (by simp) c5
  have e : es ++ fiveL a b = es ++ [⟨2, a, 9, 0, 0, 0, 0, 0⟩] ++ [⟨21, a, 0, 0, 50, 2, 0, 0⟩] ++ [⟨3, a, 9, 0, 0, 0, 0, 0⟩] ++ [⟨2, b, 9, 0, 0, 0, 0, 0⟩] ++ [⟨21, b, 0, 0, 51, 2, 0, 0⟩] := by simp [fiveL]
  rw [e, s5]
  simp
theorem five_at (es : List Ev) (a b : Int) (i : Nat) (hi : i < 5) : evA (es ++ fiveL a b) (es.length + i) = (fiveL a b)[i]'(by simpa [fiveL] using hi) := by
  unfold evA
  rw [List.getD_eq_getElem?_getD, List.getElem?_append_right (by omega), Nat.add_sub_cancel_left, List.getElem?_eq_getElem (by simpa [fiveL] using hi)]
  rfl
/-- The write under the lock is before the later one. -/
theorem five_bef {es : List Ev} {m : Scn} {a b : Int} (h : legS scn0 es = (m, es.length, 0)) (hg : 3 ≤ m.g) (hlow : LowL m) (ha : 0 ≤ a ∧ a < 3) (hb : 0 ≤ b ∧ b < 3) (hl : es.length ≤ 210) : (rJ (es ++ fiveL a b) ((es.length + 4 : Nat) : Int)).2.testBit (es.length + 1) = true ∧ (rJ (es ++ fiveL a b) ((es.length + 1 : Nat) : Int)).2.testBit (es.length + 4) = false ∧ legLen (es ++ fiveL a b) = (es.length + 5 : Nat) := by
  have hleg := five_legal h hg hlow ha hb
  have hlen : (es ++ fiveL a b).length = es.length + 5 := by simp [fiveL]
  have e0 := five_at es a b
  obtain ⟨fs, hfs⟩ : ∃ fs, fs = es ++ fiveL a b := ⟨_, rfl⟩
  rw [← hfs] at hleg hlen e0 ⊢
  have eL : legLen fs = fs.length := by
    unfold legLen
    rw [if_neg (by omega), hleg]
  have ofg : ∀ i, i < fs.length → ofG fs i (evA fs i).g = true := fun i hi => by
    unfold ofG
    rw [evA_at hi]
    exact (gors_of (leg_at (es := fs) (k := i) hi (by omega)).2.1).1
  have v1 : evA fs (es.length + 1) = ⟨21, a, 0, 0, 50, 2, 0, 0⟩ := e0 1 (by omega)
  have v2 : evA fs (es.length + 2) = ⟨3, a, 9, 0, 0, 0, 0, 0⟩ := e0 2 (by omega)
  have v3 : evA fs (es.length + 3) = ⟨2, b, 9, 0, 0, 0, 0, 0⟩ := e0 3 (by omega)
  have v4 : evA fs (es.length + 4) = ⟨21, b, 0, 0, 51, 2, 0, 0⟩ := e0 4 (by omega)
  have o1 := ofg (es.length + 1) (by omega)
  have o2 := ofg (es.length + 2) (by omega)
  have o3 := ofg (es.length + 3) (by omega)
  have o4 := ofg (es.length + 4) (by omega)
  rw [v1] at o1
  rw [v2] at o2
  rw [v3] at o3
  rw [v4] at o4
  have b1 : Bef (edgeB fs) (es.length + 1) (es.length + 2) := same_gor fs a _ _ (by omega) o1 o2
  have b3 : Bef (edgeB fs) (es.length + 3) (es.length + 4) := same_gor fs b _ _ (by omega) o3 o4
  have b2 : Bef (edgeB fs) (es.length + 2) (es.length + 3) := by
    refine .edge (by omega) ?_
    unfold edgeB
    have t2 := touJ_yes (es := fs) (j := ((es.length + 2 : Nat) : Int)) ⟨by omega, by omega, by rw [Int.toNat_natCast]; omega⟩
    have t3 := touJ_yes (es := fs) (j := ((es.length + 3 : Nat) : Int)) ⟨by omega, by omega, by rw [Int.toNat_natCast]; omega⟩
    rw [evA_at (by omega)] at v2 v3
    simp only [Int.toNat_natCast] at t2 t3
    rw [v2] at t2
    rw [v3] at t3
    rw [t2, t3]
    have : meetsB (tchL ⟨3, a, 9, 0, 0, 0, 0, 0⟩ (slotE (fs.take (es.length + 2)) ⟨3, a, 9, 0, 0, 0, 0, 0⟩)) (tchL ⟨2, b, 9, 0, 0, 0, 0, 0⟩ (slotE (fs.take (es.length + 3)) ⟨2, b, 9, 0, 0, 0, 0, 0⟩)) = true := by
      simp [tchL, meetsB]
    rw [this]
    simp
  refine ⟨?_, ?_, by rw [eL, hlen]⟩
  · rw [rJ_at (by omega) hleg (by omega)]
    exact (befN_bit _ _ _).2 (bef_edges (by omega) hleg (by omega) ((b1.trans b2).trans b3))
  · rw [rJ_at (by omega) hleg (by omega)]
    exact befN_high _ (by omega)
end Go.Proofs.YtplnijpolkflcaaGreatDoor
