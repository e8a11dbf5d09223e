/-
  For the laws on the order of traces.
-/
import Derived.Test.YtplnijpolkflcaaGreatDoorPqBS
import Derived.Test.YtplnijpolkflcaaGreatDoorSpBefs
namespace Go.Proofs.YtplnijpolkflcaaGreatDoor
open Go.RowKit

theorem do_same (m : Scn) (e : Ev) (h : e.k ≠ 1) : (doS m e).g = m.g := by
  unfold doS
  rw [if_neg h]
  split
  · rfl
  · split
    · rfl
    · split
      · rfl
      · split
        · rfl
        · split
          · rfl
          · rfl
/-- Of a legal trace the first event is before the second one. -/
theorem first_bef {es : List Ev} (hl : es.length ≤ 300) (hleg : (legS scn0 es).2.1 = es.length) (h2 : 2 ≤ es.length) : Bef (eE es) 0 1 := by
  have e : legLen es = es.length := by
    unfold legLen
    rw [if_neg (by omega), hleg]
  obtain ⟨-, a2, -⟩ := leg_at (es := es) (k := 0) (by omega) (by omega)
  obtain ⟨-, b2, -⟩ := leg_at (es := es) (k := 1) (by omega) (by omega)
  have hs1 : (legS scn0 (es.take 1)).1 = doS scn0 es[0] := by
    have e1 : es.take 1 = [es[0]] := by
      rw [List.take_one, List.head?_eq_getElem?, List.getElem?_eq_getElem (by omega)]
      rfl
    rw [e1, leg_go (by simpa [legS] using a2)]
    rfl
  rw [hs1] at b2
  have a2 : codeIn scn0 es[0] = 0 := by simpa [legS] using a2
  have g0 := (gors_of a2).1
  have g1 := (gors_of b2).1
  obtain ⟨p1, -, p3, -⟩ := code_parts a2
  obtain ⟨q1, -, q3, -⟩ := code_parts b2
  obtain ⟨E0, h0⟩ : ∃ E, E = es[0] := ⟨_, rfl⟩
  obtain ⟨E1, h1⟩ : ∃ E, E = es[1] := ⟨_, rfl⟩
  have v0 : evA es 0 = E0 := by rw [h0]; exact evA_at (by omega)
  have v1 : evA es 1 = E1 := by rw [h1]; exact evA_at (by omega)
  rw [← h0] at a2 b2 g0 p1 p3 q3
  rw [← h1] at b2 g1 q1 q3
  refine .edge (by omega) ?_
  unfold eE
  rw [edN_bit hl (by omega), decide_eq_true (by omega), Bool.true_and]
  unfold edgeB
  rw [v0, v1]
  have n0 : E0.g = 0 := by
    unfold gorBad at p3
    simp only [scn0, not_or] at p3
    have := gors_in p1 ((memB_iff _ _).1 g0)
    omega
  have hlast : ∀ g, ofG es 0 g = true → lastG es 1 g = 0 := fun g hg => by
    unfold lastG
    rw [if_pos hg]
    rfl
  by_cases e1 : E1.g = 0
  · have : memB ((gorsL E1).map (lastG es 1)) ((0 : Nat) : Int) = true := by
      rw [memB_iff, List.mem_map]
      refine ⟨0, ?_, hlast 0 ?_⟩
      · rw [e1, memB_iff] at g1
        exact g1
      · unfold ofG
        rw [v0, ← n0]
        exact g0
    rw [this]
    rfl
  · have hk : E0.k = 1 ∧ E0.o = E1.g := by
      have hg1 := gors_in q1 ((memB_iff _ _).1 g1)
      by_cases k1 : E0.k = 1
      · have hg : (doS scn0 E0).g = 2 := by unfold doS; rw [if_pos k1]; rfl
        unfold gorBad at p3 q3
        simp only [scn0, not_or, not_and] at p3
        simp only [hg, not_or] at q3
        have := p3.2.1 k1
        exact ⟨k1, by omega⟩
      · have hg : (doS scn0 E0).g = 1 := do_same scn0 E0 k1
        unfold gorBad at q3
        simp only [hg, not_or] at q3
        omega
    have : memB (gorsL E1) E0.o = true := by rw [hk.2]; exact g1
    rw [this, hk.1]
    simp
/-- The answers at a place of a legal trace. -/
theorem rJ_at {es : List Ev} (hl : es.length ≤ 300) (hleg : (legS scn0 es).2.1 = es.length) {J : Nat} (hJ : J < es.length) : rJ es J = (edN es J, befN (eE es) J) := by
  unfold rJ
  rw [if_pos ⟨by omega, by unfold legLen; rw [if_neg (by omega), hleg]; omega⟩, Int.toNat_natCast]
theorem rsL_pop (N : Nat) : (rsL N).length = popS N := by
  unfold rsL popS
  rw [List.length_map]
theorem onceL_at {es : List Ev} (hl : es.length ≤ 300) (hleg : (legS scn0 es).2.1 = es.length) : onceL es = atO es es.length := by
  unfold onceL
  rw [if_pos hl, hleg]
theorem pop_bef (E : Nat → Nat → Bool) {j : Nat} (h : j ≤ 320) : popS (befN E j) = (bitsL j (befN E j)).length := by
  unfold popS
  rw [bitsL_low h (fun i hi => befN_high E hi)]
theorem pop_first {es : List Ev} (hl : es.length ≤ 300) (hleg : (legS scn0 es).2.1 = es.length) (h2 : 2 ≤ es.length) : popS (befN (eE es) 1) = 1 := by
  have h := (befN_bit (eE es) 1 0).2 (first_bef hl hleg h2)
  rw [pop_bef _ (by omega), bitsL_succ, if_pos h]
  simp [bitsL]
theorem once_first {es : List Ev} (hl : es.length ≤ 300) (hleg : (legS scn0 es).2.1 = es.length) (h2 : 2 ≤ es.length) : onceL (es.take 2) = 0 := by
  have e2 : (es.take 2).length = 2 := by simp; omega
  have hc := leg_cut hleg h2
  rw [onceL_at (by omega) hc, e2]
  have p1 := pop_first (es := es.take 2) (by omega) hc (by omega)
  have p0 : popS (befN (eE (es.take 2)) 0) = 0 := by
    rw [pop_bef _ (by omega)]
    simp [bitsL]
  simp only [atO, p0, p1]
  omega
theorem rsL_mem {N : Nat} {x : Int} : x ∈ rsL N ↔ ∃ i : Nat, x = i ∧ i < 320 ∧ N.testBit i = true := by
  unfold rsL
  rw [List.mem_map]
  constructor
  · rintro ⟨i, h1, rfl⟩
    obtain ⟨h2, h3⟩ := (bitsL_mem _ _ _).1 h1
    exact ⟨i, rfl, h2, h3⟩
  · rintro ⟨i, rfl, h2, h3⟩
    exact ⟨i, (bitsL_mem _ _ _).2 ⟨h2, h3⟩, rfl⟩
theorem bytes_below {w : World} {ao : Option Addr} {n : Nat} (h : ByteRow w ao n) : 0 < n → ∀ q, blk ao = some q → q < w.heap.size := fun hn q hq => by
  obtain ⟨b, off, e, hc⟩ := h 0 hn
  obtain ⟨x, q1, -⟩ := hc 0 hn
  have := World.block_lt_of_cell? w _ q1
  rw [e] at hq
  simp only [blk, Option.map_some, Option.some.injEq] at hq
  simp only at this
  omega
theorem roll_dx {w u : World} {ao : Option Addr} {n cap d : Nat} {hh : Int} (h : ByteRow w ao n) (D : Dice u d ao n cap 0 hh) (hd : w.heap.size ≤ d) (f : Fr w u) : DX u u d ao n cap := by
  refine ⟨grown_refl u _, ⟨0, hh, D⟩, fun i hi => ?_, fun q k hk => ?_⟩
  · obtain ⟨b, off, e, hc⟩ := h i hi
    exact ⟨b, off, e, fun j hj => by obtain ⟨x, q1, q2⟩ := hc j hj; exact ⟨x, f.cell q1, q2⟩⟩
  · have := bytes_below h q k hk
    omega
theorem bef_edges {es : List Ev} (hl : es.length ≤ 300) (hleg : (legS scn0 es).2.1 = es.length) {i K : Nat} (hK : K < es.length) (h : Bef (edgeB es) i K) : Bef (eE es) i K := h.cong2 fun a b h1 h2 => by
  unfold eE
  rw [edN_bit hl (by omega), decide_eq_true h1, Bool.true_and]
/-- What the law on the order asks of a legal trace. -/
theorem order_facts {es : List Ev} (hl : es.length ≤ 300) (hleg : (legS scn0 es).2.1 = es.length) {K : Nat} (hK : K < es.length) :
    (∀ x ∈ rsL (rJ es K).2, ∃ n : Nat, x = n ∧ n < K ∧ ∀ y ∈ rsL (rJ es n).2, memB (rsL (rJ es K).2) y = true) ∧ (∀ y ∈ rsL (rJ es K).1, memB (rsL (rJ es K).2) y = true) ∧ (∀ i, i < K → (evA es i).g = (evA es K).g → (rJ es K).2.testBit i = true) ∧ (rJ es K).2.testBit K = false := by
  rw [rJ_at hl hleg hK]
  refine ⟨fun x hx => ?_, fun y hy => ?_, fun i hi hg => ?_, befN_high _ (Nat.le_refl _)⟩
  · obtain ⟨n, rfl, h1, h2⟩ := rsL_mem.1 hx
    have hb := (befN_bit _ _ _).1 h2
    have hn := hb.lt
    refine ⟨n, rfl, hn, fun y hy => ?_⟩
    rw [rJ_at hl hleg (by omega)] at hy
    obtain ⟨q, rfl, h3, h4⟩ := rsL_mem.1 hy
    exact (memB_iff _ _).2 (rsL_mem.2 ⟨q, rfl, h3, (befN_bit _ _ _).2 (((befN_bit _ _ _).1 h4).trans hb)⟩)
  · obtain ⟨q, rfl, h3, h4⟩ := rsL_mem.1 hy
    have hq : q < K := by
      by_cases q1 : q < K
      · exact q1
      · simp only at h4
        rw [edN_bit hl (by omega), decide_eq_false q1, Bool.false_and] at h4
        cases h4
    exact (memB_iff _ _).2 (rsL_mem.2 ⟨q, rfl, h3, (befN_bit _ _ _).2 (.edge hq h4)⟩)
  · have e : legLen es = es.length := by
      unfold legLen
      rw [if_neg (by omega), hleg]
    have gi := (gors_of (leg_at (es := es) (k := i) (by omega) (by omega)).2.1).1
    have gK := (gors_of (leg_at (es := es) (k := K) hK (by omega)).2.1).1
    rw [← evA_at (by omega)] at gi
    rw [← evA_at hK, ← hg] at gK
    exact (befN_bit _ _ _).2 (bef_edges hl hleg hK (same_gor es _ K i hi gi gK))
end Go.Proofs.YtplnijpolkflcaaGreatDoor
