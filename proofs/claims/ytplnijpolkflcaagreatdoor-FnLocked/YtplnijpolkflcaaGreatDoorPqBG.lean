/-
  Pack BG: TchMod, TchAll, TchOf, OrdMod.
-/
import Derived.Test.YtplnijpolkflcaaGreatDoorPqAY
import Derived.Test.YtplnijpolkflcaaGreatDoorPqBA
import Derived.Test.YtplnijpolkflcaaGreatDoorPqBB
import Derived.Test.YtplnijpolkflcaaGreatDoorPqBC
import Derived.Test.YtplnijpolkflcaaGreatDoorPqBD
import Derived.Test.YtplnijpolkflcaaGreatDoorPqBF
import Derived.Test.YtplnijpolkflcaaGreatDoorPqAG
import Derived.Test.YtplnijpolkflcaaGreatDoorPqBE
namespace Go.Proofs.YtplnijpolkflcaaGreatDoor
open Go.RowKit

def ChAt (es : List Ev) (m : Scn) : Prop := ∀ o, (∀ c, m.cs.find? (fun c => c.o == o) = some c → c.cap = capK o es ∧ c.sent = cntK 7 o es ∧ c.got = cntK 8 o es) ∧ (m.cs.find? (fun c => c.o == o) = none → cntK 7 o es = 0 ∧ cntK 8 o es = 0)
theorem ChAt.nil : ChAt [] scn0 := fun o => ⟨fun c h => by simp [scn0] at h, fun _ => ⟨rfl, rfl⟩⟩
theorem chanOf_some {m : Scn} {o : Int} {c : Ch} (h : m.cs.find? (fun c => c.o == o) = some c) : chanOf m.cs o = c ∧ chanZ m o = c ∧ c.o = o := by
  refine ⟨by simp [chanOf, h], by simp [chanZ, h], ?_⟩
  have := List.find?_some h
  simpa using this
theorem code_chan {m : Scn} {e : Ev} (hc : codeIn m e = 0) (h6 : 6 ≤ e.k) (h11 : e.k ≤ 11) :
    (e.k = 6 → m.cs.find? (fun c => c.o == e.o) = none) ∧ (e.k ≠ 6 → ∃ c, m.cs.find? (fun c => c.o == e.o) = some c ∧ (e.k = 7 ∨ e.k = 8 → c.cap ≠ 0)) := by
  have hr : restCode m e = 0 := by
    unfold codeIn at hc
    split at hc
    · simp at hc
    · split at hc
      · simp at hc
      · exact hc
  unfold restCode at hr
  rw [if_neg (by omega), if_pos ⟨h6, h11⟩] at hr
  unfold chanCode at hr
  split at hr
  · simp at hr
  · rename_i h1
    split at hr
    · simp at hr
    · rename_i h2
      refine ⟨fun h => ?_, fun h => ?_⟩
      · simp only [h, decide_true, isChan] at h1
        cases hf : m.cs.find? (fun c => c.o == e.o) with
        | none => rfl
        | some c => simp [hf] at h1
      · simp only [h, decide_false, isChan] at h1
        cases hf : m.cs.find? (fun c => c.o == e.o) with
        | none => simp [hf] at h1
        | some c =>
          refine ⟨c, rfl, fun h78 h0 => h2 (.inl ⟨h78, ?_⟩)⟩
          rw [(chanOf_some hf).1]
          exact h0
theorem ChAt.step {es : List Ev} {m : Scn} {e : Ev} (h : ChAt es m) (hc : codeIn m e = 0) : ChAt (es ++ [e]) (doS m e) := by
  have hm := (code_parts hc).2.1
  have hr := (sc_rise hm).2.1
  intro o
  rw [capK_one, cntK_one, cntK_one]
  have h0 := h o
  by_cases hk : 6 ≤ e.k ∧ e.k ≤ 8 ∨ e.k = 10
  · have ed : (doS m e).cs = setL Ch.o (chanTo m e) false m.cs := by
      unfold doS
      rw [if_neg (by omega), if_neg (by omega), if_pos hk]
      rfl
    have ho : (chanTo m e).o = e.o := by
      have q : (chanOf m.cs e.o).o = e.o := by
        unfold chanOf
        cases hf : m.cs.find? (fun c => c.o == e.o) with
        | none => rfl
        | some c => exact (chanOf_some hf).2.2
      unfold chanTo
      split
      · exact q
      · split
        · exact q
        · split
          · exact q
          · exact q
    have hq := code_chan hc (by omega) (by omega)
    rw [ed, find_setL Ch.o (chanTo m e) false m.cs hr o, ho]
    by_cases hoo : o = e.o
    · subst hoo
      simp only [if_true]
      refine ⟨fun c hcc => ?_, fun q => by simp at q⟩
      simp only [Bool.false_eq_true, if_false, Option.some.injEq] at hcc
      subst hcc
      by_cases h6 : e.k = 6
      · have hn := h0.2 (hq.1 h6)
        have e1 : chanOf m.cs e.o = ⟨e.o, 0, 0, 0, false⟩ := by simp [chanOf, hq.1 h6]
        simp [chanTo, h6, e1, hn.1, hn.2]
      · obtain ⟨c, hf, -⟩ := hq.2 h6
        have hs := h0.1 c hf
        have e1 := (chanOf_some hf).1
        unfold chanTo
        rw [e1, if_neg h6]
        by_cases h7 : e.k = 7
        · simp [h7, hs.1, hs.2.1, hs.2.2]
        · by_cases h8 : e.k = 8
          · simp [h8, hs.1, hs.2.1, hs.2.2]
          · simp [h6, h7, h8, hs.1, hs.2.1, hs.2.2]
    · have hne : ¬ e.o = o := fun q => hoo q.symm
      simp only [hoo, hne, if_false, false_and, Nat.add_zero]
      exact h0
  · have ed : (doS m e).cs = m.cs := by
      unfold doS
      split
      · rfl
      · split
        · rfl
        · first | rw [if_neg hk] | skip
          split
          · rfl
          · split
            · rfl
            · split
              · rfl
              · rfl
    rw [ed, if_neg (by omega), if_neg (by omega), if_neg (by omega)]
    exact h0
theorem ChAt.leg : ∀ (es pre : List Ev) (m : Scn), ChAt pre m → (legS m es).2.2 = 0 → ChAt (pre ++ es) (legS m es).1
  | [], pre, m, h, _ => by simpa [legS] using h
  | e :: es, pre, m, h, hl => by
    by_cases q : codeIn m e = 0
    · rw [leg_go q] at hl ⊢
      have := ChAt.leg es (pre ++ [e]) (doS m e) (h.step q) hl
      simpa using this
    · rw [leg_no q] at hl
      exact absurd hl q

def slotC (m : Scn) (e : Ev) : Int := (if e.k = 8 then (chanZ m e.o).got else (chanZ m e.o).sent).tmod (chanZ m e.o).cap
def touJ (es : List Ev) (j : Int) : List Tch :=
  if h : 0 ≤ j ∧ j < legLen es ∧ j.toNat < es.length then tchL es[j.toNat] (slotE (es.take j.toNat) es[j.toNat]) else []
theorem slot_same {es : List Ev} {m : Scn} {e : Ev} (h : ChAt es m) (hc : codeIn m e = 0) (hk : e.k = 7 ∨ e.k = 8) : slotC m e = slotE es e ∧ capK e.o es ≠ 0 := by
  obtain ⟨c, hf, h0⟩ := (code_chan hc (by omega) (by omega)).2 (by omega)
  have h1 := (h e.o).1 c hf
  have e1 := (chanOf_some hf).2.1
  refine ⟨?_, by rw [← h1.1]; exact h0 hk⟩
  unfold slotC slotE
  rw [e1, h1.1]
  rcases hk with hk | hk
  · rw [if_neg (by omega), h1.2.1, hk]
  · rw [if_pos hk, h1.2.2, hk]
theorem tch_same {es : List Ev} {m : Scn} {e : Ev} (h : ChAt es m) (hc : codeIn m e = 0) : tchL e (slotC m e) = tchL e (slotE es e) := by
  by_cases hk : e.k = 7 ∨ e.k = 8
  · rw [(slot_same h hc hk).1]
  · unfold tchL
    simp only [hk, if_false]
end Go.Proofs.YtplnijpolkflcaaGreatDoor
namespace Go.Proofs.YtplnijpolkflcaaGreatDoor
open Go.RowKit

set_option maxHeartbeats 1000000 in
theorem l6Touches_any (ao : Option Addr) (n c : Nat) (es : List Ev) (w : World) (hn : es.length = n) (h : ReadsE w ao es) (j : Nat) (hj : j < es.length) (hk : 1 ≤ es[j].k ∧ es[j].k ≤ 22) (hr : es[j].k = 7 ∨ es[j].k = 8 → capK es[j].o (es.take j) ≠ 0) :
    Calls Tryz.prog 163 #[.slice ao n c, .int .i64 j] w fun x w' => ∃ v, x = .returned v ∧ OwnG layT w' w.heap.size v (tchL es[j] (slotE (es.take j) es[j])) ∧ Fr w w' := by
  obtain ⟨E, hE⟩ : ∃ E, E = es[j] := ⟨_, rfl⟩
  have hr2 : es[j].k = 7 ∨ es[j].k = 8 → capK es[j].o (es.take j) ≠ 0 := hr
  rw [← hE] at hk hr
  obtain ⟨k, fg, fo, fw, fl, fs, ff, ft⟩ := E
  simp only at hk hr
  have hr : k = 7 ∨ k = 8 → capK es[j].o (es.take j) ≠ 0 := fun q => hr2 (by rw [← hE]; exact q)
  clear hr2
  have hcs : k = 1 ∨ k = 2 ∨ k = 3 ∨ k = 4 ∨ k = 5 ∨ k = 6 ∨ k = 7 ∨ k = 8 ∨ k = 9 ∨ k = 10 ∨ k = 11 ∨ k = 12 ∨ k = 13 ∨ k = 14 ∨ k = 15 ∨ k = 16 ∨ k = 17 ∨ k = 18 ∨ k = 19 ∨ k = 20 ∨ k = 21 ∨ k = 22 := by omega
  have e0 : tchL es[j] (slotE (es.take j) es[j]) = tchL ⟨k, fg, fo, fw, fl, fs, ff, ft⟩ (slotE (es.take j) es[j]) := by rw [← hE]
  rw [e0]
  clear e0 hk
  rcases hcs with rfl | rfl | rfl | rfl | rfl | rfl | rfl | rfl | rfl | rfl | rfl | rfl | rfl | rfl | rfl | rfl | rfl | rfl | rfl | rfl | rfl | rfl
  · have e1 := l6T_1 fg fo fw fl fs ff ft ao n c es w hn h j hj hE.symm
    simpa [tchL] using e1
  · have e1 := l6T_2 fg fo fw fl fs ff ft ao n c es w hn h j hj hE.symm
    simpa [tchL] using e1
  · have e1 := l6T_3 fg fo fw fl fs ff ft ao n c es w hn h j hj hE.symm
    simpa [tchL] using e1
  · have e1 := l6T_4 fg fo fw fl fs ff ft ao n c es w hn h j hj hE.symm
    simpa [tchL] using e1
  · have e1 := l6T_5 fg fo fw fl fs ff ft ao n c es w hn h j hj hE.symm
    simpa [tchL] using e1
  · have e1 := l6T_6 fg fo fw fl fs ff ft ao n c es w hn h j hj hE.symm
    simpa [tchL] using e1
  · have e1 := l6T_7 fg fo fw fl fs ff ft ao n c es w hn h j hj hE.symm (hr (by simp))
    simpa [tchL] using e1
  · have e1 := l6T_8 fg fo fw fl fs ff ft ao n c es w hn h j hj hE.symm (hr (by simp))
    simpa [tchL] using e1
  · have e1 := l6T_9 fg fo fw fl fs ff ft ao n c es w hn h j hj hE.symm
    simpa [tchL] using e1
  · have e1 := l6T_10 fg fo fw fl fs ff ft ao n c es w hn h j hj hE.symm
    simpa [tchL] using e1
  · have e1 := l6T_11 fg fo fw fl fs ff ft ao n c es w hn h j hj hE.symm
    simpa [tchL] using e1
  · have e1 := l6T_12 fg fo fw fl fs ff ft ao n c es w hn h j hj hE.symm
    simpa [tchL] using e1
  · have e1 := l6T_13 fg fo fw fl fs ff ft ao n c es w hn h j hj hE.symm
    simpa [tchL] using e1
  · have e1 := l6T_14 fg fo fw fl fs ff ft ao n c es w hn h j hj hE.symm
    simpa [tchL] using e1
  · have e1 := l6T_15 fg fo fw fl fs ff ft ao n c es w hn h j hj hE.symm
    simpa [tchL] using e1
  · have e1 := l6T_16 fg fo fw fl fs ff ft ao n c es w hn h j hj hE.symm
    simpa [tchL] using e1
  · have e1 := l6T_17 fg fo fw fl fs ff ft ao n c es w hn h j hj hE.symm
    simpa [tchL] using e1
  · have e1 := l6T_18 fg fo fw fl fs ff ft ao n c es w hn h j hj hE.symm
    simpa [tchL] using e1
  · have e1 := l6T_19 fg fo fw fl fs ff ft ao n c es w hn h j hj hE.symm
    simpa [tchL] using e1
  · have e1 := l6T_20 fg fo fw fl fs ff ft ao n c es w hn h j hj hE.symm
    simpa [tchL] using e1
  · have e1 := l6T_21 fg fo fw fl fs ff ft ao n c es w hn h j hj hE.symm
    simpa [tchL] using e1
  · have e1 := l6T_22 fg fo fw fl fs ff ft ao n c es w hn h j hj hE.symm
    simpa [tchL] using e1

set_option maxHeartbeats 1000000 in
theorem touches_any {B : Nat → Prop} {b b1 b2 b3 b4 n : Nat} {m : Scn} (e : Ev) (w : World) (h : BoardM B w b b1 b2 b3 b4 n m) (hc : codeIn m e = 0) :
    Calls Tryz.prog 188 #[.pointer (some ⟨b, 0, none⟩), .agg #[.int .i64 e.k, .int .i64 e.g, .int .i64 e.o, .int .i64 e.w, .int .i64 e.l, .int .i64 e.s, .int .i64 e.f, .int .i64 e.t]] w fun x w' => ∃ v, x = .returned v ∧ OwnG layT w' w.heap.size v (tchL e (slotC m e)) ∧ Fr w w' := by
  have hp := code_parts hc
  have ho := evOk_o hp.1
  have hL := h.lookC (o := e.o) (i64_small (by omega))
  have hk : 1 ≤ e.k ∧ e.k ≤ 22 := by
    have h1 := hp.1
    simp only [evOk, Bool.and_eq_true] at h1
    simpa [inB] using h1.1.1.1.1.1.1.1
  have hs : e.k = 7 ∨ e.k = 8 → (chanZ m e.o).cap ≠ 0 ∧ (0 ≤ (chanZ m e.o).got ∧ 0 ≤ (chanZ m e.o).sent ∧ (chanZ m e.o).got ≤ 1000000 ∧ (chanZ m e.o).sent ≤ 1000000 ∧ 0 ≤ (chanZ m e.o).cap ∧ (chanZ m e.o).cap ≤ 8) := by
    intro q
    obtain ⟨c, hf, h0⟩ := (code_chan hc (by omega) (by omega)).2 (by omega)
    have q1 := chan_in hp.2.1 e.o
    rw [(chanOf_some hf).1] at q1
    rw [(chanOf_some hf).2.1]
    exact ⟨h0 q, by omega⟩
  clear hp ho hc
  obtain ⟨k, gr, o, wi, l, sz, f, t⟩ := e
  simp only at hL hk hs ⊢
  have hcs : k = 1 ∨ k = 2 ∨ k = 3 ∨ k = 4 ∨ k = 5 ∨ k = 6 ∨ k = 7 ∨ k = 8 ∨ k = 9 ∨ k = 10 ∨ k = 11 ∨ k = 12 ∨ k = 13 ∨ k = 14 ∨ k = 15 ∨ k = 16 ∨ k = 17 ∨ k = 18 ∨ k = 19 ∨ k = 20 ∨ k = 21 ∨ k = 22 := by omega
  clear hk
  rcases hcs with rfl | rfl | rfl | rfl | rfl | rfl | rfl | rfl | rfl | rfl | rfl | rfl | rfl | rfl | rfl | rfl | rfl | rfl | rfl | rfl | rfl | rfl
  · have e1 := tchI_1 b b2 (chanZ m o).o (chanZ m o).cap (chanZ m o).sent (chanZ m o).got (chanZ m o).cl gr o wi l sz f t w h.c2 hL
    simpa [tchL] using e1
  · have e1 := tchI_2 b b2 (chanZ m o).o (chanZ m o).cap (chanZ m o).sent (chanZ m o).got (chanZ m o).cl gr o wi l sz f t w h.c2 hL
    simpa [tchL] using e1
  · have e1 := tchI_3 b b2 (chanZ m o).o (chanZ m o).cap (chanZ m o).sent (chanZ m o).got (chanZ m o).cl gr o wi l sz f t w h.c2 hL
    simpa [tchL] using e1
  · have e1 := tchI_4 b b2 (chanZ m o).o (chanZ m o).cap (chanZ m o).sent (chanZ m o).got (chanZ m o).cl gr o wi l sz f t w h.c2 hL
    simpa [tchL] using e1
  · have e1 := tchI_5 b b2 (chanZ m o).o (chanZ m o).cap (chanZ m o).sent (chanZ m o).got (chanZ m o).cl gr o wi l sz f t w h.c2 hL
    simpa [tchL] using e1
  · have e1 := tchI_6 b b2 (chanZ m o).o (chanZ m o).cap (chanZ m o).sent (chanZ m o).got (chanZ m o).cl gr o wi l sz f t w h.c2 hL
    simpa [tchL] using e1
  · obtain ⟨s1, s2⟩ := hs (by simp)
    have e1 := tchI_7 b b2 (chanZ m o).o (chanZ m o).cap (chanZ m o).sent (chanZ m o).got (chanZ m o).cl gr o wi l sz f t w h.c2 s1 s2 hL
    have e2 : slotC m ⟨7, gr, o, wi, l, sz, f, t⟩ = (chanZ m o).sent % (chanZ m o).cap := by
      simp only [slotC]
      first | rw [if_neg (by decide)] | rw [if_pos trivial]
      exact Int.tmod_eq_emod_of_nonneg (by omega)
    rw [e2]
    simpa [tchL] using e1
  · obtain ⟨s1, s2⟩ := hs (by simp)
    have e1 := tchI_8 b b2 (chanZ m o).o (chanZ m o).cap (chanZ m o).sent (chanZ m o).got (chanZ m o).cl gr o wi l sz f t w h.c2 s1 s2 hL
    have e2 : slotC m ⟨8, gr, o, wi, l, sz, f, t⟩ = (chanZ m o).got % (chanZ m o).cap := by
      simp only [slotC]
      first | rw [if_neg (by decide)] | rw [if_pos trivial]
      exact Int.tmod_eq_emod_of_nonneg (by omega)
    rw [e2]
    simpa [tchL] using e1
  · have e1 := tchI_9 b b2 (chanZ m o).o (chanZ m o).cap (chanZ m o).sent (chanZ m o).got (chanZ m o).cl gr o wi l sz f t w h.c2 hL
    simpa [tchL] using e1
  · have e1 := tchI_10 b b2 (chanZ m o).o (chanZ m o).cap (chanZ m o).sent (chanZ m o).got (chanZ m o).cl gr o wi l sz f t w h.c2 hL
    simpa [tchL] using e1
  · have e1 := tchI_11 b b2 (chanZ m o).o (chanZ m o).cap (chanZ m o).sent (chanZ m o).got (chanZ m o).cl gr o wi l sz f t w h.c2 hL
    simpa [tchL] using e1
  · have e1 := tchI_12 b b2 (chanZ m o).o (chanZ m o).cap (chanZ m o).sent (chanZ m o).got (chanZ m o).cl gr o wi l sz f t w h.c2 hL
    simpa [tchL] using e1
  · have e1 := tchI_13 b b2 (chanZ m o).o (chanZ m o).cap (chanZ m o).sent (chanZ m o).got (chanZ m o).cl gr o wi l sz f t w h.c2 hL
    simpa [tchL] using e1
  · have e1 := tchI_14 b b2 (chanZ m o).o (chanZ m o).cap (chanZ m o).sent (chanZ m o).got (chanZ m o).cl gr o wi l sz f t w h.c2 hL
    simpa [tchL] using e1
  · have e1 := tchI_15 b b2 (chanZ m o).o (chanZ m o).cap (chanZ m o).sent (chanZ m o).got (chanZ m o).cl gr o wi l sz f t w h.c2 hL
    simpa [tchL] using e1
  · have e1 := tchI_16 b b2 (chanZ m o).o (chanZ m o).cap (chanZ m o).sent (chanZ m o).got (chanZ m o).cl gr o wi l sz f t w h.c2 hL
    simpa [tchL] using e1
  · have e1 := tchI_17 b b2 (chanZ m o).o (chanZ m o).cap (chanZ m o).sent (chanZ m o).got (chanZ m o).cl gr o wi l sz f t w h.c2 hL
    simpa [tchL] using e1
  · have e1 := tchI_18 b b2 (chanZ m o).o (chanZ m o).cap (chanZ m o).sent (chanZ m o).got (chanZ m o).cl gr o wi l sz f t w h.c2 hL
    simpa [tchL] using e1
  · have e1 := tchI_19 b b2 (chanZ m o).o (chanZ m o).cap (chanZ m o).sent (chanZ m o).got (chanZ m o).cl gr o wi l sz f t w h.c2 hL
    simpa [tchL] using e1
  · have e1 := tchI_20 b b2 (chanZ m o).o (chanZ m o).cap (chanZ m o).sent (chanZ m o).got (chanZ m o).cl gr o wi l sz f t w h.c2 hL
    simpa [tchL] using e1
  · have e1 := tchI_21 b b2 (chanZ m o).o (chanZ m o).cap (chanZ m o).sent (chanZ m o).got (chanZ m o).cl gr o wi l sz f t w h.c2 hL
    simpa [tchL] using e1
  · have e1 := tchI_22 b b2 (chanZ m o).o (chanZ m o).cap (chanZ m o).sent (chanZ m o).got (chanZ m o).cl gr o wi l sz f t w h.c2 hL
    simpa [tchL] using e1

theorem leg_more : ∀ (es : List Ev) (m : Scn) (k : Nat) (h : k < es.length), (legS m (es.take k)).2.2 = 0 → codeIn (legS m (es.take k)).1 es[k] = 0 → k < (legS m es).2.1
  | [], _, _, h, _, _ => by simp at h
  | e :: es, m, 0, _, _, h2 => by
    simp only [List.take_zero, legS, List.getElem_cons_zero] at h2
    rw [leg_go h2]
    simp
  | e :: es, m, k + 1, h, h1, h2 => by
    rw [List.take_succ_cons] at h1 h2
    by_cases q : codeIn m e = 0
    · rw [leg_go q] at h1 h2 ⊢
      simp only [List.getElem_cons_succ] at h1 h2 ⊢
      have := leg_more es (doS m e) k (by simpa using h) h1 h2
      omega
    · rw [leg_no q] at h1
      exact absurd h1 q
end Go.Proofs.YtplnijpolkflcaaGreatDoor
namespace Go.Proofs.YtplnijpolkflcaaGreatDoor
open Go.RowKit

theorem touJ_yes {es : List Ev} {j : Int} (h : 0 ≤ j ∧ j < legLen es ∧ j.toNat < es.length) : touJ es j = tchL (es[j.toNat]'h.2.2) (slotE (es.take j.toNat) (es[j.toNat]'h.2.2)) := by
  unfold touJ
  rw [dif_pos h]
theorem legLen_le (es : List Ev) : legLen es ≤ es.length := by
  unfold legLen
  split
  · omega
  · have := leg_len es scn0
    omega
theorem leg_at {es : List Ev} {k : Nat} (hk : k < es.length) (h : (k : Int) < legLen es) : (legS scn0 (es.take k)).2.2 = 0 ∧ codeIn (legS scn0 (es.take k)).1 es[k] = 0 ∧ es.length ≤ 300 := by
  unfold legLen at h
  split at h
  · omega
  · have h1 := leg_part es scn0 k (by omega)
    exact ⟨h1.2.1, h1.2.2 hk (by omega), by omega⟩
theorem code_kind {m : Scn} {e : Ev} (hc : codeIn m e = 0) : 1 ≤ e.k ∧ e.k ≤ 22 := by
  have h1 := (code_parts hc).1
  simp only [evOk, Bool.and_eq_true] at h1
  simpa [inB] using h1.1.1.1.1.1.1.1

end Go.Proofs.YtplnijpolkflcaaGreatDoor
namespace Go.Proofs.YtplnijpolkflcaaGreatDoor
open Go.RowKit

inductive Bef (E : Nat → Nat → Bool) : Nat → Nat → Prop
  | edge {i j : Nat} (h : i < j) (e : E i j = true) : Bef E i j
  | more {q i j : Nat} (b : Bef E q i) (h : i < j) (e : E i j = true) : Bef E q j
theorem Bef.lt {E : Nat → Nat → Bool} {i j : Nat} (h : Bef E i j) : i < j := by
  induction h with
  | edge h _ => exact h
  | more _ h _ ih => omega
theorem Bef.trans {E : Nat → Nat → Bool} {q i j : Nat} (h : Bef E q i) (k : Bef E i j) : Bef E q j := by
  induction k with
  | edge l e => exact .more h l e
  | more _ l e ih => exact .more ih l e
theorem Bef.last {E : Nat → Nat → Bool} {i j : Nat} (h : Bef E i j) : ∃ l, l < j ∧ E l j = true ∧ (l = i ∨ Bef E i l) := by
  cases h with
  | edge h e => exact ⟨i, h, e, .inl rfl⟩
  | more b h e => exact ⟨_, h, e, .inr b⟩
theorem bef_iff {E : Nat → Nat → Bool} {i j : Nat} : Bef E i j ↔ ∃ l, l < j ∧ E l j = true ∧ (l = i ∨ Bef E i l) := by
  refine ⟨Bef.last, ?_⟩
  rintro ⟨l, h, e, rfl | b⟩
  · exact .edge h e
  · exact .more b h e

def evA (es : List Ev) (i : Nat) : Ev := es.getD i ⟨0, 0, 0, 0, 0, 0, 0, 0⟩
theorem evA_at {es : List Ev} {i : Nat} (h : i < es.length) : evA es i = es[i] := by
  unfold evA
  rw [List.getD_eq_getElem?_getD, List.getElem?_eq_getElem h]
  rfl
def ofG (es : List Ev) (i : Nat) (g : Int) : Bool := memB (gorsL (evA es i)) g
def lastG (es : List Ev) : Nat → Int → Int
  | 0, _ => -1
  | j + 1, g => if ofG es j g = true then (j : Int) else lastG es j g
theorem lastG_lt (es : List Ev) (g : Int) : ∀ j, -1 ≤ lastG es j g ∧ lastG es j g < j
  | 0 => ⟨by simp [lastG], by simp [lastG]⟩
  | j + 1 => by
    have ih := lastG_lt es g j
    unfold lastG
    split
    · exact ⟨by omega, by omega⟩
    · exact ⟨ih.1, by omega⟩
theorem lastG_of (es : List Ev) (g : Int) : ∀ j i, i < j → ofG es i g = true → ∃ l : Nat, lastG es j g = l ∧ i ≤ l ∧ l < j ∧ ofG es l g = true
  | 0, i, h, _ => by omega
  | j + 1, i, h, hi => by
    unfold lastG
    by_cases q : ofG es j g = true
    · rw [if_pos q]
      exact ⟨j, rfl, by omega, by omega, q⟩
    · rw [if_neg q]
      have hij : i < j := by
        rcases Nat.lt_or_ge i j with p | p
        · exact p
        · have : i = j := by omega
          subst this
          exact absurd hi q
      obtain ⟨l, a, b, c, d⟩ := lastG_of es g j i hij hi
      exact ⟨l, a, b, by omega, d⟩
def meetsB (a b : List Tch) : Bool := a.any fun x => b.any fun y => x.gv && y.tk && x.sp == y.sp && x.ob == y.ob && x.sl == y.sl
def edgeB (es : List Ev) (i j : Nat) : Bool := memB ((gorsL (evA es j)).map (lastG es j)) i || ((evA es i).k == 1 && memB (gorsL (evA es j)) (evA es i).o) || meetsB (touJ es i) (touJ es j)
def edgesL (es : List Ev) (j : Nat) : List Int := ((List.range j).filter fun i => edgeB es i j).map fun i : Nat => (i : Int)
theorem same_gor (es : List Ev) (g : Int) : ∀ j i, i < j → ofG es i g = true → ofG es j g = true → Bef (edgeB es) i j := by
  intro j
  induction j using Nat.strongRecOn with
  | _ j ih =>
    intro i hij hi hj
    obtain ⟨l, e, h1, h2, h3⟩ := lastG_of es g j i hij hi
    have hE : edgeB es l j = true := by
      have hm : memB ((gorsL (evA es j)).map (lastG es j)) l = true := by
        rw [memB, List.any_eq_true]
        have hg : g ∈ gorsL (evA es j) := by
          have := hj
          unfold ofG at this
          rw [memB, List.any_eq_true] at this
          obtain ⟨x, hx, hb⟩ := this
          simp only [beq_iff_eq] at hb
          exact hb ▸ hx
        exact ⟨lastG es j g, List.mem_map_of_mem hg, by rw [e]; simp⟩
      unfold edgeB
      rw [hm]
      rfl
    by_cases q : l = i
    · subst q
      exact .edge h2 hE
    · exact .more (ih l h2 i (by omega) hi h3) h2 hE
end Go.Proofs.YtplnijpolkflcaaGreatDoor
