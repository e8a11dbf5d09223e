/-
  The program's IsRace and IsShort.
-/
import Derived.Test.YtcofhmikdkkigaaGreatDoorIsPair
namespace Go.Proofs.YtcofhmikdkkigaaGreatDoor
open Go.RowKit

theorem pairsJ_has {es : List Ev} {lk : List Bool} {near : Bool} {I J : Nat} (h : I < J) : hasP (pairsJ es lk near J) I J = pairB es lk near J I := by
  rw [Bool.eq_iff_iff, hasP_iff]
  unfold pairsJ
  simp only [List.mem_map, List.mem_filter, List.mem_range, Prod.mk.injEq]
  constructor
  · rintro ⟨k, ⟨h1, h2⟩, h3, -⟩
    have : k = I := by omega
    rw [this] at h2
    exact h2
  · intro h2
    exact ⟨I, ⟨h, h2⟩, rfl, trivial⟩
theorem has_all {es : List Ev} {lk : List Bool} {near : Bool} {i j : Int} : hasP (pairsL (lpL es) lk near (lpL es).length) i j = true ↔ 0 ≤ i ∧ i < j ∧ j < (lpL es).length ∧ pairB (lpL es) lk near j.toNat i.toNat = true := by
  rw [hasP_iff, pairsL_mem]
theorem has_in {es : List Ev} {lk : List Bool} {near : Bool} {I J : Nat} (h : I < J) : hasP (pairsL (lpL es) lk near (lpL es).length) I J = (claB (evA es I) (evA es J) && (decide (J < (lpL es).length) && hasP (pairsJ es lk near J) I J)) := by
  rw [Bool.eq_iff_iff, has_all, pairsJ_has h]
  simp only [Bool.and_eq_true, decide_eq_true_eq, Int.toNat_natCast]
  constructor
  · rintro ⟨-, -, h3, h4⟩
    have h5 : J < (lpL es).length := by omega
    rw [pairB_congr (fun k hk => evA_lp (by omega)) (bef_lp h5) h] at h4
    refine ⟨?_, h5, h4⟩
    unfold pairB at h4
    simp only [Bool.and_eq_true] at h4
    exact h4.1.1.2
  · rintro ⟨-, h5, h4⟩
    refine ⟨by omega, by omega, by omega, ?_⟩
    rw [pairB_congr (fun k hk => evA_lp (by omega)) (bef_lp h5) h]
    exact h4
theorem has_no {es : List Ev} {lk : List Bool} {near : Bool} {i j : Int} (h : ¬ (0 ≤ i ∧ i < j ∧ j < (lpL es).length)) : hasP (pairsL (lpL es) lk near (lpL es).length) i j = false := by
  cases hv : hasP (pairsL (lpL es) lk near (lpL es).length) i j
  · rfl
  · have := has_all.1 hv
    exact absurd ⟨this.1, this.2.1, this.2.2.1⟩ h
theorem lp_le (es : List Ev) : (lpL es).length ≤ es.length := by unfold lpL; rw [List.length_take]; omega

/-- isPairIn at whatever pair, with whatever sieve. -/
theorem isPair_any (near : Bool) (gb off n c : Nat) (es : List Ev) (lk : List Bool) (i j : Int) (sv : Value) (w : World) (S : Nat → Prop) (hn : es.length = n) (hnc : n ≤ c) (h : ReadsE w (some ⟨gb, off, none⟩) es) (hs : Shapes w) (hab : gb < w.heap.size) (hS : ∀ b, S b → b < w.heap.size)
    (cI : ∀ J, J < (lpL es).length → ∀ u, Fr w u → Calls Tryz.prog 131 #[.slice (some ⟨gb, off, none⟩) n c, .int .i64 (J : Int), .agg #[.int .u64 (wd (befN (eE es) J) 0), .int .u64 (wd (befN (eE es) J) 1), .int .u64 (wd (befN (eE es) J) 2), .int .u64 (wd (befN (eE es) J) 3), .int .u64 (wd (befN (eE es) J) 4)], sv] u fun x w' => ∃ y, x = .returned y ∧ OwnG layPr w' u.heap.size y (pairsJ es lk near J) ∧ FrS S u w') :
    Calls Tryz.prog 82 #[.slice (some ⟨gb, off, none⟩) n c, .agg #[.int .i64 i, .int .i64 j], sv] w fun x w' => x = .returned (.bool (hasP (pairsL (lpL es) lk near (lpL es).length) i j)) ∧ FrS S w w' := by
  have hle := lp_le es
  by_cases hb : es.length ≤ 300
  · by_cases hj : 0 ≤ j ∧ j < n
    · by_cases hi : 0 ≤ i ∧ i < j
      · obtain ⟨J, rfl⟩ : ∃ J : Nat, j = J := ⟨j.toNat, by omega⟩
        obtain ⟨I, rfl⟩ : ∃ I : Nat, i = I := ⟨i.toNat, by omega⟩
        have hIJ : I < J := by omega
        have hJ : J < es.length := by omega
        rw [has_in hIJ]
        have hlt : (es.take (J + 1)).length = J + 1 := by simp; omega
        have hiff : J < (legS scn0 (es.take (J + 1))).2.1 ↔ J < (lpL es).length := by
          have e := lp_len hb
          have e2 : legLen es = (legS scn0 es).2.1 := by unfold legLen; rw [if_neg (by omega)]
          rcases leg_take_len hb hJ with ⟨h1, h2⟩ | ⟨h1, h2⟩ <;> omega
        have hd : decide (J < (lpL es).length) = decide (J < (legS scn0 (es.take (J + 1))).2.1) := by simp only [hiff]
        rw [hd]
        refine isPair_in gb off n c es I J sv w S (pairsJ es lk near J) (befN (eE es) J) hn (by omega) hnc h hS (by omega) hIJ _ rfl hs _ (fun W fW => ?_) (fun q => cI J (hiff.1 q))
        refine (ranksOf_any (some ⟨gb, off, none⟩) (J + 1) c (es.take (J + 1)) W hlt ((h.fr fW).take (J + 1)) (hs.fr fW) (fun k hk => by simp only [blk, Option.map_some, Option.some.injEq] at hk; have := fW.size; omega) (by omega)).mono ?_
        rintro x w' ⟨g, cap, rfl, K, hg, f⟩
        refine ⟨g, cap, rfl, fun q => ?_, hg, K.row.lt, f⟩
        have := K.bf J q
        rw [befN_take] at this
        exact this
      · rw [has_no (fun q => hi ⟨q.1, q.2.1⟩)]
        exact (isPair_ahead gb off n c i j sv w (by omega) hj hi).mono fun x w' q => ⟨q.1, frS_fr q.2⟩
    · rw [has_no (fun q => hj ⟨by omega, by omega⟩)]
      exact (isPair_out gb off n c i j sv w (by omega) hj).mono fun x w' q => ⟨q.1, frS_fr q.2⟩
  · have := lp_none hb
    rw [has_no (fun q => by omega)]
    exact (isPair_big gb off n c i j sv w (by omega)).mono fun x w' q => ⟨q.1, frS_fr q.2⟩

set_option maxHeartbeats 1000000 in
theorem implIsRace_any (gb off n c : Nat) (es : List Ev) (i j : Int) (w : World) (hn : es.length = n) (hnc : n ≤ c) (h : ReadsE w (some ⟨gb, off, none⟩) es) (hs : Shapes w) (hab : gb < w.heap.size) :
    Calls Tryz.prog 41 #[.slice (some ⟨gb, off, none⟩) n c, .int .i64 i, .int .i64 j] w fun x w' => x = .returned (.bool (hasP (pairsL (lpL es) [] false (lpL es).length) i j)) ∧ Fr w w' := by
  have cP := isPair_any false gb off n c es [] i j (.func (.func 132) #[] #[]) w (fun _ => False) hn hnc h hs hab (fun b q => q.elim) (fun J hJ u fu => by
    refine (into_race' gb off n c es u hn hnc (h.fr fu) (hs.fr fu) J hJ).mono ?_
    rintro x w' ⟨y, rfl, o, f⟩
    exact ⟨y, rfl, o, frS_fr f⟩)
  have cR := raceSieve_any w
  obtain ⟨B, hB⟩ : ∃ B, B = hasP (pairsL (lpL es) [] false (lpL es).length) i j := ⟨_, rfl⟩
  rw [← hB] at cP ⊢
  clear hB
  go_enter Tryz.func41, Tryz.ntmps41
  go_wp2_with fail
  refine cR.mono ?_
  rintro x u1 ⟨rfl, rfl⟩
  go_wp2_with fail
  refine cP.mono ?_
  rintro x u2 ⟨rfl, f2⟩
  go_wp2_with fail
  go_ret
  exact ⟨rfl, ⟨f2.os, f2.tape, f2.output, f2.size, fun k hk _ => f2.block k hk (fun q => q)⟩⟩
set_option maxHeartbeats 1000000 in
theorem implIsShort_any (gb off n c : Nat) (lo : Option Addr) (m lc : Nat) (es : List Ev) (lk : List Bool) (i j : Int) (w : World) (hn : es.length = n) (hnc : n ≤ c) (h : ReadsE w (some ⟨gb, off, none⟩) es) (hs : Shapes w) (hab : gb < w.heap.size) (hm : lk.length = m) (hL : ReadsG layBo w lo lk) (hm2 : m ≤ 16777216) :
    Calls Tryz.prog 29 #[.slice (some ⟨gb, off, none⟩) n c, .slice lo m lc, .int .i64 i, .int .i64 j] w fun x w' => x = .returned (.bool (hasP (pairsL (lpL es) lk true (lpL es).length) i j)) ∧ Fr w w' := by
  have cS := shortSieve_any lo m lc w
  have cP := fun (tb wb rb : Nat) (u : World) (S8 : Sv8 tb wb rb lo m lc 0 (fun _ => 0) u) (fu : Fr w u) (b1 : tb < u.heap.size) (b2 : wb < u.heap.size) (b3 : rb < u.heap.size) (b4 : w.heap.size ≤ wb) (b5 : w.heap.size ≤ rb) =>
    isPair_any true gb off n c es lk i j (.func (.func 133) #[] #[.pointer (some ⟨tb, 0, none⟩), .pointer (some ⟨wb, 0, none⟩), .pointer (some ⟨rb, 0, none⟩)]) u (SvS true wb rb) hn hnc (h.fr fu) (hs.fr fu) (Nat.lt_of_lt_of_le hab fu.size) (fun b q => by rcases q.2 with e | e <;> omega) (fun J hJ u2 f2 => by
      have h300 := lpL_300 es
      have hle := lp_le es
      have hlen := h.len
      have hz2 := f2.size
      have hX := fun u' (f : FrS (SvS true wb rb) u2 u') => fr_behind (fu.trans f2) f (fun b q => by rcases q.2 with e | e <;> omega)
      refine (into_short true rfl tb wb rb lo m lc gb off n c J es lk u2 hn hnc (by omega) (by omega) (by omega) (fun u' f => h.fr (hX u' f)) (fun u' f => hs.fr (hX u' f)) (fun _ u' f => hL.fr (hX u' f)) hm hm2 (fun _ => S8.fr f2) (fun _ => ⟨by omega, by omega, by omega⟩) (fun i hi _ => leg_gor (by omega)) (fun B g cap ps u hu => rev_any B g cap ps u hu)).mono ?_
      rintro x w' ⟨y, rfl, o, f, -⟩
      exact ⟨y, rfl, o, f⟩)
  obtain ⟨B, hB⟩ : ∃ B, B = hasP (pairsL (lpL es) lk true (lpL es).length) i j := ⟨_, rfl⟩
  simp only [← hB] at cP
  rw [← hB]
  clear hB
  go_enter Tryz.func29, Tryz.ntmps29
  go_wp2_with fail
  refine cS.mono ?_
  rintro x u1 ⟨tb, wb, rb, rfl, S8, a1, a2, a3, a4, a5, a6, f1⟩
  have cP := cP tb wb rb u1 S8 f1 a2 a4 a6 a3 a5
  go_wp2_with fail
  refine cP.mono ?_
  rintro x u2 ⟨rfl, f2⟩
  go_wp2_with fail
  go_ret
  exact ⟨rfl, fr_behind f1 f2 (fun b q => by rcases q.2 with e | e <;> omega)⟩
end Go.Proofs.YtcofhmikdkkigaaGreatDoor
