/-
  Pack BC: Order4, Order5, OrdEq, SpEdge2, SpBefM.
-/
import Derived.Test.YtcofhmikdkkigaaGreatDoorPrBB
import Derived.Test.YtcofhmikdkkigaaGreatDoorPrAX
namespace Go.Proofs.YtcofhmikdkkigaaGreatDoor
open Go.RowKit

theorem rank_zero : (.agg #[.int .u64 (wd (((0, 0) : Nat × Nat)).1 0), .int .u64 (wd (((0, 0) : Nat × Nat)).1 1), .int .u64 (wd (((0, 0) : Nat × Nat)).1 2), .int .u64 (wd (((0, 0) : Nat × Nat)).1 3), .int .u64 (wd (((0, 0) : Nat × Nat)).1 4), .int .u64 (wd (((0, 0) : Nat × Nat)).2 0), .int .u64 (wd (((0, 0) : Nat × Nat)).2 1), .int .u64 (wd (((0, 0) : Nat × Nat)).2 2), .int .u64 (wd (((0, 0) : Nat × Nat)).2 3), .int .u64 (wd (((0, 0) : Nat × Nat)).2 4)] : Value) = .agg #[.int .u64 0, .int .u64 0, .int .u64 0, .int .u64 0, .int .u64 0, .int .u64 0, .int .u64 0, .int .u64 0, .int .u64 0, .int .u64 0] := by
  simp only [wd_zero]
  rfl
theorem rankOf_any (ao : Option Addr) (n c : Nat) (es : List Ev) (w : World) (hn : es.length = n) (hnc : n ≤ c) (h : ReadsE w ao es) (j : Int) (hs : Shapes w) (hab : ∀ k, blk ao = some k → k < w.heap.size) :
    Calls Tryz.prog 80 #[.slice ao n c, .int .i64 j] w fun x w' => x = .returned (.agg #[.int .u64 (wd (rJ es j).1 0), .int .u64 (wd (rJ es j).1 1), .int .u64 (wd (rJ es j).1 2), .int .u64 (wd (rJ es j).1 3), .int .u64 (wd (rJ es j).1 4), .int .u64 (wd (rJ es j).2 0), .int .u64 (wd (rJ es j).2 1), .int .u64 (wd (rJ es j).2 2), .int .u64 (wd (rJ es j).2 3), .int .u64 (wd (rJ es j).2 4)]) ∧ Fr w w' := by
  have cT := fun u => isTrace_any ao n c u
  by_cases hb : es.length ≤ 300
  · have e2 : decide ((n : Int) ≤ 300) = true := by simp; omega
    simp only [e2] at cT
    have cI := fun u => within_any j 0 ((n : Int) - 1) u
    cases hb2 : inB 0 ((n : Int) - 1) j
    · have e1 : rJ es j = (0, 0) := by
        unfold rJ
        rw [if_neg]
        rintro ⟨q1, q2⟩
        have := legLen_le es
        have : inB 0 ((n : Int) - 1) j = true := by simp [inB]; omega
        rw [hb2] at this
        cases this
      simp only [hb2] at cI
      rw [e1, rank_zero]
      exact rankOf_no ao n c j w (by omega) cT cI
    · have hj : 0 ≤ j ∧ j < n := by simp [inB] at hb2; omega
      obtain ⟨J, rfl⟩ : ∃ J : Nat, j = J := ⟨j.toNat, by omega⟩
      have hJ : J < es.length := by omega
      simp only [hb2] at cI
      have hlt : (es.take (J + 1)).length = J + 1 := by simp; omega
      have cR := fun W (fW : Fr w W) => ranksOf_any ao (J + 1) c (es.take (J + 1)) W hlt ((h.fr fW).take (J + 1)) (hs.fr fW) (fun k hk => Nat.lt_of_lt_of_le (hab k hk) fW.size) (by omega)
      rcases leg_take_len hb hJ with ⟨h1, h2⟩ | ⟨h1, h2⟩
      · have e1 : rJ es J = (edN es J, befN (eE es) J) := by
          unfold rJ
          rw [if_pos ⟨by omega, h2⟩, Int.toNat_natCast]
        rw [e1]
        exact rankOf_in ao n c J _ w (by omega) (by omega) hnc _ _ cT cI cR _ _ (by omega) (edN_take (by omega)) befN_take
      · have e1 : rJ es J = (0, 0) := by
          unfold rJ
          rw [if_neg (fun q => h2 q.2)]
        rw [e1, rank_zero]
        exact rankOf_out ao n c J _ w (by omega) (by omega) hnc _ _ cT cI cR h1
  · have e2 : decide ((n : Int) ≤ 300) = false := by simp; omega
    simp only [e2] at cT
    have e1 : rJ es j = (0, 0) := by
      unfold rJ legLen
      rw [if_neg]
      rw [if_pos (by omega)]
      omega
    rw [e1, rank_zero]
    exact rankOf_big ao n c j w cT

theorem fld0 (f : Nat → Value) (u : World) : Sem.run Tryz.prog (Instr.field 112 (.agg #[f 0, f 1, f 2, f 3, f 4, f 5, f 6, f 7, f 8, f 9]) 0) u = .ok (.agg #[f 0, f 1, f 2, f 3, f 4]) u := by
  have hu := run_underlying (w := u) Tryz.underlying112
  simp [Instr.field, asAgg, hu, go_sem]
theorem fld1 (f : Nat → Value) (u : World) : Sem.run Tryz.prog (Instr.field 112 (.agg #[f 0, f 1, f 2, f 3, f 4, f 5, f 6, f 7, f 8, f 9]) 1) u = .ok (.agg #[f 5, f 6, f 7, f 8, f 9]) u := by
  have hu := run_underlying (w := u) Tryz.underlying112
  simp [Instr.field, asAgg, hu, go_sem]
end Go.Proofs.YtcofhmikdkkigaaGreatDoor
namespace Go.Proofs.YtcofhmikdkkigaaGreatDoor
open Go.RowKit

set_option maxHeartbeats 1000000 in
theorem implBef_any (ao : Option Addr) (n c : Nat) (es : List Ev) (w : World) (hn : es.length = n) (hnc : n ≤ c) (h : ReadsE w ao es) (j : Int) (hs : Shapes w) (hT : Tab w) (hab : ∀ k, blk ao = some k → k < w.heap.size) :
    Calls Tryz.prog 34 #[.slice ao n c, .int .i64 j] w fun x w' => ∃ v, x = .returned v ∧ OwnS w' w.heap.size v (rsL (rJ es j).2) ∧ Fr w w' := by
  have cR := rankOf_any ao n c es w hn hnc h j hs hab
  obtain ⟨N, hN⟩ : ∃ N, N = (rJ es j).1 := ⟨_, rfl⟩
  obtain ⟨M, hM⟩ : ∃ N, N = (rJ es j).2 := ⟨_, rfl⟩
  rw [← hM]
  simp only [← hN, ← hM] at cR
  clear hN hM h hs hab hn hnc
  have hf : ∀ u, Sem.run Tryz.prog (Instr.field 112 (.agg #[.int .u64 (wd N 0), .int .u64 (wd N 1), .int .u64 (wd N 2), .int .u64 (wd N 3), .int .u64 (wd N 4), .int .u64 (wd M 0), .int .u64 (wd M 1), .int .u64 (wd M 2), .int .u64 (wd M 3), .int .u64 (wd M 4)]) 1) u = .ok (.agg #[.int .u64 (wd M 0), .int .u64 (wd M 1), .int .u64 (wd M 2), .int .u64 (wd M 3), .int .u64 (wd M 4)]) u := fun u => fld1 (fun k => if k = 0 then .int .u64 (wd N 0) else if k = 1 then .int .u64 (wd N 1) else if k = 2 then .int .u64 (wd N 2) else if k = 3 then .int .u64 (wd N 3) else if k = 4 then .int .u64 (wd N 4) else if k = 5 then .int .u64 (wd M 0) else if k = 6 then .int .u64 (wd M 1) else if k = 7 then .int .u64 (wd M 2) else if k = 8 then .int .u64 (wd M 3) else .int .u64 (wd M 4)) u
  have cS := fun u (f : Fr w u) => rising_any M u (hT.fr f)
  clear hT
  go_enter Tryz.func34, Tryz.ntmps34
  go_wp2_with fail
  refine (cR).mono ?_
  rintro e u1 ⟨rfl, f1⟩
  have cS := cS _ f1
  go_wp2_with fail
  refine cS.mono ?_
  rintro x u2 ⟨v, rfl, o2, f2⟩
  have s1 := f1.size
  clear cS cR
  go_wp2_with fail
  go_ret
  exact ⟨v, rfl, o2.lower s1, f1.trans f2⟩

set_option maxHeartbeats 1000000 in
theorem implOrd_any (ao : Option Addr) (n c : Nat) (es : List Ev) (w : World) (hn : es.length = n) (hnc : n ≤ c) (h : ReadsE w ao es) (i j : Int) (hs : Shapes w) (hab : ∀ k, blk ao = some k → k < w.heap.size) :
    Calls Tryz.prog 28 #[.slice ao n c, .int .i64 i, .int .i64 j] w fun x w' => x = .returned (.bool (inB 0 299 i && (rJ es j).2.testBit i.toNat)) ∧ Fr w w' := by
  have cR := rankOf_any ao n c es w hn hnc h j hs hab
  obtain ⟨N, hN⟩ : ∃ N, N = (rJ es j).1 := ⟨_, rfl⟩
  obtain ⟨M, hM⟩ : ∃ N, N = (rJ es j).2 := ⟨_, rfl⟩
  rw [← hM]
  simp only [← hN, ← hM] at cR
  clear hN hM h hs hab hn hnc
  have hf : ∀ u, Sem.run Tryz.prog (Instr.field 112 (.agg #[.int .u64 (wd N 0), .int .u64 (wd N 1), .int .u64 (wd N 2), .int .u64 (wd N 3), .int .u64 (wd N 4), .int .u64 (wd M 0), .int .u64 (wd M 1), .int .u64 (wd M 2), .int .u64 (wd M 3), .int .u64 (wd M 4)]) 1) u = .ok (.agg #[.int .u64 (wd M 0), .int .u64 (wd M 1), .int .u64 (wd M 2), .int .u64 (wd M 3), .int .u64 (wd M 4)]) u := fun u => fld1 (fun k => if k = 0 then .int .u64 (wd N 0) else if k = 1 then .int .u64 (wd N 1) else if k = 2 then .int .u64 (wd N 2) else if k = 3 then .int .u64 (wd N 3) else if k = 4 then .int .u64 (wd N 4) else if k = 5 then .int .u64 (wd M 0) else if k = 6 then .int .u64 (wd M 1) else if k = 7 then .int .u64 (wd M 2) else if k = 8 then .int .u64 (wd M 3) else .int .u64 (wd M 4)) u
  have cS := fun u => hasP_any M i u
  obtain ⟨B, hB⟩ : ∃ B, B = (inB 0 299 i && M.testBit i.toNat) := ⟨_, rfl⟩
  simp only [← hB] at cS ⊢
  clear hB
  go_enter Tryz.func28, Tryz.ntmps28
  go_wp2_with fail
  refine (cR).mono ?_
  rintro e u1 ⟨rfl, f1⟩
  have cS := cS u1
  go_wp2_with fail
  refine cS.mono ?_
  rintro x u2 ⟨rfl, f2⟩
  clear cS cR
  go_wp2_with fail
  go_ret
  exact ⟨rfl, f1.trans f2⟩

noncomputable def atO (es : List Ev) : Nat → Int
  | 0 => 0
  | k + 1 => atO es k + ((k : Int) - popS (befN (eE es) k))
theorem popS_le (N : Nat) : popS N ≤ 320 := by
  unfold popS bitsL
  have := List.length_filter_le (fun i => N.testBit i) (List.range 320)
  simpa using this
theorem atO_in (es : List Ev) : ∀ k : Nat, k ≤ 300 → -(320 * (k : Int)) ≤ atO es k ∧ atO es k ≤ 300 * (k : Int)
  | 0, _ => by simp [atO]
  | k + 1, h => by
    have ih := atO_in es k (by omega)
    have := popS_le (befN (eE es) k)
    simp only [atO]
    omega

set_option maxHeartbeats 1000000 in
theorem edgesOf_big (ao : Option Addr) (n c : Nat) (es : List Ev) (w : World) (hn : es.length = n) (hl : ¬ es.length ≤ 300) :
    Calls Tryz.prog 170 #[.slice ao n c] w fun x w' => ∃ v, x = .returned v ∧ OwnR w' w.heap.size v (rk0 es 0) ∧ Fr w w' := by
  have cT := fun u => isTrace_any ao n c u
  have e2 : decide ((n : Int) ≤ 300) = false := by simp; omega
  simp only [e2] at cT
  clear e2 hn hl
  have oA := ownR_new w w.heap.size (Nat.le_refl _)
  go_enter Tryz.func170, Tryz.ntmps170
  go_wp2_with fail
  refine (cT _).mono ?_
  rintro e u0 ⟨rfl, rfl⟩
  go_wp2_with fail
  go_ret
  exact ⟨_, rfl, oA, Fr.alloc _ _⟩
noncomputable def onceL (es : List Ev) : Int := if es.length ≤ 300 then atO es (legS scn0 es).2.1 else 0
end Go.Proofs.YtcofhmikdkkigaaGreatDoor
namespace Go.Proofs.YtcofhmikdkkigaaGreatDoor
open Go.RowKit

theorem snoc_ind {α : Type} {motive : List α → Prop} (nil : motive []) (snoc : ∀ l a, motive l → motive (l ++ [a])) (l : List α) : motive l := by
  have h : ∀ l : List α, motive l.reverse := by
    intro l
    induction l with
    | nil => exact nil
    | cons a l ih => rw [List.reverse_cons]; exact snoc _ _ ih
  have := h l.reverse
  rwa [List.reverse_reverse] at this
theorem laE_at (la : Nat → Nat) (J : Nat) (d : Nat) : ∀ (gs : List Int), (∀ g ∈ gs, 0 ≤ g) → laE la J gs d = if (d : Int) ∈ gs then 2 ^ J else la d := by
  intro gs
  induction gs using snoc_ind with
  | nil => intro _; simp [laE]
  | snoc gs g ih =>
    intro h
    rw [laE_one]
    unfold setN
    have hg := h g (by simp)
    by_cases e : d = g.toNat
    · rw [if_pos e, if_pos (by simp; right; omega)]
    · rw [if_neg e, ih (fun x hx => h x (by simp [hx]))]
      have : ((d : Int) ∈ gs ++ [g]) ↔ (d : Int) ∈ gs := by
        simp only [List.mem_append, List.mem_singleton]
        constructor
        · rintro (q | q)
          · exact q
          · omega
        · exact .inl
      by_cases q : (d : Int) ∈ gs
      · rw [if_pos q, if_pos (this.2 q)]
      · rw [if_neg q, if_neg (fun z => q (this.1 z))]
theorem giE_bit (G : Int → Int → Int → Nat) (J : Nat) (a c d : Int) (i : Nat) : ∀ ts : List Tch, (giE G J ts a c d).testBit i = ((G a c d).testBit i || (decide (i = J) && ts.any fun t => t.gv && (decide (a = t.sp) && (decide (c = t.ob) && decide (d = t.sl))))) := by
  intro ts
  induction ts using snoc_ind with
  | nil => simp [giE]
  | snoc ts t ih =>
    rw [giE_one, List.any_append, List.any_cons, List.any_nil, Bool.or_false]
    by_cases hv : t.gv = true
    · rw [if_pos hv]
      by_cases e : a = t.sp ∧ c = t.ob ∧ d = t.sl
      · obtain ⟨rfl, rfl, rfl⟩ := e
        simp only [and_self, if_true, Nat.testBit_or, ih, Nat.testBit_two_pow, hv, decide_true, Bool.or_true, Bool.and_true]
        have e2 : decide (J = i) = decide (i = J) := by simp only [decide_eq_decide]; exact eq_comm
        rw [e2]
        cases (G t.sp t.ob t.sl).testBit i <;> cases decide (i = J) <;> simp
      · have e2 : (decide (a = t.sp) && (decide (c = t.ob) && decide (d = t.sl))) = false := by
          cases h : (decide (a = t.sp) && (decide (c = t.ob) && decide (d = t.sl)))
          · rfl
          · simp only [Bool.and_eq_true, decide_eq_true_eq] at h
            exact absurd h e
        rw [if_neg e, ih, e2, Bool.and_false, Bool.or_false]
    · have hv' : t.gv = false := by simpa using hv
      rw [if_neg hv, ih, hv', Bool.false_and, Bool.or_false]
theorem goE_bit (st la : Nat → Nat) (i : Nat) : ∀ gs : List Int, (goE st la gs).testBit i = gs.any fun g => (st g.toNat).testBit i || (la g.toNat).testBit i := by
  intro gs
  induction gs using snoc_ind with
  | nil => simp [goE]
  | snoc gs g ih =>
    rw [goE_one, Nat.testBit_or, Nat.testBit_or, ih, List.any_append, List.any_cons, List.any_nil, Bool.or_false, Bool.or_assoc]
theorem thE_bit (G : Int → Int → Int → Nat) (N i : Nat) : ∀ ts : List Tch, (thE G N ts).testBit i = (N.testBit i || ts.any fun t => t.tk && (G t.sp t.ob t.sl).testBit i) := by
  intro ts
  induction ts using snoc_ind with
  | nil => simp [thE]
  | snoc ts t ih =>
    rw [thE_one, List.any_append, List.any_cons, List.any_nil, Bool.or_false]
    cases ht : t.tk
    · simp [ih]
    · simp only [if_true, Nat.testBit_or, ih, Bool.true_and, Bool.or_assoc]
def Leg (es : List Ev) (k : Nat) : Prop := ∀ i, i < k → codeIn (scA es i) (evA es i) = 0 ∧ scA es (i + 1) = doS (scA es i) (evA es i)
theorem leg_of {es : List Ev} {k : Nat} (hk : k ≤ (legS scn0 es).2.1) : Leg es k := by
  intro i hi
  have hl := leg_len es scn0
  have h1 := leg_part es scn0 i (by omega)
  have h2 := leg_part es scn0 (i + 1) (by omega)
  have hie : i < es.length := by omega
  have hc := h1.2.2 hie (by omega)
  unfold scA
  rw [evA_at hie]
  refine ⟨hc, ?_⟩
  have hq : legS scn0 (es.take i) = ((legS scn0 (es.take i)).1, i, 0) := Prod.ext rfl (Prod.ext h1.1 h1.2.1)
  rw [leg_take_go hie hq hc]
theorem pla_bit {es : List Ev} (d i : Nat) : ∀ k, Leg es k → (pla es k d).testBit i = decide ((i : Int) = lastG es k d)
  | 0, _ => by
    simp [pla, lastG]
  | k + 1, h => by
    have ih := pla_bit d i k (fun q hq => h q (by omega))
    have hev := (code_parts (h k (by omega)).1).1
    unfold pla lastG ofG
    rw [laE_at _ _ _ _ (fun g hg => (gors_in hev hg).1)]
    by_cases q : (d : Int) ∈ gorsL (evA es k)
    · rw [if_pos q, if_pos ((memB_iff _ _).2 q), Nat.testBit_two_pow]
      simp only [decide_eq_decide]
      omega
    · rw [if_neg q, if_neg (fun z => q ((memB_iff _ _).1 z)), ih]
theorem pgi_bit {es : List Ev} (a c d : Int) (i : Nat) : ∀ k, (pgi es k a c d).testBit i = (decide (i < k) && (tJ es i).any fun t => t.gv && (decide (a = t.sp) && (decide (c = t.ob) && decide (d = t.sl))))
  | 0 => by simp [pgi]
  | k + 1 => by
    have ih := pgi_bit (es := es) a c d i k
    unfold pgi
    rw [giE_bit, ih]
    by_cases e : i = k
    · subst e
      simp
    · have : decide (i < k + 1) = decide (i < k) := by simp only [decide_eq_decide]; omega
      rw [this, decide_eq_false e, Bool.false_and, Bool.or_false]
theorem doS_g (m : Scn) (e : Ev) : (doS m e).g = if e.k = 1 then m.g + 1 else m.g := by
  unfold doS
  by_cases h1 : e.k = 1
  · rw [if_pos h1, if_pos h1]
  · rw [if_neg h1, if_neg h1]
    by_cases h2 : 2 ≤ e.k ∧ e.k ≤ 5
    · rw [if_pos h2]
      rfl
    rw [if_neg h2]
    by_cases h3 : 6 ≤ e.k ∧ e.k ≤ 8 ∨ e.k = 10
    · rw [if_pos h3]
      rfl
    rw [if_neg h3]
    by_cases h4 : e.k = 12
    · rw [if_pos h4]
      rfl
    rw [if_neg h4]
    by_cases h5 : e.k = 13
    · rw [if_pos h5]
      rfl
    rw [if_neg h5]
    by_cases h6 : e.k = 15
    · rw [if_pos h6]
    rw [if_neg h6]
theorem go_below {es : List Ev} : ∀ k, Leg es k → ∀ i, i < k → (evA es i).k = 1 → (evA es i).o < (scA es k).g
  | 0, _, i, hi, _ => by omega
  | k + 1, h, i, hi, h1 => by
    have hk := h k (by omega)
    rw [hk.2, doS_g]
    by_cases e : i = k
    · subst e
      rw [if_pos h1]
      have hg := (code_parts hk.1).2.2.1
      have : (evA es i).o = (scA es i).g := by
        by_cases q : (evA es i).o = (scA es i).g
        · exact q
        · exact absurd (Or.inr (Or.inl ⟨h1, q⟩)) hg
      omega
    · have ih := go_below k (fun q hq => h q (by omega)) i (by omega) h1
      split <;> omega
theorem go_is {es : List Ev} {k : Nat} (h : Leg es (k + 1)) (h1 : (evA es k).k = 1) : (evA es k).o = (scA es k).g := by
  have hg := (code_parts (h k (by omega)).1).2.2.1
  by_cases q : (evA es k).o = (scA es k).g
  · exact q
  · exact absurd (Or.inr (Or.inl ⟨h1, q⟩)) hg
theorem pst_bit {es : List Ev} (d i : Nat) : ∀ k, Leg es k → (pst es k d).testBit i = (decide (i < k) && (decide ((evA es i).k = 1) && decide ((evA es i).o = d)))
  | 0, _ => by simp [pst]
  | k + 1, h => by
    have hL : Leg es k := fun q hq => h q (by omega)
    have ih := pst_bit d i k hL
    have hev := evOk_o (code_parts (h k (by omega)).1).1
    unfold pst
    by_cases h1 : (evA es k).k = 1
    · rw [if_pos h1]
      unfold setN
      by_cases e : d = (evA es k).o.toNat
      · have eo : (evA es k).o = d := by omega
        rw [if_pos e, Nat.testBit_two_pow]
        by_cases q : k = i
        · subst q
          simp [h1, eo]
        · rw [decide_eq_false q]
          symm
          by_cases q2 : i < k
          · by_cases q3 : (evA es i).k = 1
            · have q4 := go_below k hL i q2 q3
              have q5 := go_is h h1
              have q6 : ¬ (evA es i).o = (d : Int) := by omega
              rw [decide_eq_false q6]
              simp
            · rw [decide_eq_false q3]
              simp
          · have : ¬ i < k + 1 := by omega
            rw [decide_eq_false this, Bool.false_and]
      · have eo : ¬ (evA es k).o = d := by omega
        rw [if_neg e, ih]
        by_cases q : i = k
        · subst q
          simp [eo]
        · have : decide (i < k + 1) = decide (i < k) := by simp only [decide_eq_decide]; omega
          rw [this]
    · rw [if_neg h1, ih]
      by_cases q : i = k
      · subst q
        simp [h1]
      · have : decide (i < k + 1) = decide (i < k) := by simp only [decide_eq_decide]; omega
        rw [this]
theorem touJ_tJ {es : List Ev} (hl : es.length ≤ 300) {i : Nat} (hi : i < (legS scn0 es).2.1) : touJ es i = tJ es i := by
  have e : legLen es = (legS scn0 es).2.1 := by
    unfold legLen
    rw [if_neg (by omega)]
  have hle := leg_len es scn0
  have hie : i < es.length := by omega
  have h1 := leg_part es scn0 i (by omega)
  have hc := h1.2.2 hie hi
  have q := touJ_yes (es := es) (j := (i : Int)) ⟨by omega, by omega, by simpa using hie⟩
  simp only [Int.toNat_natCast] at q
  have h4 := ChAt.leg (es.take i) [] scn0 ChAt.nil h1.2.1
  simp only [List.nil_append] at h4
  unfold tJ scA
  rw [q, evA_at hie, tch_same h4 hc]
theorem edN_bit {es : List Ev} (hl : es.length ≤ 300) {i k : Nat} (hk : k < (legS scn0 es).2.1) : (edN es k).testBit i = (decide (i < k) && edgeB es i k) := by
  have hL : Leg es k := leg_of (by omega)
  have hev := (code_parts ((leg_of (es := es) (k := k + 1) (by omega)) k (by omega)).1).1
  unfold edN
  rw [thE_bit, goE_bit]
  by_cases hik : i < k
  · rw [decide_eq_true hik, Bool.true_and]
    unfold edgeB
    rw [touJ_tJ hl hk, touJ_tJ hl (by omega)]
    have e1 : ((gorsL (evA es k)).any fun g => (pst es k g.toNat).testBit i || (pla es k g.toNat).testBit i) = (memB ((gorsL (evA es k)).map (lastG es k)) i || ((evA es i).k == 1 && memB (gorsL (evA es k)) (evA es i).o)) := by
      rw [Bool.eq_iff_iff, List.any_eq_true, Bool.or_eq_true, Bool.and_eq_true, memB_iff, memB_iff, List.mem_map, beq_iff_eq]
      constructor
      · rintro ⟨g, hg, hb⟩
        have hg0 := gors_in hev hg
        have hgn : ((g.toNat : Nat) : Int) = g := by omega
        rw [pst_bit _ _ _ hL, pla_bit _ _ _ hL, hgn, Bool.or_eq_true, Bool.and_eq_true, Bool.and_eq_true, decide_eq_true_eq, decide_eq_true_eq, decide_eq_true_eq, decide_eq_true_eq] at hb
        rcases hb with ⟨_, h1, h2⟩ | h1
        · exact .inr ⟨h1, h2 ▸ hg⟩
        · exact .inl ⟨g, hg, h1.symm⟩
      · rintro (⟨g, hg, h1⟩ | ⟨h1, h2⟩)
        · have hg0 := gors_in hev hg
          have hgn : ((g.toNat : Nat) : Int) = g := by omega
          refine ⟨g, hg, ?_⟩
          rw [pst_bit _ _ _ hL, pla_bit _ _ _ hL, hgn, Bool.or_eq_true, decide_eq_true_eq (p := (i : Int) = lastG es k g)]
          exact .inr h1.symm
        · have hg0 := gors_in hev h2
          have hgn : (((evA es i).o.toNat : Nat) : Int) = (evA es i).o := by omega
          refine ⟨_, h2, ?_⟩
          rw [pst_bit _ _ _ hL, pla_bit _ _ _ hL, hgn]
          simp [hik, h1]
    have e2 : ((tJ es k).any fun t => t.tk && (pgi es k t.sp t.ob t.sl).testBit i) = meetsB (tJ es i) (tJ es k) := by
      rw [Bool.eq_iff_iff]
      unfold meetsB
      simp only [List.any_eq_true, Bool.and_eq_true, pgi_bit, decide_eq_true_eq, beq_iff_eq]
      constructor
      · rintro ⟨t, ht, h1, _, u, hu, h2, h3, h4, h5⟩
        exact ⟨u, hu, t, ht, ⟨⟨⟨h2, h1⟩, h3.symm⟩, h4.symm⟩, h5.symm⟩
      · rintro ⟨u, hu, t, ht, ⟨⟨⟨h2, h1⟩, h3⟩, h4⟩, h5⟩
        exact ⟨t, ht, h1, hik, u, hu, h2, h3.symm, h4.symm, h5.symm⟩
    rw [e1, e2]
  · rw [decide_eq_false hik, Bool.false_and]
    have hlast := lastG_lt es
    rw [Bool.or_eq_false_iff]
    constructor
    · rw [List.any_eq_false]
      intro g hg
      have hg0 := gors_in hev hg
      rw [pst_bit _ _ _ hL, pla_bit _ _ _ hL, decide_eq_false hik, Bool.false_and, Bool.false_or, decide_eq_true_eq]
      have := (hlast ((g.toNat : Nat) : Int) k).2
      omega
    · rw [List.any_eq_false]
      intro t _
      rw [pgi_bit, decide_eq_false hik, Bool.false_and, Bool.and_false]
      simp
theorem rsL_edges {es : List Ev} (hl : es.length ≤ 300) {k : Nat} (hk : k < (legS scn0 es).2.1) : rsL (edN es k) = edgesL es k := by
  have hle := leg_len es scn0
  unfold rsL edgesL
  rw [bitsL_low (n := k) (m := 320) (by omega) (fun i hi => by rw [edN_bit hl hk, decide_eq_false (by omega), Bool.false_and])]
  unfold bitsL
  congr 1
  apply List.filter_congr
  intro i hi
  rw [edN_bit hl hk, decide_eq_true (List.mem_range.1 hi), Bool.true_and]
end Go.Proofs.YtcofhmikdkkigaaGreatDoor
namespace Go.Proofs.YtcofhmikdkkigaaGreatDoor
open Go.RowKit

theorem tssL_get {es : List Ev} (hl : es.length ≤ 300) (hleg : (legS scn0 es).2.1 = es.length) {i : Nat} (hi : i < es.length) : (tssL es es.length).getD i [] = touJ es i := by
  have e : legLen es = es.length := by
    unfold legLen
    rw [if_neg (by omega), hleg]
  have q := touJ_yes (es := es) (j := (i : Int)) ⟨by omega, by omega, by simpa using hi⟩
  simp only [Int.toNat_natCast] at q
  rw [q, List.getD_eq_getElem?_getD]
  simp [tssL, hi, evA_at hi]
theorem edgesT_eq {es : List Ev} (hl : es.length ≤ 300) (hleg : (legS scn0 es).2.1 = es.length) {J : Nat} (hJ : J < es.length) : edgesT es (tssL es es.length) J J = edgesL es J := by
  unfold edgesT edgesL
  congr 1
  apply List.filter_congr
  intro i hi
  have hi := List.mem_range.1 hi
  unfold edgeT edgeB
  rw [tssL_get hl hleg (by omega), tssL_get hl hleg hJ]
theorem lpL_leg {es : List Ev} (hb : 0 ≤ legLen es) : es.length ≤ 300 ∧ (lpL es).length = (legS scn0 es).2.1 ∧ (legS scn0 (lpL es)).2.1 = (lpL es).length ∧ legLen es = (legS scn0 es).2.1 ∧ lpL es = es.take (legS scn0 es).2.1 := by
  have h300 : es.length ≤ 300 := by
    by_cases q : es.length ≤ 300
    · exact q
    · unfold legLen at hb
      rw [if_pos (by omega)] at hb
      omega
  have e : legLen es = (legS scn0 es).2.1 := by
    unfold legLen
    rw [if_neg (by omega)]
  have hle := leg_len es scn0
  have e2 : lpL es = es.take (legS scn0 es).2.1 := by
    unfold lpL
    rw [e, Int.toNat_natCast]
  have h1 := leg_part es scn0 (legS scn0 es).2.1 (Nat.le_refl _)
  refine ⟨h300, by rw [e2]; simp; omega, ?_, e, e2⟩
  rw [e2, h1.1]
  simp
  omega
theorem lpL_edges {es : List Ev} {J : Nat} (hJ : J < (lpL es).length) : edgesT (lpL es) (tssL (lpL es) (lpL es).length) J J = rsL (rJ es J).1 := by
  have hb : 0 ≤ legLen es := by
    by_cases q : 0 ≤ legLen es
    · exact q
    · unfold lpL at hJ
      have : (legLen es).toNat = 0 := by omega
      rw [this] at hJ
      simp at hJ
  obtain ⟨h1, h2, h3, h4, h5⟩ := lpL_leg hb
  have hle := leg_len es scn0
  rw [edgesT_eq (by omega) h3 hJ, ← rsL_edges (by omega) (by omega)]
  have e1 : edN (lpL es) J = edN es J := by
    rw [h5]
    exact edN_take (by omega)
  have e2 : rJ es J = (edN es J, befN (eE es) J) := by
    unfold rJ
    rw [if_pos ⟨by omega, by omega⟩, Int.toNat_natCast]
  rw [e1, e2]
theorem lpL_kinds {es : List Ev} (j : Nat) (hj : j < (lpL es).length) (hb : 0 ≤ legLen es) : (1 ≤ (lpL es)[j].k ∧ (lpL es)[j].k ≤ 22) ∧ ((lpL es)[j].k = 7 ∨ (lpL es)[j].k = 8 → capK (lpL es)[j].o ((lpL es).take j) ≠ 0) := by
  obtain ⟨h1, h2, h3, h4, h5⟩ := lpL_leg hb
  have hle := leg_len es scn0
  have e : legLen (lpL es) = (lpL es).length := by
    unfold legLen
    rw [if_neg (by omega), h3]
  obtain ⟨l1, l2, l3⟩ := leg_at hj (by omega)
  have hch := ChAt.leg ((lpL es).take j) [] scn0 ChAt.nil l1
  simp only [List.nil_append] at hch
  exact ⟨code_kind l2, fun q => (slot_same hch l2 q).2⟩
theorem own_capR {w : World} {base e size g n cap : Nat} {xs : List Value} (h : w.ownsRow base e size (.slice (some ⟨g, 0, none⟩) n cap) n xs) : n ≤ cap := by
  rcases h.2 with ⟨q, _⟩ | ⟨g', c', cur, q, _, _, hnc, _⟩
  · simp at q
  · simp only [Value.slice.injEq] at q
    omega
theorem rsL_len (N : Nat) : (rsL N).length ≤ 320 := by
  unfold rsL bitsL
  have := List.length_filter_le (fun i => N.testBit i) (List.range 320)
  simpa using this
theorem rsL_zero : rsL 0 = [] := by simp [rsL, bitsL_zero]

end Go.Proofs.YtcofhmikdkkigaaGreatDoor
namespace Go.Proofs.YtcofhmikdkkigaaGreatDoor
open Go.RowKit

def RowF (w : World) (b n X : Nat) : Prop := ∀ i, i < n → w.cell? ⟨b, i, none⟩ = some (.bool (X.testBit i))
theorem RowF.set {w : World} {b n X L : Nat} (h : RowF w b n X) (hL : L < n) : RowF (w.setCell ⟨b, L, none⟩ (.bool true)) b n (X ||| 2 ^ L) := by
  intro i hi
  by_cases e : i = L
  · subst e
    rw [World.cell?_setCell_same' _ _ _ (by rw [h i hi]; rfl)]
    simp [Nat.testBit_or, Nat.testBit_two_pow_self]
  · have hne : (⟨b, L, none⟩ : Addr) ≠ ⟨b, i, none⟩ := fun q => e (by injection q; omega)
    rw [World.cell?_setCell_other _ _ _ _ hne, h i hi, Nat.testBit_or, Nat.testBit_two_pow, decide_eq_false (fun q => e q.symm), Bool.or_false]
theorem RowF.keep {w w' : World} {b n X : Nat} {row : Option Nat} (h : RowF w b n X) (k : w.grownBy w' row) (hne : some b ≠ row) : RowF w' b n X := fun i hi => k.cell (h i hi) hne
theorem RowF.fr {w w' : World} {b n X : Nat} (h : RowF w b n X) (k : Fr w w') : RowF w' b n X := h.keep k (by simp)
theorem RowF.cong {w : World} {b n X Y : Nat} (h : RowF w b n X) (e : ∀ i, i < n → X.testBit i = Y.testBit i) : RowF w b n Y := fun i hi => by rw [h i hi, e i hi]

def accS (bf : Nat → Nat) (xs : List Nat) : Nat := xs.foldl (fun X l => X ||| 2 ^ l ||| bf l) 0
theorem accS_snoc (bf : Nat → Nat) (xs : List Nat) (l : Nat) : accS bf (xs ++ [l]) = accS bf xs ||| 2 ^ l ||| bf l := by simp [accS]
theorem accS_go (bf : Nat → Nat) (i : Nat) : ∀ (xs : List Nat) (X : Nat), (xs.foldl (fun X l => X ||| 2 ^ l ||| bf l) X).testBit i = true ↔ X.testBit i = true ∨ ∃ l ∈ xs, l = i ∨ (bf l).testBit i = true
  | [], X => by simp
  | l :: xs, X => by
    rw [List.foldl_cons, accS_go bf i xs, Nat.testBit_or, Nat.testBit_or, Nat.testBit_two_pow, Bool.or_eq_true, Bool.or_eq_true, decide_eq_true_eq]
    simp only [List.mem_cons, exists_eq_or_imp, or_assoc]
theorem accS_bit (bf : Nat → Nat) (xs : List Nat) (i : Nat) : (accS bf xs).testBit i = true ↔ ∃ l ∈ xs, l = i ∨ (bf l).testBit i = true := by
  unfold accS
  rw [accS_go]
  simp
theorem accS_bef (E : Nat → Nat → Bool) (j : Nat) : accS (befN E) ((List.range j).filter fun i => E i j) = befN E j := by
  apply set_eq
  intro i
  have : (accS (befN E) ((List.range j).filter fun i => E i j)).testBit i = true ↔ (befN E j).testBit i = true := by
    rw [accS_bit, befN_bit, bef_iff]
    simp only [List.mem_filter, List.mem_range, befN_bit, and_assoc]
  cases h1 : (accS (befN E) ((List.range j).filter fun i => E i j)).testBit i <;> cases h2 : (befN E j).testBit i <;> simp_all
theorem befN_high (E : Nat → Nat → Bool) {j i : Nat} (h : j ≤ i) : (befN E j).testBit i = false := by
  cases hb : (befN E j).testBit i
  · rfl
  · have := ((befN_bit E j i).1 hb).lt
    omega
def lowS (X p : Nat) : Nat := setOf (fun i => X.testBit i) p
theorem lowS_bit (X p i : Nat) : (lowS X p).testBit i = (decide (i < p) && X.testBit i) := setOf_bit _ _ _
theorem lowS_bef (E : Nat → Nat → Bool) (j : Nat) : lowS (befN E j) j = befN E j := by
  apply set_eq
  intro i
  rw [lowS_bit]
  by_cases h : i < j
  · rw [decide_eq_true h, Bool.true_and]
  · rw [befN_high E (by omega), Bool.and_false]
theorem Bef.cong2 {E E' : Nat → Nat → Bool} {j q : Nat} (h : Bef E q j) (he : ∀ i k, i < k → k ≤ j → E i k = E' i k) : Bef E' q j := by
  induction h with
  | edge l e => exact .edge l (by rw [← he _ _ l (Nat.le_refl _)]; exact e)
  | more b l e ih => exact .more (ih fun i k h1 h2 => he i k h1 (by omega)) l (by rw [← he _ _ l (Nat.le_refl _)]; exact e)
theorem befN_cong2 {E E' : Nat → Nat → Bool} {j : Nat} (he : ∀ i k, i < k → k ≤ j → E i k = E' i k) : befN E j = befN E' j := by
  apply set_eq
  intro i
  have : (befN E j).testBit i = true ↔ (befN E' j).testBit i = true := by
    rw [befN_bit, befN_bit]
    exact ⟨fun h => h.cong2 he, fun h => h.cong2 fun a b c d => (he a b c d).symm⟩
  cases h1 : (befN E j).testBit i <;> cases h2 : (befN E' j).testBit i <;> simp_all

theorem befN_legal {es : List Ev} (hl : es.length ≤ 300) (hleg : (legS scn0 es).2.1 = es.length) {j : Nat} (hj : j < es.length) : befN (edgeT es (tssL es es.length)) j = befN (eE es) j := by
  apply befN_cong2
  intro i k h1 h2
  unfold eE
  rw [edN_bit hl (by omega), decide_eq_true h1, Bool.true_and]
  unfold edgeT edgeB
  rw [tssL_get hl hleg (by omega), tssL_get hl hleg (by omega)]
theorem befN_part {es : List Ev} {n j : Nat} (h : j < n) : befN (eE (es.take n)) j = befN (eE es) j := by
  apply befN_cong2
  intro i k h1 h2
  unfold eE
  rw [edN_take (by omega)]
theorem lpL_bef {es : List Ev} {J : Nat} (hJ : J < (lpL es).length) : 0 ≤ legLen es ∧ befN (eE (lpL es)) J = (rJ es J).2 := by
  have hb : 0 ≤ legLen es := by
    by_cases q : 0 ≤ legLen es
    · exact q
    · unfold lpL at hJ
      have : (legLen es).toNat = 0 := by omega
      rw [this] at hJ
      simp at hJ
  obtain ⟨h1, h2, h3, h4, h5⟩ := lpL_leg hb
  have e2 : rJ es J = (edN es J, befN (eE es) J) := by
    unfold rJ
    rw [if_pos ⟨by omega, by omega⟩, Int.toNat_natCast]
  refine ⟨hb, ?_⟩
  rw [e2, h5]
  exact befN_part (by omega)
theorem lpL_out {es : List Ev} {j : Int} (q : ¬ (0 ≤ j ∧ j < (lpL es).length)) : rJ es j = (0, 0) := by
  unfold rJ
  rw [if_neg]
  rintro ⟨q1, q2⟩
  have h2 := lpL_leg (es := es) (by omega)
  exact q ⟨q1, by omega⟩
theorem lpL_300 (es : List Ev) : (lpL es).length ≤ 300 := by
  by_cases q : 0 ≤ legLen es
  · have h2 := lpL_leg q
    have := leg_len es scn0
    omega
  · unfold lpL
    have : (legLen es).toNat = 0 := by omega
    rw [this]
    simp
def KindsOk (es : List Ev) : Prop := ∀ j (hj : j < es.length), (1 ≤ es[j].k ∧ es[j].k ≤ 22) ∧ (es[j].k = 7 ∨ es[j].k = 8 → capK es[j].o (es.take j) ≠ 0)
theorem KindsOk.part {es : List Ev} (h : KindsOk es) (n : Nat) : KindsOk (es.take n) := by
  intro j hj
  have hj2 : j < es.length := by simp at hj; omega
  have hjn : j < n := by simp at hj; omega
  have e : (es.take n)[j] = es[j] := by simp
  have e2 : (es.take n).take j = es.take j := by rw [List.take_take]; congr 1; omega
  rw [e, e2]
  exact h j hj2
theorem leg_cut {es : List Ev} (hleg : (legS scn0 es).2.1 = es.length) {n : Nat} (hn : n ≤ es.length) : (legS scn0 (es.take n)).2.1 = (es.take n).length := by
  have h1 := leg_part es scn0 n (by omega)
  rw [h1.1]
  simp
  omega
end Go.Proofs.YtcofhmikdkkigaaGreatDoor
