/-
  The specification's BeforesOf, Ordered, AtOnce.
-/
import Derived.Test.YtplnijpolkflcaaGreatDoorSpBef
import Derived.Test.YtplnijpolkflcaaGreatDoorPqAE
namespace Go.Proofs.YtplnijpolkflcaaGreatDoor
open Go.RowKit

/-- The places of a set below p, as numbers. -/
def bitsI (p X : Nat) : List Int := (bitsL p X).map fun i : Nat => (i : Int)
theorem bitsL_succ (p X : Nat) : bitsL (p + 1) X = if X.testBit p = true then bitsL p X ++ [p] else bitsL p X := by
  unfold bitsL
  rw [List.range_succ, List.filter_append]
  cases h : X.testBit p <;> simp [h]
theorem bitsI_succ (p X : Nat) : bitsI (p + 1) X = if X.testBit p = true then bitsI p X ++ [(p : Int)] else bitsI p X := by
  unfold bitsI
  rw [bitsL_succ]
  split <;> simp
theorem bitsL_len (p X : Nat) : (bitsL p X).length ≤ p := by
  unfold bitsL
  have := List.length_filter_le (fun i => X.testBit i) (List.range p)
  simpa using this
theorem bitsI_len (p X : Nat) : (bitsI p X).length ≤ p := by
  unfold bitsI
  rw [List.length_map]
  exact bitsL_len p X
theorem bitsI_bef (E : Nat → Nat → Bool) {j : Nat} (h : j ≤ 320) : bitsI j (befN E j) = rsL (befN E j) := by
  unfold bitsI rsL
  rw [bitsL_low h (fun i hi => befN_high E hi)]

set_option maxRecDepth 20000 in
set_option maxHeartbeats 4000000 in
theorem specBef_any (gb off n c : Nat) (es : List Ev) (w : World) (hn : es.length = n) (hnc : n ≤ c) (h : ReadsE w (some ⟨gb, off, none⟩) es) (j : Int) :
    Calls Tryz.prog 25 #[.slice (some ⟨gb, off, none⟩) n c, .int .i64 j] w fun x w' => ∃ v, x = .returned v ∧ OwnS w' w.heap.size v (rsL (rJ es j).2) ∧ Fr w w' := by
  have cP := l5Part_any gb off n c es w hn hnc h
  have hK := lpL_300 es
  have HB : Hid (∀ J : Nat, J < (lpL es).length → 0 ≤ legLen es ∧ befN (eE (lpL es)) J = (rJ es J).2) := fun J hJ => lpL_bef hJ
  have HN : Hid (¬ (0 ≤ j ∧ j < (lpL es).length) → rsL (rJ es j).2 = []) := fun q => by rw [lpL_out q]; exact rsL_zero
  have HKK : Hid (∀ ls, ls = lpL es → 0 ≤ legLen es → KindsOk ls ∧ (legS scn0 ls).2.1 = ls.length) := by
    rintro _ rfl hb
    exact ⟨fun j hj => lpL_kinds j hj hb, (lpL_leg hb).2.2.1⟩
  obtain ⟨ls, hls⟩ : ∃ ls, ls = lpL es := ⟨_, rfl⟩
  simp only [← hls] at cP hK HB HN
  have HLS : Hid (ls = lpL es) := hls
  clear hls h hn hnc
  have cI := fun u => l1In_any j 0 ((ls.length : Int) - 1) u
  cases hb : inB 0 ((ls.length : Int) - 1) j
  · have HE := HN.out (by
      rintro ⟨q1, q2⟩
      have : inB 0 ((ls.length : Int) - 1) j = true := by simp [inB]; omega
      rw [hb] at this
      cases this)
    have HE : Hid _ := HE
    simp only [hb] at cI
    clear hb HN HB HKK
    go_enter Tryz.func25, Tryz.ntmps25
    go_wp2_with fail
    refine (cP).mono ?_
    rintro e u1 ⟨v1, rfl, o1, f1⟩
    obtain ⟨g1, c1, rfl, o1, hl1⟩ := o1
    go_wp2_with fail
    refine (cI _).mono ?_
    rintro e u2 ⟨rfl, rfl⟩
    go_wp2_with fail
    go_ret
    refine ⟨_, rfl, ?_, f1.trans (Fr.alloc _ _)⟩
    rw [HE.out]
    exact own_empty u1 _ f1.size
  · have hj : 0 ≤ j ∧ j < ls.length := by simp [inB] at hb; omega
    obtain ⟨J, rfl⟩ : ∃ J : Nat, j = J := ⟨j.toNat, by omega⟩
    have hJ : J < ls.length := by omega
    simp only [hb] at cI
    obtain ⟨hb0, HE⟩ := HB.out J hJ
    obtain ⟨hk2, hleg⟩ := HKK.out ls HLS.out hb0
    have hml : (ls.take (J + 1)).length = J + 1 := by simp; omega
    have HE : Hid (befN (edgeT (ls.take (J + 1)) (tssL (ls.take (J + 1)) (J + 1))) J = (rJ es J).2) := by
      have q := befN_legal (es := ls.take (J + 1)) (by omega) (leg_cut hleg (by omega)) (j := J) (by omega)
      rw [hml] at q
      rw [q, befN_part (by omega), HE]
      exact rfl
    obtain ⟨M, hM⟩ : ∃ M, M = (rJ es J).2 := ⟨_, rfl⟩
    rw [← hM] at HE ⊢
    clear hb HN HB HKK hj hb0 hM hleg
    have HM : Hid (bitsI J M = rsL M) := by rw [← HE.out]; exact bitsI_bef _ (by omega)
    have cB := fun g u c (f : ReadsE u (some ⟨g, 0, none⟩) ls) => l7Before_any (some ⟨g, 0, none⟩) (J + 1) c (ls.take (J + 1)) u hml (f.take _) (by omega) (hk2.part _)
    clear hml hk2
    go_enter Tryz.func25, Tryz.ntmps25
    go_wp2_with fail
    refine (cP).mono ?_
    rintro e u1 ⟨v1, rfl, o1, f1⟩
    obtain ⟨g1, c1, rfl, o1, hl1⟩ := o1
    have hc1 := own_capR o1
    have r1 := own_readsE o1 hl1
    go_wp2_with fail
    refine (cI _).mono ?_
    rintro e u2 ⟨rfl, rfl⟩
    clear cP cI o1 hl1
    have hJc : (J : Int) + 1 ≤ c1 := by omega
    have f2 := Fr.alloc u1 (.cells #[] 2)
    have cB := cB g1 _ c1 (r1.fr f2)
    have HO : Hid (OwnS (u1.alloc (.cells #[] 2)) w.heap.size (.slice (some ⟨u1.heap.size, 0, none⟩) 0 0) []) := own_empty u1 _ f1.size
    go_wp2_with fail
    obtain ⟨K, hKK⟩ : ∃ K, K = J + 1 := ⟨_, rfl⟩
    rw [← hKK] at cB HE ⊢
    have hJK : (J : Int) < K := by omega
    have hJK0 : J < K := by omega
    clear hKK
    refine cB.mono ?_
    rintro x u3 ⟨v3, rfl, ⟨sls, hsl, R3⟩, f3⟩
    clear cB r1
    obtain ⟨ag, ac, rfl, -, -⟩ := id R3.own
    rw [hsl] at R3 ⊢
    obtain ⟨b, bc, hcell, hrow, hbb⟩ := R3.row3 hsl (j := J) hJK0
    rw [HE.out] at hrow
    have o3 := HO.out.fr f3
    have F3 := (f1.trans f2).trans f3
    have hz1 := f1.size
    have hz2 : (u1.alloc (.cells #[] 2)).heap.size = u1.heap.size + 1 := by simp
    have hz3 := f3.size
    have HBB : Hid (u1.heap.size + 1 ≤ b ∧ b < u3.heap.size) := by rw [← hz2]; exact hbb
    have hne0 : (some b : Option Nat) ≠ (Value.slice (some ⟨u1.heap.size, 0, none⟩) 0 0).ownBlock := by
      have := HBB.out
      simp only [Value.ownBlock, ne_eq, Option.some.injEq]
      omega
    clear R3 hsl HE HO
    go_wp2_with fail
    go_loopw [6, 8] (fun v i wr => ∃ p : Nat, p ≤ J ∧ i = .int .i64 p ∧ OwnS wr w.heap.size v (bitsI p M) ∧ RowF wr b K M ∧ some b ≠ v.ownBlock ∧ u3.heap.size ≤ wr.heap.size ∧ Fr w wr) (fun _ i _ => J - (intOf i).toNat)
    case atStart => exact ⟨0, Nat.zero_le _, rfl, by simpa [bitsI, bitsL] using o3, hrow, hne0, Nat.le_refl _, F3⟩
    case round =>
      obtain ⟨p, hp, rfl, oO, hR, hne, hsz, hF⟩ := hrel
      by_cases hlp : p < J
      · have hpi : (p : Int) < J := by omega
        have hpK : (p : Int) < K := by omega
        have hbit := hR p (by omega)
        have HT : Hid (bitsI (p + 1) M = if M.testBit p = true then bitsI p M ++ [(p : Int)] else bitsI p M) := bitsI_succ p M
        have hone := fun u => reads_one u (p : Int) ⟨by omega, by omega⟩
        have hbl := bitsI_len p M
        obtain ⟨Y, hY⟩ : ∃ Y, Y = M.testBit p := ⟨_, rfl⟩
        rw [← hY] at hbit HT
        clear hY
        cases Y
        · have HT : Hid (bitsI (p + 1) M = bitsI p M) := HT.out.trans (if_neg (by simp))
          go_wp2_with fail
          go_roundw
          case rel => exact ⟨p + 1, by omega, by go_num, by rw [HT.out]; exact oO, hR, hne, hsz, hF⟩
          case measure => simp [intOf] <;> omega
        · have HT : Hid (bitsI (p + 1) M = bitsI p M ++ [(p : Int)]) := HT.out.trans (if_pos rfl)
          have hF1 := hF.size
          go_wp2_with (at_builtin; refine appI2 _ rfl _ _ rfl w.heap.size _ _ [(p : Int)] rfl (oO.fr (Fr.alloc _ _)) _ _ _ rfl rfl (by simp) (hone _) (by simp; omega) (by simp; omega) ?_; intro v1 w4 hv1 hg1 hat)
          go_roundw
          case rel =>
            have f5 := Fr.alloc wr (.cells #[.int .i64 (p : Int)] 2)
            have hs5 := hg1.size
            have hz5 : (wr.alloc (.cells #[.int .i64 (p : Int)] 2)).heap.size = wr.heap.size + 1 := by simp
            refine ⟨p + 1, by omega, by go_num, by rw [HT.out]; exact hv1, (hR.fr f5).keep hg1 hne, ?_, by omega, (hF.trans f5).then hg1 oO.blk⟩
            rcases hat with e | e
            · rw [e]
              exact hne
            · rw [e]
              have := HBB.out
              simp only [ne_eq, Option.some.injEq]
              omega
          case measure => simp [intOf] <;> omega
      · have e : J = p := by omega
        rw [← e, HM.out] at oO
        go_wp2_with fail
        go_ret
        exact ⟨_, rfl, oO, hF⟩

theorem memB_rs (N : Nat) (x : Int) : memB (rsL N) x = (inB 0 319 x && N.testBit x.toNat) := by
  rw [Bool.eq_iff_iff, memB_iff, Bool.and_eq_true]
  unfold rsL
  rw [List.mem_map]
  constructor
  · rintro ⟨i, h1, rfl⟩
    obtain ⟨h2, h3⟩ := (bitsL_mem _ _ _).1 h1
    refine ⟨?_, by simpa using h3⟩
    simp [inB]
    omega
  · rintro ⟨h1, h2⟩
    have h1 : 0 ≤ x ∧ x ≤ 319 := by simpa [inB] using h1
    exact ⟨x.toNat, (bitsL_mem _ _ _).2 ⟨by omega, h2⟩, by omega⟩
theorem rJ_high (es : List Ev) (j : Int) {i : Nat} (h : 300 ≤ i) : (rJ es j).2.testBit i = false := by
  by_cases q : 0 ≤ j ∧ j < (lpL es).length
  · obtain ⟨J, rfl⟩ : ∃ J : Nat, j = J := ⟨j.toNat, by omega⟩
    have h1 := (lpL_bef (es := es) (J := J) (by omega)).2
    have h2 := lpL_300 es
    rw [← h1]
    exact befN_high _ (by omega)
  · rw [lpL_out q]
    exact Nat.zero_testBit i
set_option maxHeartbeats 1000000 in
theorem specOrd_any (gb off n c : Nat) (es : List Ev) (w : World) (hn : es.length = n) (hnc : n ≤ c) (h : ReadsE w (some ⟨gb, off, none⟩) es) (i j : Int) :
    Calls Tryz.prog 46 #[.slice (some ⟨gb, off, none⟩) n c, .int .i64 i, .int .i64 j] w fun x w' => x = .returned (.bool (inB 0 299 i && (rJ es j).2.testBit i.toNat)) ∧ Fr w w' := by
  have cB := specBef_any gb off n c es w hn hnc h j
  have HM : Hid (memB (rsL (rJ es j).2) i = (inB 0 299 i && (rJ es j).2.testBit i.toNat)) := by
    rw [memB_rs]
    by_cases q : 0 ≤ i ∧ i ≤ 299
    · have e1 : inB 0 319 i = true := by simp [inB]; omega
      have e2 : inB 0 299 i = true := by simp [inB]; omega
      rw [e1, e2]
      exact rfl
    · have e2 : inB 0 299 i = false := by simp [inB]; omega
      rw [e2, Bool.false_and]
      by_cases q2 : 0 ≤ i ∧ i ≤ 319
      · rw [rJ_high es j (by omega), Bool.and_false]
        exact rfl
      · have e1 : inB 0 319 i = false := by simp [inB]; omega
        rw [e1, Bool.false_and]
        exact rfl
  obtain ⟨L, hL⟩ : ∃ L, L = rsL (rJ es j).2 := ⟨_, rfl⟩
  obtain ⟨B, hB⟩ : ∃ B, B = (inB 0 299 i && (rJ es j).2.testBit i.toNat) := ⟨_, rfl⟩
  rw [← hB, ← hL] at HM
  simp only [← hL] at cB
  rw [← hB]
  clear hL hB h
  go_enter Tryz.func46, Tryz.ntmps46
  go_wp2_with fail
  refine (cB).mono ?_
  rintro e u1 ⟨v1, rfl, o1, f1⟩
  obtain ⟨g1, c1, rfl, o1⟩ := o1
  have cI := l4In_any (some ⟨g1, 0, none⟩) L.length c1 L i u1 rfl o1.reads
  rw [HM.out] at cI
  clear cB o1
  go_wp2_with fail
  refine cI.mono ?_
  rintro x u2 ⟨rfl, rfl⟩
  clear cI
  go_wp2_with fail
  go_ret
  exact ⟨rfl, f1⟩
/-- How many pairs are at once, by the rows. -/
def atB (bf : Nat → Nat) : Nat → Int
  | 0 => 0
  | k + 1 => atB bf k + ((k : Int) - (bitsL k (bf k)).length)
theorem atB_in (bf : Nat → Nat) : ∀ k : Nat, k ≤ 300 → 0 ≤ atB bf k ∧ atB bf k ≤ 300 * (k : Int)
  | 0, _ => by simp [atB]
  | k + 1, h => by
    have ih := atB_in bf k (by omega)
    have := bitsL_len k (bf k)
    simp only [atB]
    omega
theorem atB_atO {es : List Ev} {bf : Nat → Nat} : ∀ k : Nat, k ≤ 300 → (∀ j, j < k → bf j = befN (eE es) j) → atB bf k = atO es k
  | 0, _, _ => rfl
  | k + 1, h, hb => by
    simp only [atB, atO]
    rw [atB_atO k (by omega) (fun j hj => hb j (by omega)), hb k (by omega)]
    unfold popS
    rw [bitsL_low (show k ≤ 320 by omega) (fun i hi => befN_high _ hi)]

set_option maxRecDepth 20000 in
set_option maxHeartbeats 4000000 in
theorem specOnce_any (gb off n c : Nat) (es : List Ev) (w : World) (hn : es.length = n) (hnc : n ≤ c) (h : ReadsE w (some ⟨gb, off, none⟩) es) :
    Calls Tryz.prog 47 #[.slice (some ⟨gb, off, none⟩) n c] w fun x w' => x = .returned (.int .i64 (onceL es)) ∧ Fr w w' := by
  have cP := l5Part_any gb off n c es w hn hnc h
  have hK := lpL_300 es
  have hkk : KindsOk (lpL es) := fun j hj => lpL_kinds j hj (lpL_bef hj).1
  have HE : Hid (atB (befN (edgeT (lpL es) (tssL (lpL es) (lpL es).length))) (lpL es).length = onceL es) := by
    by_cases q : 0 ≤ legLen es
    · obtain ⟨h1, h2, h3, h4, h5⟩ := lpL_leg q
      have := atB_atO (es := es) (bf := befN (edgeT (lpL es) (tssL (lpL es) (lpL es).length))) (lpL es).length hK (fun j hj => by
        rw [befN_legal (by omega) h3 hj, (lpL_bef hj).2]
        unfold rJ
        rw [if_pos ⟨by omega, by omega⟩, Int.toNat_natCast])
      rw [this, h2]
      unfold onceL
      rw [if_pos h1]
      exact rfl
    · have hz : (lpL es).length = 0 := by
        unfold lpL
        have : (legLen es).toNat = 0 := by omega
        rw [this]
        simp
      have hbig : ¬ es.length ≤ 300 := by
        intro h1
        unfold legLen at q
        rw [if_neg (by omega)] at q
        omega
      rw [hz]
      unfold onceL
      rw [if_neg hbig]
      exact rfl
  obtain ⟨ls, hls⟩ : ∃ ls, ls = lpL es := ⟨_, rfl⟩
  simp only [← hls] at cP hK HE hkk
  clear hls h hn hnc
  have cB := fun g u c (f : ReadsE u (some ⟨g, 0, none⟩) ls) => l7Before_any (some ⟨g, 0, none⟩) ls.length c ls u rfl f hK hkk
  obtain ⟨bf, hbf⟩ : ∃ bf, bf = befN (edgeT ls (tssL ls ls.length)) := ⟨_, rfl⟩
  simp only [← hbf] at cB HE
  have HA := atB_in bf
  have HA : Hid _ := HA
  clear hbf hkk
  rw [← HE.out]
  clear HE
  go_enter Tryz.func47, Tryz.ntmps47
  go_wp2_with fail
  refine (cP).mono ?_
  rintro e u1 ⟨v1, rfl, o1, f1⟩
  obtain ⟨g1, c1, rfl, o1, hl1⟩ := o1
  have r1 := own_readsE o1 hl1
  clear cP o1 hl1
  have cB := cB g1 _ c1 r1
  go_wp2_with fail
  refine cB.mono ?_
  rintro x u3 ⟨v3, rfl, ⟨sls, hsl, R3⟩, f3⟩
  clear cB r1
  obtain ⟨ag, ac, rfl, -, -⟩ := id R3.own
  rw [hsl] at R3 ⊢
  have HR : Hid (∀ u, Fr u3 u → RowsL u u1.heap.size (.slice (some ⟨ag, 0, none⟩) ls.length ac) ls.length sls bf) := fun u f => R3.fr f
  clear R3
  go_wp2_with fail
  go_loopw [5, 6] (fun p j wr => ∃ k : Nat, k ≤ ls.length ∧ j = .int .i64 k ∧ p = .int .i64 (atB bf k) ∧ Fr u3 wr) (fun _ j _ => ls.length - (intOf j).toNat)
  case atStart => exact ⟨0, Nat.zero_le _, rfl, rfl, Fr.refl _⟩
  case round =>
    obtain ⟨k, hk, rfl, rfl, hF⟩ := hrel
    by_cases hlt : k < ls.length
    · have hki : (k : Int) < ls.length := by omega
      have hb1 := HA.out k (by omega)
      have HS : Hid (atB bf (k + 1) = atB bf k + ((k : Int) - (bitsL k (bf k)).length)) := rfl
      obtain ⟨P, hP⟩ : ∃ P, P = atB bf k := ⟨_, rfl⟩
      rw [← hP] at hb1 HS ⊢
      clear hP
      obtain ⟨b, bc, hcell, hrow⟩ := (HR.out _ hF).row2 hsl (j := k) hlt
      obtain ⟨X, hX⟩ : ∃ X, X = bf k := ⟨_, rfl⟩
      rw [← hX] at HS hrow
      clear hX
      have HP0 : Hid ((.int .i64 P : Value) = .int .i64 (P + (((0 : Nat) : Int) - (bitsL 0 X).length))) := by simp [bitsL]; exact trivial
      go_wp2_with fail
      go_loopw [5, 7] (fun p i wq => ∃ q : Nat, q ≤ k ∧ i = .int .i64 q ∧ p = .int .i64 (P + ((q : Int) - (bitsL q X).length)) ∧ wq = wr) (fun _ i _ => k - (intOf i).toNat)
      case atStart => exact ⟨0, Nat.zero_le _, rfl, HP0.out, rfl⟩
      case round =>
        obtain ⟨q, hq, rfl, rfl, rfl⟩ := hrel
        by_cases hlq : q < k
        · have hqi : (q : Int) < k := by omega
          have hqn : (q : Int) < ls.length := by omega
          have hbit := hrow q (by omega)
          have hbl := bitsL_len q X
          have HT : Hid (bitsL (q + 1) X = if X.testBit q = true then bitsL q X ++ [q] else bitsL q X) := bitsL_succ q X
          obtain ⟨Y, hY⟩ : ∃ Y, Y = X.testBit q := ⟨_, rfl⟩
          rw [← hY] at hbit HT
          clear hY
          obtain ⟨N, hN⟩ : ∃ N, N = (bitsL q X).length := ⟨_, rfl⟩
          rw [← hN] at hbl ⊢
          have HN : Hid (N = (bitsL q X).length) := hN
          clear hN
          cases Y
          · have HT : Hid ((bitsL (q + 1) X).length = N) := by rw [HT.out, if_neg (by simp), HN.out]; exact rfl
            go_wp2_with fail
            go_roundw
            case rel => exact ⟨q + 1, by omega, by go_num, by rw [HT.out]; go_num, by trivial⟩
            case measure => simp [intOf] <;> omega
          · have HT : Hid ((bitsL (q + 1) X).length = N + 1) := by rw [HT.out, if_pos rfl, HN.out, List.length_append]; exact rfl
            go_wp2_with fail
            go_roundw
            case rel => exact ⟨q + 1, by omega, by go_num, by rw [HT.out]; congr 1; omega, by trivial⟩
            case measure => simp [intOf] <;> omega
        · have e : q = k := by omega
          subst e
          go_wp2_with fail
          go_roundw
          case rel => exact ⟨q + 1, by omega, by go_num, by rw [HS.out], hF⟩
          case measure => simp [intOf] <;> omega
    · have e : k = ls.length := by omega
      subst e
      go_wp2_with fail
      go_ret
      exact ⟨rfl, (f1.trans f3).trans hF⟩
end Go.Proofs.YtplnijpolkflcaaGreatDoor
