/-
  The walk of the laws' eqInt64S: are two lists of numbers alike?
-/
import Derived.Test.YtkfcchapfklpgaaPackAA
import Derived.Test.YtkfcchapfklpgaaPackAG
import Derived.Test.YtkfcchapfklpgaaPackAM
namespace Go.Proofs.Ytkfcchapfklpgaa
open Go.RowKit

set_option maxHeartbeats 400000 in
theorem eqI_any (ao bo : Option Addr) (n m c d : Nat) (xs ys : List Int) (w : World) (hn : xs.length = n) (hm : ys.length = m) (h : Reads w ao xs) (h' : Reads w bo ys) :
    Calls Try.prog 19 #[.slice ao n c, .slice bo m d] w fun e w' => e = .returned (.bool (decide (xs = ys))) ∧ ∃ nq, w' = w.drewN nq := by
  subst hn hm
  have hl := h.len
  by_cases hne : xs.length = ys.length
  · have hb : ((xs.length : Int) != (ys.length : Int)) = false := by simp [hne]
    have HNE : Hid (xs.length = ys.length) := hne
    clear hne
    go_enter Try.func19, Try.ntmps19
    go_wp2
    go_loopw [5] (fun i wr => ∃ k : Nat, k ≤ xs.length ∧ i = .int .i64 k ∧ Hid (xs.take k = ys.take k) ∧ ∃ nq, wr = w.drewN nq) (fun i _ => xs.length - (intOf i).toNat)
    case atStart => exact ⟨0, Nat.zero_le _, rfl, rfl, 0, rfl⟩
    case round =>
      obtain ⟨k, hk, rfl, HT, nq, rfl⟩ := hrel
      by_cases hlt : k < xs.length
      · have hlt' : k < ys.length := by have := HNE.out; omega
        obtain ⟨b, off, rfl, hc⟩ := h.at_ k hlt
        obtain ⟨b', off', rfl, hc'⟩ := h'.at_ k hlt'
        have hck := hc k hlt
        have hck' := hc' k hlt'
        rw [getD_at hlt] at hck
        rw [getD_at hlt'] at hck'
        clear hc hc' hb
        go_wp2
        go_quiet (fail)
        go_wp2
        · have hq : (xs[k] != ys[k]) = true := by assumption
          go_ret
          refine ⟨?_, _, drew2 _ _ _⟩
          rw [ne_of_at hlt hlt' (by simpa using hq)]
          rfl
        · have hq : (xs[k] != ys[k]) = false := by assumption
          go_roundw
          case rel => exact ⟨k + 1, by omega, by go_num, eq_step HNE.out hlt HT.out (by simpa using hq), _, rfl⟩
          case measure => simp [intOf]; omega
      · go_wp2
        go_ret
        refine ⟨?_, nq, rfl⟩
        have e : xs = ys := by
          have h1 := HT.out
          have h2 := HNE.out
          rwa [List.take_of_length_le (by omega), List.take_of_length_le (by omega)] at h1
        have : decide (xs = ys) = true := by simpa using e
        rw [this]
        rfl
  · have hb : ((xs.length : Int) != (ys.length : Int)) = true := by simp; omega
    go_enter Try.func19, Try.ntmps19
    go_wp2
    go_ret
    refine ⟨?_, 0, rfl⟩
    have : decide (xs = ys) = false := by simp only [decide_eq_false_iff_not]; intro e; exact hne (by rw [e])
    rw [this]
    rfl
end Go.Proofs.Ytkfcchapfklpgaa
/-
  The walks of the laws' markInt64S (it writes k, k + 1, .. into a list) and heldInt64S (are these still there?).
-/
namespace Go.Proofs.Ytkfcchapfklpgaa
open Go.RowKit

/-- k, k + 1, .., n of them. -/
def ups (k : Int) (n : Nat) : List Int := (List.range n).map fun j : Nat => k + (j : Int)
theorem ups_length (k : Int) (n : Nat) : (ups k n).length = n := by simp [ups]
theorem ups_at (k : Int) (n j : Nat) (h : j < n) : (ups k n)[j]? = some (k + (j : Int)) := by simp [ups, h]

theorem mark_step (xs : List Int) (q : Int) (k : Nat) (h : k < xs.length) :
    (((ups q k) ++ xs.drop k).map (Value.int .i64)).set k (.int .i64 (q + (k : Int))) = ((ups q (k + 1)) ++ xs.drop (k + 1)).map (Value.int .i64) := by
  have e : ups q (k + 1) = ups q k ++ [q + (k : Int)] := by simp [ups, List.range_succ]
  rw [e, List.map_append, List.map_append, List.map_append, List.set_append_right _ _ (by simp [ups_length]), List.length_map, ups_length, Nat.sub_self, List.drop_eq_getElem_cons h, List.map_cons, List.set_cons_zero, List.append_assoc]
  rfl

set_option maxHeartbeats 400000 in
/-- It writes into the block of the list alone. -/
theorem mark_any (g n cap : Nat) (base : Nat) (q : Int) (xs : List Int) (w : World) (hn : xs.length = n) (q0 : 0 ≤ q) (q1 : q ≤ 4294967296) (h : OwnI w base (.slice (some ⟨g, 0, none⟩) n cap) xs) :
    Calls Try.prog 20 #[.slice (some ⟨g, 0, none⟩) n cap, .int .i64 q] w fun e w' => e = .returned (.int .i64 (q + (n : Int))) ∧ OwnI w' base (.slice (some ⟨g, 0, none⟩) n cap) (ups q n) ∧ w.grownBy w' (some g) := by
  subst hn
  obtain ⟨ho, hl, hb⟩ := h
  go_enter Try.func20, Try.ntmps20
  go_wp2
  go_loopw [1, 5] (fun c i wr => ∃ k : Nat, k ≤ xs.length ∧ i = .int .i64 k ∧ c = .int .i64 (q + (k : Int)) ∧ wr.ownsRow base 2 1 (.slice (some ⟨g, 0, none⟩) xs.length cap) xs.length (((ups q k) ++ xs.drop k).map (Value.int .i64)) ∧ w.grownBy wr (some g)) (fun _ i _ => xs.length - (intOf i).toNat)
  case atStart =>
    refine ⟨0, Nat.zero_le _, rfl, by simp, by simpa [ups] using ho, ⟨rfl, rfl, rfl, Nat.le_refl _, fun _ _ _ => rfl⟩⟩
  case round =>
    obtain ⟨k, hk, rfl, rfl, hr, hf⟩ := hrel
    by_cases hlt : k < xs.length
    · have hfz := hr.frozenAt k
      have hce := hr.cellAt k (by omega)
      have hst := hr.stored k (.int .i64 (q + (k : Int)))
      rw [mark_step xs q k hlt] at hst
      obtain ⟨u, hu⟩ : ∃ u, ((((ups q k) ++ xs.drop k).map (Value.int .i64)))[k]? = some u := ⟨_, List.getElem?_eq_getElem (by simp [ups_length]; omega)⟩
      rw [hu] at hce
      clear hu ho
      go_wp2
      go_roundw
      case rel =>
        refine ⟨k + 1, by omega, by go_num, by simp; omega, hst.1, ?_⟩
        exact ⟨hst.2.os.trans hf.os, hst.2.tape.trans hf.tape, hst.2.output.trans hf.output, Nat.le_trans hf.size hst.2.size, fun i hi hne => (hst.2.block i (Nat.lt_of_lt_of_le hi hf.size) hne).trans (hf.block i hi hne)⟩
      case measure => simp [intOf]; omega
    · go_wp2
      go_ret
      have hkn : k = xs.length := by omega
      subst hkn
      refine ⟨rfl, ⟨?_, by simpa [ups_length] using hl, ?_⟩, hf⟩
      · simpa [ups_length] using hr
      · intro x hx
        simp only [ups, List.mem_map, List.mem_range] at hx
        obtain ⟨j, hj, rfl⟩ := hx
        exact ⟨by omega, by omega⟩

end Go.Proofs.Ytkfcchapfklpgaa
/-
  A region that draws its order, makes one new block and stores into it; of all else that it yields a relation tells, which holds until the store, and a plain one, which stays.
-/
namespace Go.Proofs.Ytkfcchapfklpgaa
open Go.RowKit

/-- What must have come up ahead of i. -/
def depsB (ops : Array Oper) : Nat → Nat → List Nat
  | 0, i => [i]
  | k + 1, i => i :: (match ops[i]? with | none => [] | some o => (o.after.toList.filter (Region.binds .any)).flatMap fun e => depsB ops k e.on)
def ClosedB (ops : Array Oper) (L : Nat → Bool) : Prop := ∀ (j : Nat) (o : Oper), ops[j]? = some o → L j = true → ∀ e ∈ o.after, Region.binds .any e = true → L e.on = true
theorem deps_of {ops : Array Oper} {L : Nat → Bool} (hc : ClosedB ops L) : ∀ (k i : Nat), L i = true → ∀ j ∈ depsB ops k i, L j = true
  | 0, i, hi, j, hj => by simp only [depsB, List.mem_singleton] at hj; rw [hj]; exact hi
  | k + 1, i, hi, j, hj => by
    rw [depsB, List.mem_cons] at hj
    rcases hj with rfl | hj
    · exact hi
    · cases ho : ops[i]? with
      | none => rw [ho] at hj; simp at hj
      | some o =>
        rw [ho] at hj
        simp only [List.mem_flatMap, List.mem_filter] at hj
        obtain ⟨e, ⟨he, hb⟩, hj⟩ := hj
        exact deps_of hc k e.on (hc i o ho hi e (by simpa using he) hb) j hj

structure BoxRI (ops : Array Oper) (n A S : Nat) (sg : Nat → Nat) (R : Nat → Value → World → Prop) (Pu : Nat → Value → Prop) (Z : World → Nat → Bool → Prop) (w : World) (L : Nat → Bool) (X : Nat → Value) (p : Nat) (u : World) : Prop where
  fr : Fr w u
  at_ : ∀ i, i < n → L i = true → i ≠ A → i ≠ S → Pu i (X (sg i)) ∧ (L S = false → R i (X (sg i)) u)
  bx : L A = true → X (sg A) = .pointer (some ⟨p, 0, none⟩) ∧ w.heap.size ≤ p ∧ Z u p (L S)
  sa : L S = true → L A = true
  cl : ClosedB ops L

theorem wp_region_boxR {P : Program} {ops : Array Oper} {Q : Exit → Act → World → Prop} {id : Nat} {a : Act} {w : World} (n A S : Nat) (sg : Nat → Nat) (mk : (Nat → Value) → Act) (R : Nat → Value → World → Prop) (Pu : Nat → Value → Prop) (late : Nat → Bool) (Z : World → Nat → Bool → Prop)
    (hn : ops.size = n) (hm : P.follows .mixedOrders = true) (hlex : lexOkB ops = true) (hA : A < n) (hS : S < n) (hAS : A ≠ S) (hd : ∀ i j, i < n → j < n → sg i = sg j → i = j)
    (hZ : ∀ u u' p b, Z u p b → Fr u u' → Z u' p b) (hR : ∀ i v u u', R i v u → Fr u u' → R i v u') (X0 : Nat → Value) (ha : a = mk X0)
    (hw : ∀ o, ops[S]? = some o → ∃ e ∈ o.after, e.on = A ∧ Region.binds .any e = true)
    (hdep : ((List.range n).all fun i => late i || decide (i = A) || decide (i = S) || (depsB ops n S).contains i) = true)
    (step : ∀ (i : Nat) (o : Oper) X u, i < n → i ≠ A → i ≠ S → ops[i]? = some o → Fr w u → (∀ e ∈ o.after, Region.binds .any e = true → e.on ≠ A → e.on ≠ S → Pu e.on (X (sg e.on)) ∧ (late i = false → R e.on (X (sg e.on)) u)) →
      Region.wanted o (yielded ops (mk X).tmps) = true ∧ o.wp P (mk X) u (fun a' u' => ∃ v, a' = mk (upd X (sg i) v) ∧ Fr u u' ∧ Pu i v ∧ (late i = false → R i v u')) Q)
    (hlate : ∀ i v u, late i = true → Pu i v → R i v u)
    (sA : ∀ (o : Oper) X u, ops[A]? = some o → Fr w u →
      Region.wanted o (yielded ops (mk X).tmps) = true ∧ o.wp P (mk X) u (fun a' u' => ∃ p, a' = mk (upd X (sg A) (.pointer (some ⟨p, 0, none⟩))) ∧ Fr u u' ∧ u.heap.size ≤ p ∧ Z u' p false) Q)
    (sS : ∀ (o : Oper) X p u, ops[S]? = some o → Fr w u → w.heap.size ≤ p → Z u p false → X (sg A) = .pointer (some ⟨p, 0, none⟩) → (∀ e ∈ o.after, Region.binds .any e = true → e.on ≠ A → e.on ≠ S → R e.on (X (sg e.on)) u) →
      Region.wanted o (yielded ops (mk X).tmps) = true ∧ o.wp P (mk X) u (fun a' u' => a' = mk X ∧ u.grownBy u' (some p) ∧ Z u' p true) Q)
    (done : ∀ X p u, Fr w u → w.heap.size ≤ p → Z u p true → X (sg A) = .pointer (some ⟨p, 0, none⟩) → (∀ i, i < n → i ≠ A → i ≠ S → Pu i (X (sg i))) → Q .normal (mk X) u) :
    (Code.region id ops true).wp P Q a w := by
  have hlx := lexB_of hlex
  have hdp : ∀ L, ClosedB ops L → L S = true → ∀ i, i < n → i ≠ A → i ≠ S → late i = false → L i = true := fun L hc h i hi h1 h2 h3 => by
    have := List.all_eq_true.1 hdep i (List.mem_range.2 hi)
    simp only [h3, decide_eq_false h1, decide_eq_false h2, Bool.false_or] at this
    exact deps_of hc n S h i (List.contains_iff_mem.1 this)
  have hcl : ∀ L i o, ClosedB ops L → ops[i]? = some o → (∀ e ∈ o.after, Region.binds .any e = true → L e.on = true) → ClosedB ops (cameL L i) := fun L i o hc ho hE j o' ho' hj e he hb => by
    by_cases h : e.on = i
    · simp [cameL, h]
    · simp only [cameL, if_neg h]
      by_cases hji : j = i
      · subst hji
        rw [ho] at ho'
        cases ho'
        exact hE e he hb
      · simp only [cameL, if_neg hji] at hj
        exact hc j o' ho' hj e he hb
  refine wp_region_inv (fun L a u => ∃ X p, a = mk X ∧ BoxRI ops n A S sg R Pu Z w L X p u) hm hlex ⟨X0, 0, ha, Fr.drew w, (fun _ _ h => by cases h), (fun h => by cases h), (fun h => by cases h), (fun _ _ _ h => by cases h)⟩ ?_ ?_
  · rintro i o L a u ho ⟨X, p, rfl, I⟩ hL hE
    have hi : i < n := by rw [← hn]; exact (Array.getElem?_eq_some_iff.1 ho).1
    have hLS2 : i ≠ A → i ≠ S → late i = false → L S = false := fun h1 h2 h3 => by
      cases h : L S
      · rfl
      · have := hdp L I.cl h i hi h1 h2 h3; rw [hL] at this; cases this
    have hcl2 := hcl L i o I.cl ho hE
    by_cases hiA : i = A
    · subst hiA
      obtain ⟨h1, h2⟩ := sA o X u ho I.fr
      have hLS : L S = false := by
        cases h : L S
        · rfl
        · have := I.sa h; rw [hL] at this; cases this
      refine ⟨h1, Oper.wp_mono (fun a' u' q => ?_) h2⟩
      obtain ⟨p', rfl, f', hp', z'⟩ := q
      refine ⟨_, p', rfl, I.fr.trans f', fun k hk hl k1 k2 => ?_, fun _ => ⟨upd_same _ _ _, by have := I.fr.size; omega, ?_⟩, fun h => ?_, hcl2⟩
      · rw [upd_ne _ _ (fun q => k1 (hd _ _ hk hA q))]
        simp only [cameL, if_neg k1] at hl
        exact ⟨(I.at_ k hk hl k1 k2).1, fun _ => hR _ _ _ _ ((I.at_ k hk hl k1 k2).2 hLS) f'⟩
      · simp only [cameL, if_neg (Ne.symm hAS), hLS]; exact z'
      · simp [cameL]
    · by_cases hiS : i = S
      · subst hiS
        obtain ⟨e, he, hon, hb⟩ := hw o ho
        have hLA : L A = true := by rw [← hon]; exact hE e he hb
        obtain ⟨b1, b2, b3⟩ := I.bx hLA
        rw [hL] at b3
        obtain ⟨h1, h2⟩ := sS o X p u ho I.fr b2 b3 b1 (fun e he hb k1 k2 => (I.at_ e.on (by have := hlx i o ho e he hb; omega) (hE e he hb) k1 k2).2 hL)
        refine ⟨h1, Oper.wp_mono (fun a' u' q => ?_) h2⟩
        obtain ⟨rfl, g', z'⟩ := q
        refine ⟨X, p, rfl, I.fr.then g' (by intro j hj; cases hj; omega), fun k hk hl k1 k2 => ?_, fun _ => ⟨b1, b2, ?_⟩, fun _ => ?_, hcl2⟩
        · simp only [cameL, if_neg k2] at hl
          exact ⟨(I.at_ k hk hl k1 k2).1, fun h => by simp [cameL] at h⟩
        · simp only [cameL, if_true]; exact z'
        · simp only [cameL, if_neg hAS, hLA]
      · obtain ⟨h1, h2⟩ := step i o X u hi hiA hiS ho I.fr (fun e he hb k1 k2 => by
          have h := I.at_ e.on (by have := hlx i o ho e he hb; omega) (hE e he hb) k1 k2
          exact ⟨h.1, fun hl => h.2 (hLS2 hiA hiS hl)⟩)
        refine ⟨h1, Oper.wp_mono (fun a' u' q => ?_) h2⟩
        obtain ⟨v, rfl, f', hpu, hrv⟩ := q
        refine ⟨_, p, rfl, I.fr.trans f', fun k hk hl k1 k2 => ?_, fun h => ?_, fun h => ?_, hcl2⟩
        · by_cases e : k = i
          · subst e
            rw [upd_same]
            refine ⟨hpu, fun _ => ?_⟩
            cases hl2 : late k
            · exact hrv hl2
            · exact hlate k v u' hl2 hpu
          · rw [upd_ne _ _ (fun q => e (hd _ _ hk hi q))]
            simp only [cameL, if_neg e] at hl
            refine ⟨(I.at_ k hk hl k1 k2).1, fun h => hR _ _ _ _ ((I.at_ k hk hl k1 k2).2 ?_) f'⟩
            simpa only [cameL, if_neg (Ne.symm hiS)] using h
        · simp only [cameL, if_neg (Ne.symm hiA)] at h
          obtain ⟨b1, b2, b3⟩ := I.bx h
          refine ⟨by rw [upd_ne _ _ (fun q => hiA (hd _ _ hA hi q).symm)]; exact b1, b2, ?_⟩
          simp only [cameL, if_neg (Ne.symm hiS)]
          exact hZ _ _ _ _ b3 f'
        · simp only [cameL, if_neg (Ne.symm hiS)] at h
          simp only [cameL, if_neg (Ne.symm hiA)]
          exact I.sa h
  · rintro L a u ⟨X, p, rfl, I⟩ hall
    rw [hn] at hall
    obtain ⟨b1, b2, b3⟩ := I.bx (hall A hA)
    rw [hall S hS] at b3
    exact done X p u I.fr b2 b3 b1 (fun i hi h1 h2 => (I.at_ i hi (hall i hi) h1 h2).1)
end Go.Proofs.Ytkfcchapfklpgaa
