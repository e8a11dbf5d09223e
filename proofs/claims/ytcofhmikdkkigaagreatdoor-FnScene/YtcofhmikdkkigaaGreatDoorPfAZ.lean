/-
  Pack AZ: IntsApp2, IntsMark, RegInv, RegPiv, RegLate, RegLate2, ScCopy.
-/
import Derived.Test.YtcofhmikdkkigaaGreatDoorPfAA
import Derived.Maps.AppendAt
import Derived.Test.YtcofhmikdkkigaaGreatDoorPfAY
import Derived.StillTail
import Derived.Deep.Quiet
namespace Go.Proofs.YtcofhmikdkkigaaGreatDoor
open Go.RowKit

theorem appI2 (w : World) {ops : Array Oper} {rest : List Oper} {o : Oper} {a : Act} {Q : Exit → Act → World → Prop} (hgd : o.guard = none) (s x : Operand)
    (ho : o.op = .call { callee := .builtin .append, args := #[s, x], argTypes := #[27, 27] })
    (base : Nat) (v : Value) (xs news : List Int) (hs : a.eval s = v) (hown : OwnS w base v xs)
    (ao : Option Addr) (m c : Nat) (hx : a.eval x = .slice ao m c) (hm : news.length = m) (hc : ao = none → c = 0) (hnews : Reads w ao news)
    (hlen : xs.length + news.length ≤ 4294967296) (hbase : base ≤ w.heap.size)
    (h : ∀ v' w', OwnS w' base v' (xs ++ news) → w.grownBy w' v.ownBlock → (v'.ownBlock = v.ownBlock ∨ v'.ownBlock = some w.heap.size) → wpList Tryz.prog ops Q rest (a.put o.dst v') w') : wpList Tryz.prog ops Q (o :: rest) a w := by
  obtain ⟨i0, hi, hz0, hz1, hz2⟩ := info_parts Tryz.info2
  subst hm
  have hbd : ∀ x ∈ xs ++ news, I64 x := by
    obtain ⟨g, cap, rfl, ho⟩ := hown
    intro x hx
    rcases List.mem_append.1 hx with hx | hx
    · exact ho.2.2 x hx
    · exact hnews.bd x hx
  cases ao with
  | none =>
    have hnil : news = [] := by
      cases news with
      | nil => rfl
      | cons y ys => obtain ⟨b, off, e, _⟩ := hnews.at_ 0 (by simp); cases e
    subst hnil
    have := hc rfl
    subst this
    obtain ⟨g, cap, rfl, ho'⟩ := hown
    refine wpList_append_own_none hgd s x 27 ho base 2 i0 1 Tryz.underlying27 hi _ _ _ hs ho'.1 hx ?_
    refine h _ w ?_ ⟨rfl, rfl, rfl, Nat.le_refl _, fun _ _ _ => rfl⟩ (.inl rfl)
    rw [List.append_nil]
    exact ⟨g, cap, rfl, ho'⟩
  | some ad =>
    have hcell : ∀ j u, (news.map (Value.int .i64))[j]? = some u → w.cell? (ad.add j) = some u := by
      intro j u hu
      have hj : j < news.length := by
        have := (List.getElem?_eq_some_iff.1 hu).1
        simpa using this
      obtain ⟨b, off, e, hcc⟩ := hnews.at_ j hj
      simp only [Option.some.injEq] at e
      subst e
      rw [Addr.add_lit, hcc j hj]
      rw [List.getElem?_map, List.getElem?_eq_getElem hj] at hu
      rw [getD_at hj]
      simpa using hu
    obtain ⟨g, cap, rfl, ho'⟩ := hown
    refine wpList_append_own_at w hgd s x 27 ho base 2 i0 (.int .i64 0) 1 8 Tryz.underlying27 hi hz0 hz1 hz2 rfl (by decide) _ _ _ hs ho'.1 ad news.length c (news.map (Value.int .i64)) hx (by simp) hcell (ints_oneCell _ _) (by unfold maxLen; omega) (by omega) hbase ?_
    intro v' w' hv hg hnz hat
    refine h v' w' (shape_of ?_ ?_ (by simp; omega) hbd) hg hat
    · simpa using hv
    · intro e
      have := (hnz.1 e).1
      simp at this
end Go.Proofs.YtcofhmikdkkigaaGreatDoor
namespace Go.Proofs.YtcofhmikdkkigaaGreatDoor
open Go.RowKit

def ups (k : Int) (n : Nat) : List Int := (List.range n).map fun j : Nat => k + (j : Int)
theorem ups_length (k : Int) (n : Nat) : (ups k n).length = n := by simp [ups]
theorem ups_at (k : Int) (n j : Nat) (h : j < n) : (ups k n)[j]? = some (k + (j : Int)) := by simp [ups, h]

theorem mark_step (xs : List Int) (q : Int) (k : Nat) (h : k < xs.length) :
    (((ups q k) ++ xs.drop k).map (Value.int .i64)).set k (.int .i64 (q + (k : Int))) = ((ups q (k + 1)) ++ xs.drop (k + 1)).map (Value.int .i64) := by
  have e : ups q (k + 1) = ups q k ++ [q + (k : Int)] := by simp [ups, List.range_succ]
  rw [e, List.map_append, List.map_append, List.map_append, List.set_append_right _ _ (by simp [ups_length]), List.length_map, ups_length, Nat.sub_self, List.drop_eq_getElem_cons h, List.map_cons, List.set_cons_zero, List.append_assoc]
  rfl

set_option maxHeartbeats 400000 in
theorem mark_any (g n cap : Nat) (base : Nat) (q : Int) (xs : List Int) (w : World) (hn : xs.length = n) (q0 : 0 ≤ q) (q1 : q ≤ 4294967296) (h : OwnI w base (.slice (some ⟨g, 0, none⟩) n cap) xs) :
    Calls Tryz.prog 38 #[.slice (some ⟨g, 0, none⟩) n cap, .int .i64 q] w fun e w' => e = .returned (.int .i64 (q + (n : Int))) ∧ OwnI w' base (.slice (some ⟨g, 0, none⟩) n cap) (ups q n) ∧ w.grownBy w' (some g) := by
  subst hn
  obtain ⟨ho, hl, hb⟩ := h
  go_enter Tryz.func38, Tryz.ntmps38
  go_wp2
  go_loopw [1, 5] (fun c i wr => ∃ k : Nat, k ≤ xs.length ∧ i = .int .i64 k ∧ c = .int .i64 (q + (k : Int)) ∧ wr.ownsRow base 2 1 (.slice (some ⟨g, 0, none⟩) xs.length cap) xs.length (((ups q k) ++ xs.drop k).map (Value.int .i64)) ∧ w.grownBy wr (some g)) (fun _ i _ => xs.length - (intOf i).toNat)
  case atStart =>
    refine ⟨0, Nat.zero_le _, rfl, by simp, by simpa [ups] using ho, ⟨rfl, rfl, rfl, Nat.le_refl _, fun _ _ _ => rfl⟩⟩
  case round =>
    obtain ⟨k, hk, rfl, rfl, hr, hf⟩ := hrel
    by_cases hlt : k < xs.length
    · have hfz := hr.frozenAt k
      have hce := hr.cellAt k (by omega)
      have hst := hr.stored k (.int .i64 (q + (k : Int)))
      rw [mark_step xs q k hlt] at hst
      obtain ⟨u, hu⟩ : ∃ u, ((((ups q k) ++ xs.drop k).map (Value.int .i64)))[k]? = some u := ⟨_, List.getElem?_eq_getElem (by simp [ups_length]; omega)⟩
      rw [hu] at hce
      clear hu ho
      go_wp2
      go_roundw
      case rel =>
        refine ⟨k + 1, by omega, by go_num, by simp; omega, hst.1, ?_⟩
        exact ⟨hst.2.os.trans hf.os, hst.2.tape.trans hf.tape, hst.2.output.trans hf.output, Nat.le_trans hf.size hst.2.size, fun i hi hne => (hst.2.block i (Nat.lt_of_lt_of_le hi hf.size) hne).trans (hf.block i hi hne)⟩
      case measure => simp [intOf]; omega
    · go_wp2
      go_ret
      have hkn : k = xs.length := by omega
      subst hkn
      refine ⟨rfl, ⟨?_, by simpa [ups_length] using hl, ?_⟩, hf⟩
      · simpa [ups_length] using hr
      · intro x hx
        simp only [ups, List.mem_map, List.mem_range] at hx
        obtain ⟨j, hj, rfl⟩ := hx
        exact ⟨by omega, by omega⟩

set_option maxHeartbeats 400000 in
theorem held_any (ao : Option Addr) (n cap : Nat) (q : Int) (w : World) (q0 : 0 ≤ q) (q1 : q ≤ 4294967296) (h : Reads w ao (ups q n)) :
    Calls Tryz.prog 39 #[.slice ao n cap, .int .i64 q] w fun e w' => e = .returned (.int .i64 (q + (n : Int))) ∧ w' = w := by
  have hl : n ≤ 4294967296 := by have := h.len; rwa [ups_length] at this
  go_enter Tryz.func39, Tryz.ntmps39
  go_wp2
  go_loop [1, 5] (fun c i => ∃ k : Nat, k ≤ n ∧ i = .int .i64 k ∧ c = .int .i64 (q + (k : Int))) (fun _ i => n - (intOf i).toNat)
  case atStart => exact ⟨0, Nat.zero_le _, rfl, by simp⟩
  case round =>
    obtain ⟨k, hk, rfl, rfl⟩ := hrel
    by_cases hlt : k < n
    · obtain ⟨b, off, rfl, hc⟩ := h.at_ k (by rwa [ups_length])
      have hck := hc k (by rwa [ups_length])
      rw [List.getD_eq_getElem?_getD, ups_at q n k hlt, Option.getD_some] at hck
      clear hc
      go_wp2
      go_round
      case rel => exact ⟨k + 1, by omega, by go_num, by simp; omega⟩
      case measure => simp [intOf]; omega
    · go_wp2
      go_ret
      have hkn : k = n := by omega
      subst hkn
      exact ⟨rfl, rfl⟩
end Go.Proofs.YtcofhmikdkkigaaGreatDoor
namespace Go.Proofs.YtcofhmikdkkigaaGreatDoor
open Go.RowKit

def cameL (L : Nat → Bool) (i : Nat) : Nat → Bool := fun k => if k = i then true else L k

def lexOkB (ops : Array Oper) : Bool := (List.range ops.size).all fun i => ((ops[i]?).map fun o => o.after.all fun e => !Region.binds .any e || decide (e.on < i)).getD true
theorem lexB_of {ops : Array Oper} (h : lexOkB ops = true) : ∀ (i : Nat) (o : Oper), ops[i]? = some o → ∀ e ∈ o.after, Region.binds .any e = true → e.on < i := by
  intro i o ho e he hb
  have hi := (Array.getElem?_eq_some_iff.1 ho).1
  have h1 := List.all_eq_true.1 h i (List.mem_range.2 hi)
  simp only [ho, Option.map_some, Option.getD_some, Array.all_eq_true_iff_forall_mem] at h1
  have h2 := h1 e he
  rw [hb] at h2
  simpa using h2

theorem wpAny_inv {P : Program} {ops : Array Oper} {Q : Exit → Act → World → Prop} (Inv : (Nat → Bool) → Act → World → Prop)
    (hlex : ∀ (i : Nat) (o : Oper), ops[i]? = some o → ∀ e ∈ o.after, Region.binds .any e = true → e.on < i)
    (step : ∀ (i : Nat) (o : Oper) L a u, ops[i]? = some o → Inv L a u → L i = false → (∀ e ∈ o.after, Region.binds .any e = true → L e.on = true) →
      Region.wanted o (yielded ops a.tmps) = true ∧ o.wp P a u (fun a' u' => Inv (cameL L i) a' u') Q)
    (done : ∀ L a u, Inv L a u → (∀ i, i < ops.size → L i = true) → Q .normal a u) :
    ∀ (fuel : Nat) (l : Array Bool) (a : Act) (u : World), l.size = ops.size → left ops.size l ≤ fuel → Inv (fun k => l.getD k false) a u → wpAny P .any ops Q fuel l a u := by
  have hnone : ∀ (l : Array Bool), l.size = ops.size → Region.ready .any ops l = [] → ∀ i, i < ops.size → l.getD i false = true := by
    intro l hl he
    have hmin : ∀ m, m ≤ ops.size → (∀ k, k < m → l.getD k false = true) := by
      intro m
      induction m with
      | zero => intro _ k hk; omega
      | succ m ih =>
        intro hm k hk
        by_cases hkm : k < m
        · exact ih (by omega) k hkm
        · have hk2 : k = m := by omega
          subst hk2
          cases hv : l.getD k false
          · exfalso
            have ho : ops[k]? = some ops[k] := Array.getElem?_eq_getElem (by omega)
            have : k ∈ Region.ready .any ops l := mem_ready.2 ⟨by
              rw [Array.getD_eq_getD_getElem?] at hv ⊢
              rw [Array.getElem?_eq_getElem (by omega)] at hv ⊢
              exact hv, _, ho, fun e he2 hb2 => ih (by omega) _ (hlex k _ ho e he2 hb2)⟩
            rw [he] at this
            cases this
          · rfl
    exact fun i hi => hmin ops.size (Nat.le_refl _) i hi
  intro fuel
  induction fuel with
  | zero =>
    intro l a u hl hf hI
    have hall : ∀ i, i < ops.size → l.getD i false = true := fun i hi => by
      cases hv : l.getD i false
      · have := left_pos (l := l) (n := ops.size) hi hv
        omega
      · rfl
    refine ⟨?_, done _ a u hI hall⟩
    cases hr : Region.ready .any ops l with
    | nil => rfl
    | cons i r =>
      exfalso
      have hm : i ∈ Region.ready .any ops l := by rw [hr]; exact List.mem_cons_self
      obtain ⟨q1, o, q2, -⟩ := mem_ready.1 hm
      have hi : i < ops.size := (Array.getElem?_eq_some_iff.1 q2).1
      have := hall i hi
      rw [Array.getD_eq_getD_getElem?] at this q1
      rw [Array.getElem?_eq_getElem (by omega)] at this q1
      simp at this q1
      rw [this] at q1
      cases q1
  | succ fuel ih =>
    intro l a u hl hf hI
    refine ⟨fun he => done _ a u hI (hnone l hl he), fun i hi => ?_⟩
    obtain ⟨q1, o, q2, q3⟩ := mem_ready.1 hi
    have hi2 : i < ops.size := (Array.getElem?_eq_some_iff.1 q2).1
    have hfi : l.getD i false = false := by
      rw [Array.getD_eq_getD_getElem?] at q1 ⊢
      rw [Array.getElem?_eq_getElem (by omega)] at q1 ⊢
      exact q1
    have hlt := left_put hl hi2 hfi
    obtain ⟨w1, w2⟩ := step i o _ a u q2 hI hfi q3
    unfold wpOp
    simp only [q2]
    rw [if_pos w1]
    refine .inl (Oper.wp_mono (fun a' u' hq => ih _ a' u' (by simpa using hl) (by omega) ?_) w2)
    have e : (fun k => (l.setIfInBounds i true).getD k false) = cameL (fun k => l.getD k false) i := funext fun k => getD_put (by omega)
    rw [e]
    exact hq
theorem wp_region_inv {P : Program} {ops : Array Oper} {Q : Exit → Act → World → Prop} {id : Nat} {a : Act} {w : World} (Inv : (Nat → Bool) → Act → World → Prop)
    (hm : P.follows .mixedOrders = true) (hlex : lexOkB ops = true) (h0 : Inv (fun _ => false) a w.drew)
    (step : ∀ (i : Nat) (o : Oper) L a u, ops[i]? = some o → Inv L a u → L i = false → (∀ e ∈ o.after, Region.binds .any e = true → L e.on = true) →
      Region.wanted o (yielded ops a.tmps) = true ∧ o.wp P a u (fun a' u' => Inv (cameL L i) a' u') Q)
    (done : ∀ L a u, Inv L a u → (∀ i, i < ops.size → L i = true) → Q .normal a u) : (Code.region id ops true).wp P Q a w := by
  refine wp_region_any hm (wpAny_inv Inv (lexB_of hlex) step done _ _ _ _ (by simp) ?_ ?_)
  · unfold left
    exact Nat.le_trans (List.length_filter_le _ _) (by simp)
  · have e : (fun k => (Array.replicate ops.size false).getD k false) = fun _ => false := funext fun k => by
      rw [Array.getD_eq_getD_getElem?, Array.getElem?_replicate]
      split <;> rfl
    rw [e]
    exact h0
end Go.Proofs.YtcofhmikdkkigaaGreatDoor
namespace Go.Proofs.YtcofhmikdkkigaaGreatDoor
open Go.RowKit

section
variable {P : Program} {md : Region.Mode} {ops : Array Oper} {C C2 : World → Prop}

def behindB (md : Region.Mode) (ops : Array Oper) (n : Nat) : Bool :=
  (List.range ops.size).all fun t => decide (t ≤ n) || (List.range t).any fun s => decide (n ≤ s) && Region.waitsFor md ops t s
def headB (md : Region.Mode) (ops : Array Oper) : Nat → Nat → Array Bool → Bool
  | 0, k, listed => decide (Region.ready md ops listed = [k]) && Region.lexFrom md ops (ops.size - k - 1) (k + 1) (listed.setIfInBounds k true)
  | f + 1, k, listed => (Region.ready md ops listed).contains k && Region.free md ops listed k && headB md ops f (k + 1) (listed.setIfInBounds k true)
def pivotB (md : Region.Mode) (ops : Array Oper) (n : Nat) : Bool :=
  Region.noSelect ops && decide (n < ops.size) && Region.sinkB md ops n && behindB md ops n && headB md ops n 0 (Array.replicate ops.size false)

theorem sink_wait {n i : Nat} (hs : Region.sinkB md ops n = true) (hi : i < n) : ∃ j, i < j ∧ j ≤ n ∧ Region.waitsFor md ops j i = true := by
  unfold Region.sinkB at hs
  have h1 := List.all_eq_true.1 hs i (List.mem_range.2 hi)
  obtain ⟨j, hj, h2⟩ := List.any_eq_true.1 h1
  simp only [Bool.and_eq_true, decide_eq_true_eq] at h2
  have := List.mem_range.1 hj
  exact ⟨j, h2.1, by omega, h2.2⟩
theorem pivot_waits {n : Nat} (hs : Region.sinkB md ops n = true) {listed : Array Bool} (inv : HeadInv md ops n listed) : ∀ (d i : Nat), n - i ≤ d → i < n → listed.getD i false = false → n ∉ Region.ready md ops listed
  | 0, i, hd, hi, _ => by omega
  | d + 1, i, hd, hi, hl => by
    obtain ⟨j, h1, h2, h3⟩ := sink_wait hs hi
    obtain ⟨oj, ho, e, he, hb, hon⟩ := Region.waitsFor_spec h3
    by_cases hjn : j = n
    · subst hjn
      intro hr
      obtain ⟨-, o, ho2, hall⟩ := mem_ready.1 hr
      rw [ho] at ho2
      cases ho2
      have := hall e he hb
      rw [hon, hl] at this
      cases this
    · refine pivot_waits hs inv d j (by omega) (by omega) ?_
      cases hj : listed.getD j false
      · rfl
      · have := inv.closed j oj ho hj e he hb
        rw [hon, hl] at this
        cases this
theorem behind_not {n t : Nat} (hb : behindB md ops n = true) {listed : Array Bool} (inv : HeadInv md ops n listed) (ht : n < t) : t ∉ Region.ready md ops listed := by
  intro hr
  obtain ⟨-, o, ho, hall⟩ := mem_ready.1 hr
  have hts := (Array.getElem?_eq_some_iff.1 ho).1
  unfold behindB at hb
  have h1 := List.all_eq_true.1 hb t (List.mem_range.2 hts)
  simp only [Bool.or_eq_true, decide_eq_true_eq] at h1
  rcases h1 with h1 | h1
  · omega
  · obtain ⟨s, hs, h2⟩ := List.any_eq_true.1 h1
    simp only [Bool.and_eq_true, decide_eq_true_eq] at h2
    obtain ⟨oj, ho2, e, he, hbd, hon⟩ := Region.waitsFor_spec h2.2
    rw [ho] at ho2
    cases ho2
    have h3 := hall e he hbd
    have h4 := inv.tail s h2.1 (by have := List.mem_range.1 hs; omega)
    rw [hon, getD_both h4] at h3
    cases h3

def wpHd (P : Program) (md : Region.Mode) (ops : Array Oper) (C : World → Prop) (n : Nat) (L : Array Bool → Act → Prop) : Nat → Array Bool → Act → Prop
  | 0, listed, a => L listed a
  | f + 1, listed, a => Region.ready md ops listed ≠ [] ∧ ∀ i ∈ Region.ready md ops listed, i < n ∧ qOp P ops C i (wpHd P md ops C n L f (listed.setIfInBounds i true)) a

theorem wpAny_of_hd {n g : Nat} {L : Array Bool → Act → Prop} {Q' : Exit → Act → World → Prop} (hL : ∀ listed a w, C w → L listed a → wpAny P md ops Q' g listed a w) :
    ∀ (f : Nat) (listed : Array Bool) (a : Act) (w : World), C w → wpHd P md ops C n L f listed a → wpAny P md ops Q' (f + g) listed a w
  | 0, listed, a, w, hw, h => by rw [Nat.zero_add]; exact hL _ _ _ hw h
  | f + 1, listed, a, w, hw, h => by
    have e : f + 1 + g = (f + g) + 1 := by omega
    rw [e]
    exact ⟨fun h0 => absurd h0 h.1, fun i hi => wpOp_of_qOp hw (fun a' w' hw' h' => wpAny_of_hd hL f _ a' w' hw' h') (h.2 i hi).2⟩

theorem hd_first {n i : Nat} {oi : Oper} {v : Value} {L : Array Bool → Act → Prop} (hi : ops[i]? = some oi) (hsel : Region.noSelect ops = true) (hs : Region.sinkB md ops n = true) (hb : behindB md ops n = true) (hin : i < n)
    (hdone : ∀ listed a, L listed a → ∀ j ∈ Region.ready md ops listed, n ≤ j) :
    ∀ (f : Nat) (listed : Array Bool) (a : Act), HeadInv md ops n listed →
      (∀ j oj, ops[j]? = some oj → j ≠ i → listed.getD j true = false → (∀ e ∈ oj.after, Region.binds md e = true → e.on ≠ i) → oi.apart ops oj = true) →
      i ∈ Region.ready md ops listed → YieldsIn P ops C oi v a →
      wpHd P md ops C n L f (listed.setIfInBounds i true) (a.put oi.dst v) → wpHd P md ops C n L (f + 1) listed a := by
  intro f
  induction f with
  | zero =>
    intro listed a inv _ hr hy H
    refine ⟨fun h => by rw [h] at hr; (cases hr), fun j hj => ?_⟩
    have hjn : j < n := by
      have h1 := pivot_waits hs inv (n - i) i (Nat.le_refl _) hin (getD_both (mem_ready.1 hr).1)
      have h2 := fun q : n < j => behind_not hb inv q hj
      by_cases e : j = n
      · rw [e] at hj; exact absurd hj h1
      · exact Nat.lt_of_le_of_ne (Nat.not_lt.1 h2) e
    refine ⟨hjn, ?_⟩
    by_cases hji : j = i
    · subst hji
      exact hy.qOp hi H
    · have := hdone _ _ H j (ready_mono hj hji)
      omega
  | succ f ih =>
    intro listed a inv hfree hr hy H
    refine ⟨fun h => by rw [h] at hr; (cases hr), fun j hj => ?_⟩
    have hjn : j < n := by
      have h1 := pivot_waits hs inv (n - i) i (Nat.le_refl _) hin (getD_both (mem_ready.1 hr).1)
      have h2 := fun q : n < j => behind_not hb inv q hj
      by_cases e : j = n
      · rw [e] at hj; exact absurd hj h1
      · exact Nat.lt_of_le_of_ne (Nat.not_lt.1 h2) e
    refine ⟨hjn, ?_⟩
    by_cases hji : j = i
    · subst hji
      exact hy.qOp hi H
    · have h1 := (H.2 j (ready_mono hj hji)).2
      obtain ⟨hjun, oj, hoj, hall⟩ := mem_ready.1 hj
      have hnot : ∀ e ∈ oj.after, Region.binds md e = true → e.on ≠ i := fun e he hbd heq => by
        have h3 := hall e he hbd
        rw [heq, getD_both (mem_ready.1 hr).1] at h3
        cases h3
      have h2 := qOp_put hoj (hfree j oj hoj hji hjun hnot) (fun cs b => Region.noSelect_spec hsel i oi cs b hi) (fun cs b => Region.noSelect_spec hsel j oj cs b hoj) hy h1
      refine qOp_mono (fun a' h3 => ih (listed.setIfInBounds j true) a' (inv.set hj hjn) (fun k ok hk hki hun hno => ?_) (ready_mono hr (Ne.symm hji)) h3.1 ?_) h2
      · refine hfree k ok hk hki ?_ hno
        by_cases hjk : j = k
        · subst hjk; exact hjun
        · rw [getD_set_ne true hjk] at hun; exact hun
      · rw [Array.setIfInBounds_comm _ _ hji]
        exact h3.2

theorem hd_lex {n : Nat} {Lq : Act → Prop} (hsel : Region.noSelect ops = true) (hs : Region.sinkB md ops n = true) (hb : behindB md ops n = true) :
    ∀ (l : List Oper) (k : Nat) (listed : Array Bool) (a : Act), (∀ j, j < l.length → l[j]? = ops[k + j]?) → k + l.length = n → HeadInv md ops n listed →
    headB md ops l.length k listed = true → wpQuiet P ops C Lq l a →
    wpHd P md ops C n (fun listed' a' => headB md ops 0 n listed' = true ∧ Lq a') l.length listed a
  | [], k, listed, a, _, hk, _, hB, h => by
    have : k = n := by simpa using hk
    subst this
    exact ⟨hB, h⟩
  | o :: l, k, listed, a, hl, hk, inv, hB, h => by
    have h0 : ops[k]? = some o := by simpa using (hl 0 (by simp)).symm
    simp only [List.length_cons, headB, Bool.and_eq_true] at hB
    obtain ⟨⟨hr, hf⟩, hB'⟩ := hB
    have hkn : k < n := by simp only [List.length_cons] at hk; omega
    have hr' : k ∈ Region.ready md ops listed := by simpa using hr
    have hst : qOp P ops C k (wpQuiet P ops C Lq l) a := by unfold qOp; simp only [h0]; exact h
    obtain ⟨v, hy, hK⟩ := yieldsIn_of_qOp h0 hst
    refine hd_first h0 hsel hs hb hkn (fun listed' a' hL j hj => ?_) l.length listed a inv (Region.free_spec h0 hf) hr' hy
      (hd_lex hsel hs hb l (k + 1) _ _ (fun j hj => by have := hl (j + 1) (by simpa using hj); simpa [Nat.add_assoc, Nat.add_comm 1 j] using this) (by simp only [List.length_cons] at hk; omega) (inv.set hr' hkn) hB' hK)
    have h1 := hL.1
    simp only [headB, Bool.and_eq_true, decide_eq_true_eq] at h1
    rw [h1.1] at hj
    simp only [List.mem_singleton] at hj
    omega

theorem wp_region_pivot {id : Nat} {Q : Exit → Act → World → Prop} {a : Act} {w : World} {l : List Oper} (n : Nat) (hm : P.follows .mixedOrders = true) (hB : pivotB .any l.toArray n = true) (hC : C w.drew)
    (h : wpQuiet P l.toArray C (fun a1 => ∀ u, C u → ∀ o, l[n]? = some o → Region.wanted o (yielded l.toArray a1.tmps) = true ∧
      o.wp P a1 u (fun a2 u2 => C2 u2 ∧ wpQuiet P l.toArray C2 (fun a' => ∀ w', C2 w' → Q .normal a' w') (l.drop (n + 1)) a2) Q) (l.take n) a) : (Code.region id l.toArray true).wp P Q a w := by
  simp only [pivotB, Bool.and_eq_true, decide_eq_true_eq] at hB
  obtain ⟨⟨⟨⟨hsel, hn⟩, hs⟩, hb⟩, hh⟩ := hB
  have hn' : n < l.length := by simpa using hn
  have htl : (l.take n).length = n := by simp; omega
  have inv0 : HeadInv .any l.toArray n (Array.replicate l.toArray.size false) :=
    ⟨by simp, fun j oj _ hl => (by rw [getD_replicate_false] at hl; cases hl), fun t _ ht => getD_in (by simpa using ht) (getD_replicate_false _ _)⟩
  have H := hd_lex (P := P) (C := C) (md := .any) hsel hs hb (l.take n) 0 (Array.replicate l.toArray.size false) a (fun j hj => by
    have hj' : j < n := by rw [htl] at hj; exact hj
    simp [hj']) (by simpa using htl) inv0 (by rw [htl]; exact hh) h
  refine wp_region_any hm ?_
  have hgo := wpAny_of_hd (P := P) (C := C) (md := .any) (Q' := Q) (g := l.toArray.size - n) (fun listed a1 u hu hL => ?_) _ _ _ w.drew hC H
  · rw [htl] at hgo
    have e : n + (l.toArray.size - n) = l.toArray.size := by omega
    rw [e] at hgo
    exact hgo
  · obtain ⟨h1, h2⟩ := hL
    simp only [headB, Bool.and_eq_true, decide_eq_true_eq] at h1
    obtain ⟨hr, hlex⟩ := h1
    have e : l.toArray.size - n = (l.toArray.size - n - 1) + 1 := by omega
    rw [e]
    refine ⟨fun h0 => (by rw [hr] at h0; cases h0), fun i hi => ?_⟩
    rw [hr] at hi
    simp only [List.mem_singleton] at hi
    subst hi
    obtain ⟨o, ho⟩ : ∃ o, l[i]? = some o := ⟨l[i], by simp [hn']⟩
    have hoA : l.toArray[i]? = some o := by simpa using ho
    obtain ⟨hw, hwp⟩ := h2 u hu o ho
    unfold wpOp
    simp only [hoA]
    rw [if_pos hw]
    refine .inl (Oper.wp_mono (fun a2 u2 hq => ?_) hwp)
    have hdl : (l.drop (i + 1)).length = l.toArray.size - i - 1 := by simp; omega
    have hq2 := wpAnyQ_lex (P := P) (C := C2) (md := .any) hsel (l.drop (i + 1)) (i + 1) _ a2 (fun j => by simp [List.getElem?_drop]) (by rw [hdl]; exact hlex) hq.2
    rw [hdl] at hq2
    exact wpAny_of_quiet (fun a' w' hw' h' => h' w' hw') _ _ _ _ hq.1 hq2
end
end Go.Proofs.YtcofhmikdkkigaaGreatDoor
namespace Go.Proofs.YtcofhmikdkkigaaGreatDoor
open Go.RowKit

section
variable {P : Program} {ops : Array Oper} {Q : Exit → Act → World → Prop}

def consOk (ops : Array Oper) (n : Nat) (cons : Nat → Nat) : Bool := (List.range n).all fun i => Region.waitsFor .any ops (cons i) i

theorem late_all {n : Nat} (hs : Region.sinkB .any ops n = true) {L : Nat → Bool}
    (hc : ∀ (j : Nat) (o : Oper), ops[j]? = some o → L j = true → ∀ e ∈ o.after, Region.binds .any e = true → L e.on = true)
    {on : Oper} (ho : ops[n]? = some on) (hr : ∀ e ∈ on.after, Region.binds .any e = true → L e.on = true) : ∀ (d i : Nat), n - i ≤ d → i < n → L i = true
  | 0, i, hd, hi => by omega
  | d + 1, i, hd, hi => by
    obtain ⟨j, h1, h2, h3⟩ := sink_wait hs hi
    obtain ⟨oj, hoj, e, he, hb, hon⟩ := Region.waitsFor_spec h3
    by_cases hjn : j = n
    · subst hjn
      rw [ho] at hoj
      cases hoj
      have := hr e he hb
      rwa [hon] at this
    · have hj := late_all hs hc ho hr d j (by omega) (by omega)
      have := hc j oj hoj hj e he hb
      rwa [hon] at this

def LateI (P : Program) (ops : Array Oper) (Q : Exit → Act → World → Prop) (n : Nat) (dst cons : Nat → Nat) (mk : (Nat → Value) → Act) (R : Nat → Value → World → Prop) (w : World) (L : Nat → Bool) (a : Act) (u : World) : Prop :=
  (∀ (j : Nat) (o : Oper), ops[j]? = some o → L j = true → ∀ e ∈ o.after, Region.binds .any e = true → L e.on = true) ∧
  ((L n = false ∧ L (n + 1) = false ∧ ∃ X, a = mk X ∧ Fr w u ∧ ∀ i, i < n → L i = true → L (cons i) = false → R i (X (dst i)) u) ∨
   (L n = true ∧ L (n + 1) = false ∧ (∀ i, i < n → L i = true) ∧ ∀ o2, ops[n + 1]? = some o2 → Region.wanted o2 (yielded ops a.tmps) = true ∧ o2.wp P a u (fun a2 u2 => Q .normal a2 u2) Q) ∨
   ((∀ i, i < n + 2 → L i = true) ∧ Q .normal a u))

theorem wp_region_late {id : Nat} {a : Act} {w : World} (n : Nat) (dst cons : Nat → Nat) (mk : (Nat → Value) → Act) (R : Nat → Value → World → Prop)
    (hn : ops.size = n + 2) (hm : P.follows .mixedOrders = true) (hlex : lexOkB ops = true) (hs : Region.sinkB .any ops n = true) (hw : Region.waitsFor .any ops (n + 1) n = true)
    (hd : ∀ i j, i < n → j < n → dst i = dst j → i = j) (hc : consOk ops n cons = true) (X0 : Nat → Value) (ha : a = mk X0)
    (step : ∀ (i : Nat) (o : Oper) X u, i < n → ops[i]? = some o → Fr w u → (∀ k, k < i → cons k = i → R k (X (dst k)) u) →
      Region.wanted o (yielded ops (mk X).tmps) = true ∧ o.wp P (mk X) u (fun a' u' => ∃ v, a' = mk (upd X (dst i) v) ∧ Fr w u' ∧ R i v u' ∧ ∀ k x, k < n → k ≠ i → cons k ≠ i → R k x u → R k x u') Q)
    (piv : ∀ (o o2 : Oper) X u, ops[n]? = some o → ops[n + 1]? = some o2 → Fr w u → (∀ k, k < n → cons k = n → R k (X (dst k)) u) →
      Region.wanted o (yielded ops (mk X).tmps) = true ∧ o.wp P (mk X) u (fun a' u' => Region.wanted o2 (yielded ops a'.tmps) = true ∧ o2.wp P a' u' (fun a2 u2 => Q .normal a2 u2) Q) Q) :
    (Code.region id ops true).wp P Q a w := by
  have hlx := lexB_of hlex
  have hcw : ∀ i, i < n → ∃ o, ops[cons i]? = some o ∧ ∃ e ∈ o.after, Region.binds .any e = true ∧ e.on = i := fun i hi => by
    have h1 := List.all_eq_true.1 hc i (List.mem_range.2 hi)
    obtain ⟨oj, h2, e, he, hb, hon⟩ := Region.waitsFor_spec h1
    exact ⟨oj, h2, e, he, hb, hon⟩
  have hcl : ∀ i, i < n → i < cons i := fun i hi => by
    obtain ⟨o, ho, e, he, hb, hon⟩ := hcw i hi
    have := hlx _ o ho e he hb
    omega
  refine wp_region_inv (LateI P ops Q n dst cons mk R w) hm hlex ⟨fun _ _ _ q => (by cases q), .inl ⟨rfl, rfl, X0, ha, Fr.drew w, fun _ _ q => (by cases q)⟩⟩ ?_ ?_
  · rintro i o L a u ho ⟨hcl2, hI⟩ hL hE
    have hi : i < n + 2 := by rw [← hn]; exact (Array.getElem?_eq_some_iff.1 ho).1
    have hcl3 : ∀ (j : Nat) (o' : Oper), ops[j]? = some o' → cameL L i j = true → ∀ e ∈ o'.after, Region.binds .any e = true → cameL L i e.on = true := fun j o' ho' hj e he hb => by
      by_cases hji : j = i
      · subst hji
        rw [ho] at ho'
        cases ho'
        have := hE e he hb
        unfold cameL
        split
        · rfl
        · exact this
      · unfold cameL at hj
        rw [if_neg hji] at hj
        have := hcl2 j o' ho' hj e he hb
        unfold cameL
        split
        · rfl
        · exact this
    rcases hI with ⟨hLn, hLn1, X, rfl, hF, hX⟩ | ⟨hLn, hLn1, hall, hM⟩ | ⟨hall, -⟩
    · have hin1 : i ≠ n + 1 := by
        intro e
        subst e
        obtain ⟨oj, h2, e, he, hb, hon⟩ := Region.waitsFor_spec hw
        rw [ho] at h2
        cases h2
        have := hE e he hb
        rw [hon, hLn] at this
        cases this
      by_cases hin : i = n
      · subst hin
        have hall := late_all hs hcl2 ho hE
        obtain ⟨o2, ho2⟩ : ∃ o2, ops[i + 1]? = some o2 := ⟨ops[i + 1], Array.getElem?_eq_getElem (by omega)⟩
        obtain ⟨h1, h2⟩ := piv o o2 X u ho ho2 hF (fun k hk hck => hX k hk (hall (i - k) k (Nat.le_refl _) hk) (by rw [hck]; exact hL))
        refine ⟨h1, Oper.wp_mono (fun a' u' q => ⟨hcl3, .inr (.inl ⟨by simp [cameL], ?_, fun k hk => ?_, fun o3 ho3 => ?_⟩)⟩) h2⟩
        · unfold cameL; rw [if_neg (by omega)]; exact hLn1
        · unfold cameL; rw [if_neg (by omega)]; exact hall (i - k) k (Nat.le_refl _) hk
        · rw [ho2] at ho3; cases ho3; exact q
      · have hi2 : i < n := by omega
        obtain ⟨h1, h2⟩ := step i o X u hi2 ho hF (fun k hk hck => by
          obtain ⟨oc, hoc, e, he, hb, hon⟩ := hcw k (by omega)
          rw [hck, ho] at hoc
          cases hoc
          have := hE e he hb
          rw [hon] at this
          exact hX k (by omega) this (by rw [hck]; exact hL))
        refine ⟨h1, Oper.wp_mono (fun a' u' q => ⟨hcl3, .inl ⟨?_, ?_, ?_⟩⟩) h2⟩
        · unfold cameL; rw [if_neg (by omega)]; exact hLn
        · unfold cameL; rw [if_neg (by omega)]; exact hLn1
        · obtain ⟨v, rfl, f', r', st⟩ := q
          refine ⟨_, rfl, f', fun k hk hlk hck => ?_⟩
          by_cases hki : k = i
          · subst hki
            rw [upd_same]
            exact r'
          · unfold cameL at hlk hck
            rw [if_neg hki] at hlk
            by_cases hci : cons k = i
            · rw [if_pos hci] at hck; cases hck
            · rw [if_neg hci] at hck
              rw [upd_ne _ _ (fun q => hki (hd _ _ hk hi2 q))]
              exact st k _ hk hki hci (hX k hk hlk hck)
    · have hin : i = n + 1 := by
        by_cases h1 : i = n + 1
        · exact h1
        · exfalso
          by_cases h2 : i = n
          · subst h2; rw [hLn] at hL; cases hL
          · have := hall i (by omega); rw [hL] at this; cases this
      subst hin
      obtain ⟨h1, h2⟩ := hM o ho
      refine ⟨h1, Oper.wp_mono (fun a' u' q => ⟨hcl3, .inr (.inr ⟨fun k hk => ?_, q⟩)⟩) h2⟩
      unfold cameL
      split
      · rfl
      · rename_i hk2
        by_cases hk3 : k = n
        · subst hk3; exact hLn
        · exact hall k (by omega)
    · have := hall i hi
      rw [hL] at this
      cases this
  · rintro L a u ⟨-, hI⟩ hall
    rw [hn] at hall
    rcases hI with ⟨hLn, -, -⟩ | ⟨-, hLn1, -⟩ | ⟨-, q⟩
    · have := hall n (by omega); rw [hLn] at this; cases this
    · have := hall (n + 1) (by omega); rw [hLn1] at this; cases this
    · exact q
end
end Go.Proofs.YtcofhmikdkkigaaGreatDoor
namespace Go.Proofs.YtcofhmikdkkigaaGreatDoor
open Go.RowKit

section
variable {P : Program} {ops : Array Oper} {Q : Exit → Act → World → Prop}

def LateC (P : Program) (ops : Array Oper) (Q : Exit → Act → World → Prop) (n : Nat) (dst cons : Nat → Nat) (mk : (Nat → Value) → Act) (R : Nat → Value → World → Prop) (C : (Nat → Bool) → World → Prop) (L : Nat → Bool) (a : Act) (u : World) : Prop :=
  (∀ (j : Nat) (o : Oper), ops[j]? = some o → L j = true → ∀ e ∈ o.after, Region.binds .any e = true → L e.on = true) ∧
  ((L n = false ∧ L (n + 1) = false ∧ ∃ X, a = mk X ∧ C L u ∧ ∀ i, i < n → L i = true → L (cons i) = false → R i (X (dst i)) u) ∨
   (L n = true ∧ L (n + 1) = false ∧ (∀ i, i < n → L i = true) ∧ ∀ o2, ops[n + 1]? = some o2 → Region.wanted o2 (yielded ops a.tmps) = true ∧ o2.wp P a u (fun a2 u2 => Q .normal a2 u2) Q) ∨
   ((∀ i, i < n + 2 → L i = true) ∧ Q .normal a u))

theorem wp_region_late2 {id : Nat} {a : Act} {w : World} (n : Nat) (dst cons : Nat → Nat) (mk : (Nat → Value) → Act) (R : Nat → Value → World → Prop) (C : (Nat → Bool) → World → Prop) (hC : C (fun _ => false) w.drew)
    (hn : ops.size = n + 2) (hm : P.follows .mixedOrders = true) (hlex : lexOkB ops = true) (hs : Region.sinkB .any ops n = true) (hw : Region.waitsFor .any ops (n + 1) n = true)
    (hd : ∀ i j, i < n → j < n → dst i = dst j → i = j) (hc : consOk ops n cons = true) (X0 : Nat → Value) (ha : a = mk X0)
    (step : ∀ (i : Nat) (o : Oper) X u L, i < n → ops[i]? = some o → C L u → L i = false → L (cons i) = false → (∀ k, k < i → cons k = i → R k (X (dst k)) u) → (∀ k, k < n → cons k = n → Region.waitsFor .any ops i k = true → R k (X (dst k)) u) →
      Region.wanted o (yielded ops (mk X).tmps) = true ∧ o.wp P (mk X) u (fun a' u' => ∃ v, a' = mk (upd X (dst i) v) ∧ C (cameL L i) u' ∧ R i v u' ∧ ∀ k x, k < n → k ≠ i → cons k ≠ i → R k x u → R k x u') Q)
    (piv : ∀ (o o2 : Oper) X u L, ops[n]? = some o → ops[n + 1]? = some o2 → C L u → (∀ k, k < n → cons k = n → R k (X (dst k)) u) →
      Region.wanted o (yielded ops (mk X).tmps) = true ∧ o.wp P (mk X) u (fun a' u' => Region.wanted o2 (yielded ops a'.tmps) = true ∧ o2.wp P a' u' (fun a2 u2 => Q .normal a2 u2) Q) Q) :
    (Code.region id ops true).wp P Q a w := by
  have hlx := lexB_of hlex
  have hcw : ∀ i, i < n → ∃ o, ops[cons i]? = some o ∧ ∃ e ∈ o.after, Region.binds .any e = true ∧ e.on = i := fun i hi => by
    have h1 := List.all_eq_true.1 hc i (List.mem_range.2 hi)
    obtain ⟨oj, h2, e, he, hb, hon⟩ := Region.waitsFor_spec h1
    exact ⟨oj, h2, e, he, hb, hon⟩
  have hcl : ∀ i, i < n → i < cons i := fun i hi => by
    obtain ⟨o, ho, e, he, hb, hon⟩ := hcw i hi
    have := hlx _ o ho e he hb
    omega
  refine wp_region_inv (LateC P ops Q n dst cons mk R C) hm hlex ⟨fun _ _ _ q => (by cases q), .inl ⟨rfl, rfl, X0, ha, hC, fun _ _ q => (by cases q)⟩⟩ ?_ ?_
  · rintro i o L a u ho ⟨hcl2, hI⟩ hL hE
    have hi : i < n + 2 := by rw [← hn]; exact (Array.getElem?_eq_some_iff.1 ho).1
    have hcl3 : ∀ (j : Nat) (o' : Oper), ops[j]? = some o' → cameL L i j = true → ∀ e ∈ o'.after, Region.binds .any e = true → cameL L i e.on = true := fun j o' ho' hj e he hb => by
      by_cases hji : j = i
      · subst hji
        rw [ho] at ho'
        cases ho'
        have := hE e he hb
        unfold cameL
        split
        · rfl
        · exact this
      · unfold cameL at hj
        rw [if_neg hji] at hj
        have := hcl2 j o' ho' hj e he hb
        unfold cameL
        split
        · rfl
        · exact this
    rcases hI with ⟨hLn, hLn1, X, rfl, hF, hX⟩ | ⟨hLn, hLn1, hall, hM⟩ | ⟨hall, -⟩
    · have hin1 : i ≠ n + 1 := by
        intro e
        subst e
        obtain ⟨oj, h2, e, he, hb, hon⟩ := Region.waitsFor_spec hw
        rw [ho] at h2
        cases h2
        have := hE e he hb
        rw [hon, hLn] at this
        cases this
      by_cases hin : i = n
      · subst hin
        have hall := late_all hs hcl2 ho hE
        obtain ⟨o2, ho2⟩ : ∃ o2, ops[i + 1]? = some o2 := ⟨ops[i + 1], Array.getElem?_eq_getElem (by omega)⟩
        obtain ⟨h1, h2⟩ := piv o o2 X u L ho ho2 hF (fun k hk hck => hX k hk (hall (i - k) k (Nat.le_refl _) hk) (by rw [hck]; exact hL))
        refine ⟨h1, Oper.wp_mono (fun a' u' q => ⟨hcl3, .inr (.inl ⟨by simp [cameL], ?_, fun k hk => ?_, fun o3 ho3 => ?_⟩)⟩) h2⟩
        · unfold cameL; rw [if_neg (by omega)]; exact hLn1
        · unfold cameL; rw [if_neg (by omega)]; exact hall (i - k) k (Nat.le_refl _) hk
        · rw [ho2] at ho3; cases ho3; exact q
      · have hi2 : i < n := by omega
        have hLc : L (cons i) = false := by
          cases hv : L (cons i)
          · rfl
          · obtain ⟨oc, hoc, e, he, hb, hon⟩ := hcw i hi2
            have := hcl2 _ oc hoc hv e he hb
            rw [hon, hL] at this
            cases this
        obtain ⟨h1, h2⟩ := step i o X u L hi2 ho hF hL hLc (fun k hk hck => by
          obtain ⟨oc, hoc, e, he, hb, hon⟩ := hcw k (by omega)
          rw [hck, ho] at hoc
          cases hoc
          have := hE e he hb
          rw [hon] at this
          exact hX k (by omega) this (by rw [hck]; exact hL)) (fun k hk hck hwk => by
          obtain ⟨oi, hoi, e, he, hb, hon⟩ := Region.waitsFor_spec hwk
          rw [ho] at hoi
          cases hoi
          have := hE e he hb
          rw [hon] at this
          exact hX k hk this (by rw [hck]; exact hLn))
        refine ⟨h1, Oper.wp_mono (fun a' u' q => ⟨hcl3, .inl ⟨?_, ?_, ?_⟩⟩) h2⟩
        · unfold cameL; rw [if_neg (by omega)]; exact hLn
        · unfold cameL; rw [if_neg (by omega)]; exact hLn1
        · obtain ⟨v, rfl, f', r', st⟩ := q
          refine ⟨_, rfl, f', fun k hk hlk hck => ?_⟩
          by_cases hki : k = i
          · subst hki
            rw [upd_same]
            exact r'
          · unfold cameL at hlk hck
            rw [if_neg hki] at hlk
            by_cases hci : cons k = i
            · rw [if_pos hci] at hck; cases hck
            · rw [if_neg hci] at hck
              rw [upd_ne _ _ (fun q => hki (hd _ _ hk hi2 q))]
              exact st k _ hk hki hci (hX k hk hlk hck)
    · have hin : i = n + 1 := by
        by_cases h1 : i = n + 1
        · exact h1
        · exfalso
          by_cases h2 : i = n
          · subst h2; rw [hLn] at hL; cases hL
          · have := hall i (by omega); rw [hL] at this; cases this
      subst hin
      obtain ⟨h1, h2⟩ := hM o ho
      refine ⟨h1, Oper.wp_mono (fun a' u' q => ⟨hcl3, .inr (.inr ⟨fun k hk => ?_, q⟩)⟩) h2⟩
      unfold cameL
      split
      · rfl
      · rename_i hk2
        by_cases hk3 : k = n
        · subst hk3; exact hLn
        · exact hall k (by omega)
    · have := hall i hi
      rw [hL] at this
      cases this
  · rintro L a u ⟨-, hI⟩ hall
    rw [hn] at hall
    rcases hI with ⟨hLn, -, -⟩ | ⟨-, hLn1, -⟩ | ⟨-, q⟩
    · have := hall n (by omega); rw [hLn] at this; cases this
    · have := hall (n + 1) (by omega); rw [hLn1] at this; cases this
    · exact q
end
end Go.Proofs.YtcofhmikdkkigaaGreatDoor
namespace Go.Proofs.YtcofhmikdkkigaaGreatDoor
open Go.RowKit

theorem ownS_empty (w : World) : OwnS (w.alloc (.cells #[] 2)) w.heap.size (.slice (some ⟨w.heap.size, 0, none⟩) 0 0) [] :=
  ⟨w.heap.size, 0, rfl, ⟨by simp, .inr ⟨w.heap.size, 0, #[], rfl, Nat.le_refl _, heap_alloc_new w _, Nat.le_refl _, by unfold maxLen; omega, rfl, by simp⟩⟩, by simp, by simp⟩

set_option maxHeartbeats 400000 in
theorem l1Copy_any (ao : Option Addr) (n c : Nat) (xs : List Int) (w : World) (hn : xs.length = n) (hc : ao = none → c = 0) (h : Reads w ao xs) :
    Calls Tryz.prog 164 #[.slice ao n c] w fun e w' => ∃ v, e = .returned v ∧ OwnS w' w.heap.size v xs ∧ Fr w w' := by
  have ho := ownS_empty w
  have f0 := Fr.alloc w (.cells #[] 2)
  have hr := h.fr f0
  have hl := h.len
  go_enter Tryz.func164, Tryz.ntmps164
  go_wp2_with (at_builtin; refine appI2 _ rfl _ _ rfl w.heap.size _ [] xs rfl ho _ _ _ rfl hn hc hr (by simpa using hl) (by simp) ?_; intro v1 w1 hv1 hg1 hat1)
  go_wp2_with fail
  go_ret
  exact ⟨v1, rfl, hv1, f0.then hg1 (fun j hj => by cases hj; exact Nat.le_refl _)⟩
end Go.Proofs.YtcofhmikdkkigaaGreatDoor
