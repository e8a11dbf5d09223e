/-
  Pack BF: RaceM, SpRace.
-/
import Derived.Test.YtcofhmikdkkigaaGreatDoorPrBC
import Derived.Test.YtcofhmikdkkigaaGreatDoorPrBE
import Derived.Test.YtcofhmikdkkigaaGreatDoorPrAX
import Derived.Test.YtcofhmikdkkigaaGreatDoorPrAA
namespace Go.Proofs.YtcofhmikdkkigaaGreatDoor
open Go.RowKit

theorem acc_size {e : Ev} (h : accB e = true) : 1 ≤ e.s ∧ e.s ≤ 8 := by
  simp only [accB, Bool.and_eq_true, Bool.or_eq_true, beq_iff_eq] at h
  obtain ⟨h, hk⟩ := h
  simp only [evOk, Bool.and_eq_true] at h
  obtain ⟨⟨⟨⟨-, -⟩, h4⟩, -⟩, -⟩ := h
  unfold ev4 at h4
  rcases hk with hk | hk <;> rw [hk] at h4 <;> simp only [has8, fitB, if_true] at h4 <;> have b := inB_true h4 <;> simp [loV, hiV] at b <;> omega

def shB (es : List Ev) (j i n : Nat) : Bool := covB (evA es i) ((evA es j).l + n)
def gonP (es : List Ev) (j p n : Nat) : Bool := (List.range j).any fun k => decide (p ≤ k) && ((evA es k).k == 22) && shB es j k n
def wriP (es : List Ev) (j p n : Nat) : Bool := (List.range j).any fun k => decide (p ≤ k) && ((evA es k).k == 21) && (shB es j k n && !gonP es j (k + 1) n)
def reaP (es : List Ev) (lk : List Bool) (j p : Nat) (g : Int) (n : Nat) : Bool := (List.range j).any fun k => decide (p ≤ k) && ((evA es k).k == 20 && (evA es k).g == g && lk.getD k false) && (shB es j k n && !gonP es j (k + 1) n)

theorem any_step {j p : Nat} (h : p < j) (f : Nat → Bool) : ((List.range j).any fun k => decide (p ≤ k) && f k) = (f p || (List.range j).any fun k => decide (p + 1 ≤ k) && f k) := by
  rw [Bool.eq_iff_iff]
  simp only [List.any_eq_true, List.mem_range, Bool.and_eq_true, decide_eq_true_eq, Bool.or_eq_true]
  constructor
  · rintro ⟨k, h1, h2, h3⟩
    by_cases e : k = p
    · subst e
      exact .inl h3
    · exact .inr ⟨k, h1, by omega, h3⟩
  · rintro (h1 | ⟨k, h1, h2, h3⟩)
    · exact ⟨p, h, Nat.le_refl _, h1⟩
    · exact ⟨k, h1, by omega, h3⟩
theorem any_top (j : Nat) (f : Nat → Bool) : ((List.range j).any fun k => decide (j ≤ k) && f k) = false := by
  rw [List.any_eq_false]
  intro k hk
  have := List.mem_range.1 hk
  simp
  omega
theorem gonP_step {es : List Ev} {j p n : Nat} (h : p < j) : gonP es j p n = ((((evA es p).k == 22) && shB es j p n) || gonP es j (p + 1) n) := by
  have := any_step h fun k => ((evA es k).k == 22) && shB es j k n
  simpa [gonP, Bool.and_assoc] using this
theorem gonP_top (es : List Ev) (j n : Nat) : gonP es j j n = false := by
  have := any_top j fun k => ((evA es k).k == 22) && shB es j k n
  simpa [gonP, Bool.and_assoc] using this
theorem wriP_step {es : List Ev} {j p n : Nat} (h : p < j) : wriP es j p n = ((((evA es p).k == 21) && (shB es j p n && !gonP es j (p + 1) n)) || wriP es j (p + 1) n) := by
  have := any_step h fun k => ((evA es k).k == 21) && (shB es j k n && !gonP es j (k + 1) n)
  unfold wriP
  simp only [Bool.and_assoc] at this ⊢
  exact this
theorem wriP_top (es : List Ev) (j n : Nat) : wriP es j j n = false := by
  have := any_top j fun k => ((evA es k).k == 21) && (shB es j k n && !gonP es j (k + 1) n)
  unfold wriP
  simp only [Bool.and_assoc] at this ⊢
  exact this
theorem reaP_step {es : List Ev} {lk : List Bool} {j p n : Nat} {g : Int} (h : p < j) : reaP es lk j p g n = ((((evA es p).k == 20 && (evA es p).g == g && lk.getD p false) && (shB es j p n && !gonP es j (p + 1) n)) || reaP es lk j (p + 1) g n) := by
  have := any_step h fun k => ((evA es k).k == 20 && (evA es k).g == g && lk.getD k false) && (shB es j k n && !gonP es j (k + 1) n)
  unfold reaP
  simp only [Bool.and_assoc] at this ⊢
  exact this
theorem reaP_top (es : List Ev) (lk : List Bool) (j : Nat) (g : Int) (n : Nat) : reaP es lk j j g n = false := by
  have := any_top j fun k => ((evA es k).k == 20 && (evA es k).g == g && lk.getD k false) && (shB es j k n && !gonP es j (k + 1) n)
  unfold reaP
  simp only [Bool.and_assoc] at this ⊢
  exact this
def leftB (es : List Ev) (lk : List Bool) (near : Bool) (j i n : Nat) : Bool := shB es j i n && !gonP es j (i + 1) n && (!near || (!wriP es j (i + 1) n && !((evA es i).k == 20 && reaP es lk j (i + 1) (evA es i).g n)))

def lasB (es : List Ev) (j i : Nat) (x : Int) : Bool := (List.range j).all fun k => !(decide (i + 1 ≤ k) && ((evA es k).k == 22 && covB (evA es k) x))
def nexB (es : List Ev) (lk : List Bool) (j i : Nat) (x : Int) : Bool := (List.range j).all fun k => !(decide (i + 1 ≤ k) && (covB (evA es k) x && ((evA es k).k == 21 || ((evA es k).k == 20 && (evA es i).k == 20 && (evA es k).g == (evA es i).g && lk.getD k false))))
def bytB (es : List Ev) (lk : List Bool) (near : Bool) (j i : Nat) : Bool := (List.range (evA es i).s.toNat).any fun n => covB (evA es j) ((evA es i).l + n) && lasB es j i ((evA es i).l + n) && (!near || nexB es lk j i ((evA es i).l + n))

theorem las_gon {es : List Ev} {j i n : Nat} : lasB es j i ((evA es j).l + n) = !gonP es j (i + 1) n := by
  unfold lasB gonP shB
  rw [Bool.eq_iff_iff]
  simp only [List.all_eq_true, Bool.not_eq_true', List.any_eq_false, Bool.and_assoc]
  constructor
  · intro h k hk
    simpa using h k hk
  · intro h k hk
    simpa using h k hk
theorem gon_less {es : List Ev} {j p q n : Nat} (h : gonP es j p n = false) (hq : p ≤ q) : gonP es j q n = false := by
  unfold gonP at h ⊢
  rw [List.any_eq_false] at h ⊢
  intro k hk
  have := h k hk
  simp only [Bool.and_eq_true, decide_eq_true_eq, not_and] at this ⊢
  intro h1
  exact this ⟨by omega, h1.2⟩
theorem wriP_iff {es : List Ev} {j p n : Nat} : wriP es j p n = true ↔ ∃ k, k < j ∧ p ≤ k ∧ (evA es k).k = 21 ∧ covB (evA es k) ((evA es j).l + n) = true ∧ gonP es j (k + 1) n = false := by
  unfold wriP shB
  rw [List.any_eq_true]
  constructor
  · rintro ⟨k, h1, h2⟩
    rw [Bool.and_eq_true, Bool.and_eq_true, Bool.and_eq_true, decide_eq_true_eq, beq_iff_eq] at h2
    exact ⟨k, List.mem_range.1 h1, h2.1.1, h2.1.2, h2.2.1, by simpa using h2.2.2⟩
  · rintro ⟨k, h1, h2, h3, h4, h5⟩
    exact ⟨k, List.mem_range.2 h1, by rw [Bool.and_eq_true, Bool.and_eq_true, Bool.and_eq_true, decide_eq_true_eq, beq_iff_eq]; exact ⟨⟨h2, h3⟩, h4, by simpa using h5⟩⟩
theorem reaP_iff {es : List Ev} {lk : List Bool} {j p n : Nat} {g : Int} : reaP es lk j p g n = true ↔ ∃ k, k < j ∧ p ≤ k ∧ ((evA es k).k = 20 ∧ (evA es k).g = g ∧ lk.getD k false = true) ∧ covB (evA es k) ((evA es j).l + n) = true ∧ gonP es j (k + 1) n = false := by
  unfold reaP shB
  rw [List.any_eq_true]
  constructor
  · rintro ⟨k, h1, h2⟩
    rw [Bool.and_eq_true, Bool.and_eq_true, Bool.and_eq_true, Bool.and_eq_true, Bool.and_eq_true, decide_eq_true_eq, beq_iff_eq, beq_iff_eq] at h2
    exact ⟨k, List.mem_range.1 h1, h2.1.1, ⟨h2.1.2.1.1, h2.1.2.1.2, h2.1.2.2⟩, h2.2.1, by simpa using h2.2.2⟩
  · rintro ⟨k, h1, h2, ⟨h3, h4, h5⟩, h6, h7⟩
    exact ⟨k, List.mem_range.2 h1, by rw [Bool.and_eq_true, Bool.and_eq_true, Bool.and_eq_true, Bool.and_eq_true, Bool.and_eq_true, decide_eq_true_eq, beq_iff_eq, beq_iff_eq]; exact ⟨⟨h2, ⟨h3, h4⟩, h5⟩, h6, by simpa using h7⟩⟩
theorem nexB_no {es : List Ev} {lk : List Bool} {j i : Nat} {x : Int} : nexB es lk j i x = false ↔ ∃ k, k < j ∧ i + 1 ≤ k ∧ covB (evA es k) x = true ∧ ((evA es k).k = 21 ∨ ((evA es k).k = 20 ∧ (evA es i).k = 20 ∧ (evA es k).g = (evA es i).g ∧ lk.getD k false = true)) := by
  unfold nexB
  rw [List.all_eq_false]
  constructor
  · rintro ⟨k, h1, h2⟩
    rw [Bool.not_eq_true, Bool.not_eq_false', Bool.and_eq_true, Bool.and_eq_true, Bool.or_eq_true, Bool.and_eq_true, Bool.and_eq_true, Bool.and_eq_true, decide_eq_true_eq, beq_iff_eq, beq_iff_eq, beq_iff_eq, beq_iff_eq] at h2
    refine ⟨k, List.mem_range.1 h1, h2.1, h2.2.1, ?_⟩
    rcases h2.2.2 with q | q
    · exact .inl q
    · exact .inr ⟨q.1.1.1, q.1.1.2, q.1.2, q.2⟩
  · rintro ⟨k, h1, h2, h3, h4⟩
    refine ⟨k, List.mem_range.2 h1, ?_⟩
    rw [Bool.not_eq_true, Bool.not_eq_false', Bool.and_eq_true, Bool.and_eq_true, Bool.or_eq_true, Bool.and_eq_true, Bool.and_eq_true, Bool.and_eq_true, decide_eq_true_eq, beq_iff_eq, beq_iff_eq, beq_iff_eq, beq_iff_eq]
    refine ⟨h2, h3, ?_⟩
    rcases h4 with q | ⟨q1, q2, q3, q4⟩
    · exact .inl q
    · exact .inr ⟨⟨⟨q1, q2⟩, q3⟩, q4⟩
theorem nex_wri {es : List Ev} {lk : List Bool} {j i n : Nat} (hg : gonP es j (i + 1) n = false) : nexB es lk j i ((evA es j).l + n) = (!wriP es j (i + 1) n && !((evA es i).k == 20 && reaP es lk j (i + 1) (evA es i).g n)) := by
  have hgk : ∀ k, i + 1 ≤ k → gonP es j (k + 1) n = false := fun k hk => gon_less hg (by omega)
  cases hn : nexB es lk j i ((evA es j).l + n)
  · obtain ⟨k, h1, h2, h3, h4⟩ := nexB_no.1 hn
    rcases h4 with q | ⟨q1, q2, q3, q4⟩
    · rw [wriP_iff.2 ⟨k, h1, h2, q, h3, hgk k h2⟩]
      rfl
    · rw [reaP_iff.2 ⟨k, h1, h2, ⟨q1, q3, q4⟩, h3, hgk k h2⟩, q2]
      simp
  · have hno : ¬ nexB es lk j i ((evA es j).l + n) = false := by rw [hn]; simp
    rw [nexB_no] at hno
    have e1 : wriP es j (i + 1) n = false := by
      cases hw : wriP es j (i + 1) n
      · rfl
      · obtain ⟨k, h1, h2, h3, h4, -⟩ := wriP_iff.1 hw
        exact absurd ⟨k, h1, h2, h4, .inl h3⟩ hno
    have e2 : ((evA es i).k == 20 && reaP es lk j (i + 1) (evA es i).g n) = false := by
      cases hw : ((evA es i).k == 20 && reaP es lk j (i + 1) (evA es i).g n)
      · rfl
      · rw [Bool.and_eq_true, beq_iff_eq] at hw
        obtain ⟨k, h1, h2, ⟨h3, h4, h5⟩, h6, -⟩ := reaP_iff.1 hw.2
        exact absurd ⟨k, h1, h2, h6, .inr ⟨h3, hw.1, h4, h5⟩⟩ hno
    rw [e1, e2]
    rfl
theorem byt_left {es : List Ev} {lk : List Bool} {near : Bool} {j i : Nat} (hc : claB (evA es i) (evA es j) = true) : bytB es lk near j i = (List.range (evA es j).s.toNat).any fun n => leftB es lk near j i n := by
  simp only [claB, Bool.and_eq_true] at hc
  obtain ⟨⟨⟨⟨⟨ha, hb⟩, -⟩, -⟩, -⟩, -⟩ := hc
  have sa := acc_size ha
  have sb := acc_size hb
  have ca := acc_cov ha
  have cb := acc_cov hb
  have key : ∀ n : Nat, leftB es lk near j i n = (shB es j i n && lasB es j i ((evA es j).l + n) && (!near || nexB es lk j i ((evA es j).l + n))) := by
    intro n
    unfold leftB
    rw [las_gon]
    cases hg : gonP es j (i + 1) n
    · rw [nex_wri hg]
    · simp
  rw [Bool.eq_iff_iff]
  unfold bytB
  simp only [List.any_eq_true, List.mem_range, key, shB, Bool.and_eq_true, ca, cb, decide_eq_true_eq]
  constructor
  · rintro ⟨n, h1, ⟨⟨h2, h3⟩, h4⟩, h5⟩
    refine ⟨((evA es i).l + n - (evA es j).l).toNat, by omega, ?_⟩
    have e : (evA es j).l + (((evA es i).l + n - (evA es j).l).toNat : Int) = (evA es i).l + n := by omega
    rw [e]
    exact ⟨⟨⟨by omega, by omega⟩, h4⟩, h5⟩
  · rintro ⟨n, h1, ⟨⟨h2, h3⟩, h4⟩, h5⟩
    refine ⟨((evA es j).l + n - (evA es i).l).toNat, by omega, ?_⟩
    have e : (evA es i).l + (((evA es j).l + n - (evA es i).l).toNat : Int) = (evA es j).l + n := by omega
    rw [e]
    exact ⟨⟨⟨by omega, by omega⟩, h4⟩, h5⟩

noncomputable def pairB (es : List Ev) (lk : List Bool) (near : Bool) (j i : Nat) : Bool := (!near || lk.getD i false) && claB (evA es i) (evA es j) && !(befN (eE es) j).testBit i && bytB es lk near j i
noncomputable def pairsJ (es : List Ev) (lk : List Bool) (near : Bool) (j : Nat) : List (Int × Int) := ((List.range j).filter fun i => pairB es lk near j i).map fun i : Nat => ((i : Int), (j : Int))
noncomputable def pairsL (es : List Ev) (lk : List Bool) (near : Bool) : Nat → List (Int × Int)
  | 0 => []
  | j + 1 => pairsL es lk near j ++ pairsJ es lk near j
theorem pairsL_mem {es : List Ev} {lk : List Bool} {near : Bool} {i j : Int} : ∀ N : Nat, (i, j) ∈ pairsL es lk near N ↔ 0 ≤ i ∧ i < j ∧ j < N ∧ pairB es lk near j.toNat i.toNat = true
  | 0 => by
    simp only [pairsL, List.not_mem_nil, false_iff]
    omega
  | N + 1 => by
    rw [pairsL, List.mem_append, pairsL_mem N]
    unfold pairsJ
    simp only [List.mem_map, List.mem_filter, List.mem_range, Prod.mk.injEq]
    constructor
    · rintro (⟨h1, h2, h3, h4⟩ | ⟨k, ⟨h1, h2⟩, rfl, rfl⟩)
      · exact ⟨h1, h2, by omega, h4⟩
      · refine ⟨by omega, by omega, by omega, by simpa using h2⟩
    · rintro ⟨h1, h2, h3, h4⟩
      by_cases e : j < N
      · exact .inl ⟨h1, h2, e, h4⟩
      · right
        have ej : j = N := by omega
        subst ej
        exact ⟨i.toNat, ⟨by omega, by simpa using h4⟩, by omega, rfl⟩
end Go.Proofs.YtcofhmikdkkigaaGreatDoor
namespace Go.Proofs.YtcofhmikdkkigaaGreatDoor
open Go.RowKit

theorem all_from {j p : Nat} (f : Nat → Bool) : ((List.range j).all fun k => !(decide (p ≤ k) && f k)) = !((List.range j).any fun k => decide (p ≤ k) && f k) := by
  rw [List.not_any_eq_all_not]
theorem all_step {j p : Nat} (h : p < j) (f : Nat → Bool) : ((List.range j).all fun k => !(decide (p ≤ k) && f k)) = (!f p && (List.range j).all fun k => !(decide (p + 1 ≤ k) && f k)) := by
  rw [all_from, all_from, any_step h, Bool.not_or]
theorem all_top (j : Nat) (f : Nat → Bool) : ((List.range j).all fun k => !(decide (j ≤ k) && f k)) = true := by
  rw [all_from, any_top]
  rfl
def lasF (es : List Ev) (j p : Nat) (x : Int) : Bool := (List.range j).all fun k => !(decide (p ≤ k) && ((evA es k).k == 22 && covB (evA es k) x))
def nexF (es : List Ev) (lk : List Bool) (j i p : Nat) (x : Int) : Bool := (List.range j).all fun k => !(decide (p ≤ k) && (covB (evA es k) x && ((evA es k).k == 21 || ((evA es k).k == 20 && (evA es i).k == 20 && (evA es k).g == (evA es i).g && lk.getD k false))))
theorem lasF_step {es : List Ev} {j p : Nat} {x : Int} (h : p < j) : lasF es j p x = (!((evA es p).k == 22 && covB (evA es p) x) && lasF es j (p + 1) x) := all_step h fun k => ((evA es k).k == 22 && covB (evA es k) x)
theorem lasF_top (es : List Ev) (j : Nat) (x : Int) : lasF es j j x = true := all_top j fun k => ((evA es k).k == 22 && covB (evA es k) x)
theorem nexF_step {es : List Ev} {lk : List Bool} {j i p : Nat} {x : Int} (h : p < j) : nexF es lk j i p x = (!(covB (evA es p) x && ((evA es p).k == 21 || ((evA es p).k == 20 && (evA es i).k == 20 && (evA es p).g == (evA es i).g && lk.getD p false))) && nexF es lk j i (p + 1) x) := all_step h fun k => (covB (evA es k) x && ((evA es k).k == 21 || ((evA es k).k == 20 && (evA es i).k == 20 && (evA es k).g == (evA es i).g && lk.getD k false)))
theorem nexF_top (es : List Ev) (lk : List Bool) (j i : Nat) (x : Int) : nexF es lk j i j x = true := all_top j fun k => (covB (evA es k) x && ((evA es k).k == 21 || ((evA es k).k == 20 && (evA es i).k == 20 && (evA es k).g == (evA es i).g && lk.getD k false)))

set_option maxRecDepth 20000 in
set_option maxHeartbeats 4000000 in
theorem l8Lasts_any (ao : Option Addr) (n c i j : Nat) (es : List Ev) (x : Int) (w : World) (hn : es.length = n) (h : ReadsE w ao es) (hij : i < j) (hj : j ≤ n) (hl : n ≤ 300) :
    Calls Tryz.prog 178 #[.slice ao n c, .int .i64 i, .int .i64 j, .int .i64 x] w fun y w' => y = .returned (.bool (lasB es j i x)) ∧ Fr w w' := by
  subst hn
  obtain ⟨eb, off, rfl, -⟩ := h.at_ i (by omega)
  obtain ⟨B, hB⟩ : ∃ B, B = lasB es j i x := ⟨_, rfl⟩
  have HB : Hid (B = lasF es j (i + 1) x) := hB
  rw [← hB]
  clear hB
  have hw : IntKind.i64.wrap ((i : Int) + 1) = ((i + 1 : Nat) : Int) := by rw [IntKind.wrap_i64]; omega
  go_enter Tryz.func178, Tryz.ntmps178
  go_wp2_with fail
  go_loopw [9] (fun k wr => ∃ q : Nat, i + 1 ≤ q ∧ q ≤ j ∧ k = .int .i64 q ∧ Hid (B = lasF es j q x) ∧ Fr w wr) (fun k _ => j - (intOf k).toNat)
  case atStart => exact ⟨i + 1, Nat.le_refl _, hij, by go_num, HB, Fr.refl _⟩
  case round =>
    clear hw HB
    obtain ⟨q, hq1, hq2, rfl, HA, hF⟩ := hrel
    by_cases hlt : q < j
    · have hqi : (q : Int) < j := by omega
      have hql : (q : Int) < es.length := by omega
      obtain ⟨bb, off2, e0, hc⟩ := (h.fr hF).at_ q (by omega)
      simp only [Option.some.injEq, Addr.mk.injEq, and_true] at e0
      obtain ⟨rfl, rfl⟩ := e0
      obtain ⟨d0, d1, d2, d3, d4, d5, d6, d7⟩ := hc q (by omega)
      have HE : Hid (evA es q = es[q]) := evA_at (by omega)
      have HT : Hid (B = (!((evA es q).k == 22 && covB (evA es q) x) && lasF es j (q + 1) x)) := by rw [HA.out]; exact lasF_step hlt
      rw [HE.out] at HT
      have cC := fun u => specCov_any es[q] x u
      obtain ⟨E, hE⟩ : ∃ E, E = es[q] := ⟨_, rfl⟩
      simp only [← hE] at cC d0 d1 d2 d3 d4 d5 d6 d7 HT
      clear hE hc HE HA
      obtain ⟨k, gr, o, wi, l, sz, f, t⟩ := E
      simp only at cC d0 d1 d2 d3 d4 d5 d6 d7 HT
      by_cases hk : k = 22
      · subst hk
        obtain ⟨V, hV⟩ : ∃ V, V = covB ⟨22, gr, o, wi, l, sz, f, t⟩ x := ⟨_, rfl⟩
        simp only [← hV] at cC HT
        clear hV
        cases V
        · have HT : Hid (B = lasF es j (q + 1) x) := by rw [HT.out]; exact rfl
          go_wp2_with fail
          refine (cC _).mono ?_
          rintro y u1 ⟨rfl, f1⟩
          go_wp2_with fail
          go_roundw
          case rel => exact ⟨q + 1, by omega, by omega, by go_num, HT, hF.trans f1⟩
          case measure => simp [intOf] <;> omega
        · have HT : Hid (B = false) := by rw [HT.out]; exact rfl
          go_wp2_with fail
          refine (cC _).mono ?_
          rintro y u1 ⟨rfl, f1⟩
          go_wp2_with fail
          go_ret
          exact ⟨by rw [HT.out]; rfl, hF.trans f1⟩
      · have hkb : (k == 22) = false := by simpa using hk
        have HT : Hid (B = lasF es j (q + 1) x) := by rw [HT.out, hkb]; exact rfl
        clear hk
        go_wp2_with fail
        go_roundw
        case rel => exact ⟨q + 1, by omega, by omega, by go_num, HT, hF⟩
        case measure => simp [intOf] <;> omega
    · have e : q = j := by omega
      subst e
      have HT : Hid (B = true) := by rw [HA.out]; exact lasF_top _ _ _
      clear HA
      go_wp2_with fail
      go_ret
      exact ⟨by rw [HT.out]; rfl, hF⟩

def layBo : Lay Bool where
  ty := 4
  sz := 1
  cs := fun b => [.bool b]
  pos := by omega
  len _ := rfl
  one x u hu := by
    simp only [List.mem_singleton] at hu
    subst hu
    exact rfl
theorem bo_cell {w : World} {ao : Option Addr} {lk : List Bool} (h : ReadsG layBo w ao lk) {k : Nat} (hk : k < lk.length) : ∃ b off, ao = some ⟨b, off, none⟩ ∧ w.cell? ⟨b, off + k, none⟩ = some (.bool (lk.getD k false)) := by
  obtain ⟨b, off, e, hc⟩ := h.at_ k hk
  refine ⟨b, off, e, ?_⟩
  have := hc k hk 0 (by decide)
  rw [List.getD_eq_getElem?_getD, List.getElem?_eq_getElem hk]
  simpa [layBo] using this

set_option maxRecDepth 20000 in
set_option maxHeartbeats 8000000 in
theorem l8Next_any (ao : Option Addr) (n c : Nat) (lo : Option Addr) (m lc i j : Nat) (es : List Ev) (lk : List Bool) (x : Int) (w : World) (hn : es.length = n) (h : ReadsE w ao es) (hm : lk.length = m) (hL : ReadsG layBo w lo lk) (hm2 : m ≤ 16777216) (hij : i < j) (hj : j ≤ n) (hl : n ≤ 300) :
    Calls Tryz.prog 179 #[.slice ao n c, .slice lo m lc, .int .i64 i, .int .i64 j, .int .i64 x] w fun y w' => y = .returned (.bool (nexB es lk j i x)) ∧ Fr w w' := by
  subst hn
  obtain ⟨eb, off, rfl, hci⟩ := h.at_ i (by omega)
  have hci := hci i (by omega)
  have hii : (i : Int) < es.length := by omega
  have HEi : Hid (evA es i = es[i]) := evA_at (by omega)
  obtain ⟨Ei, hEi⟩ : ∃ E, E = es[i] := ⟨_, rfl⟩
  rw [← hEi] at hci HEi
  clear hEi
  obtain ⟨ki, gi, oi, wii, li, szi, fi, ti⟩ := Ei
  have HCi : Hid (∀ u, Fr w u → u.cell? ⟨eb, off + i * 8, none⟩ = some (.int .i64 ki) ∧ u.cell? ⟨eb, off + i * 8 + 1, none⟩ = some (.int .i64 gi)) := fun u f => by
    have ev := hci.keep f (by simp)
    obtain ⟨d0, d1, -⟩ := ev
    exact ⟨d0, d1⟩
  obtain ⟨B, hB⟩ : ∃ B, B = nexB es lk j i x := ⟨_, rfl⟩
  have HB : Hid (B = nexF es lk j i (i + 1) x) := hB
  rw [← hB]
  have HST : Hid (∀ q, q < j → nexF es lk j i q x = (!(covB (evA es q) x && ((evA es q).k == 21 || ((evA es q).k == 20 && ki == 20 && (evA es q).g == gi && lk.getD q false))) && nexF es lk j i (q + 1) x)) := fun q hq => by
    have := nexF_step (es := es) (lk := lk) (j := j) (i := i) (p := q) (x := x) hq
    rw [HEi.out] at this
    exact this
  have HTOP : Hid (nexF es lk j i j x = true) := nexF_top _ _ _ _ _
  obtain ⟨nF, hnF⟩ : ∃ f : Nat → Bool, ∀ q, nexF es lk j i q x = f q := ⟨_, fun _ => rfl⟩
  simp only [hnF] at HB HST HTOP
  clear hB hnF HEi hci
  have hw : IntKind.i64.wrap ((i : Int) + 1) = ((i + 1 : Nat) : Int) := by rw [IntKind.wrap_i64]; omega
  go_enter Tryz.func179, Tryz.ntmps179
  go_wp2_with fail
  go_loopw [11] (fun k wr => ∃ q : Nat, i + 1 ≤ q ∧ q ≤ j ∧ k = .int .i64 q ∧ Hid (B = nF q) ∧ Fr w wr) (fun k _ => j - (intOf k).toNat)
  case atStart => exact ⟨i + 1, Nat.le_refl _, hij, by go_num, HB, Fr.refl _⟩
  case round =>
    clear hw HB
    obtain ⟨q, hq1, hq2, rfl, HA, hF⟩ := hrel
    by_cases hlt : q < j
    · have hqi : (q : Int) < j := by omega
      have hql : (q : Int) < es.length := by omega
      obtain ⟨bb, off2, e0, hc⟩ := (h.fr hF).at_ q (by omega)
      simp only [Option.some.injEq, Addr.mk.injEq, and_true] at e0
      obtain ⟨rfl, rfl⟩ := e0
      have ev := hc q (by omega)
      have HE : Hid (evA es q = es[q]) := evA_at (by omega)
      have HT : Hid (B = (!(covB (evA es q) x && ((evA es q).k == 21 || ((evA es q).k == 20 && ki == 20 && (evA es q).g == gi && lk.getD q false))) && nF (q + 1))) := by rw [HA.out]; exact HST.out q hlt
      rw [HE.out] at HT
      have cC := fun u => specCov_any es[q] x u
      obtain ⟨E, hE⟩ : ∃ E, E = es[q] := ⟨_, rfl⟩
      simp only [← hE] at cC ev HT
      clear hE hc HE HA
      obtain ⟨k, gr, o, wi, l, sz, f, t⟩ := E
      simp only at cC HT
      have HC : Hid (∀ u, Fr wr u → u.cell? ⟨eb, off + q * 8, none⟩ = some (.int .i64 k) ∧ u.cell? ⟨eb, off + q * 8 + 1, none⟩ = some (.int .i64 gr)) := fun u fu => by
        have ev := ev.keep fu (by simp)
        obtain ⟨d0, d1, -⟩ := ev
        exact ⟨d0, d1⟩
      obtain ⟨d0, d1, d2, d3, d4, d5, d6, d7⟩ := ev
      obtain ⟨V, hV⟩ : ∃ V, V = covB ⟨k, gr, o, wi, l, sz, f, t⟩ x := ⟨_, rfl⟩
      simp only [← hV] at cC HT
      clear hV
      cases V
      · have HT : Hid (B = nF (q + 1)) := by rw [HT.out]; exact rfl
        go_wp2_with fail
        refine (cC _).mono ?_
        rintro y u1 ⟨rfl, f1⟩
        go_wp2_with fail
        go_roundw
        case rel => exact ⟨q + 1, by omega, by omega, by go_num, HT, hF.trans f1⟩
        case measure => simp [intOf] <;> omega
      · have HT : Hid (B = (!(k == 21 || (k == 20 && ki == 20 && gr == gi && lk.getD q false)) && nF (q + 1))) := by rw [HT.out, Bool.true_and]; exact rfl
        go_wp2_with fail
        refine (cC _).mono ?_
        rintro y u1 ⟨rfl, f1⟩
        obtain ⟨c0, c1⟩ := HC.out u1 f1
        obtain ⟨i0, i1⟩ := HCi.out u1 (hF.trans f1)
        have F1 := hF.trans f1
        clear d0 d1 d2 d3 d4 d5 d6 d7 cC f1
        have x0 : ∀ s : Later u1, s.u.cell? ⟨eb, off + q * 8, none⟩ = some (.int .i64 k) := fun s => s.fr.cell c0
        have x1 : ∀ s : Later u1, s.u.cell? ⟨eb, off + q * 8 + 1, none⟩ = some (.int .i64 gr) := fun s => s.fr.cell c1
        have x2 : ∀ s : Later u1, s.u.cell? ⟨eb, off + i * 8, none⟩ = some (.int .i64 ki) := fun s => s.fr.cell i0
        have x3 : ∀ s : Later u1, s.u.cell? ⟨eb, off + i * 8 + 1, none⟩ = some (.int .i64 gi) := fun s => s.fr.cell i1
        have hsome := Later.some u1
        by_cases hk21 : k = 21
        · subst hk21
          have HT : Hid (B = false) := by rw [HT.out]; exact rfl
          go_wp2_with fail
          go_ret
          exact ⟨by rw [HT.out]; rfl, F1⟩
        have hkb : (k == 21) = false := by simpa using hk21
        rcases (Decidable.em (k = 20)).symm with hk | hk
        · have hk0 : (k == 20) = false := by simpa using hk
          have HT : Hid (B = nF (q + 1)) := by rw [HT.out, hkb, hk0]; exact rfl
          clear hk hk21
          go_wp2_with fail
          refine wp_region_grown (by kernel_rfl) (by kernel_rfl) ?_
          repeat (go_big_quiet_step (fail))
          refine wpQuiet_nil ?_
          rintro _ ⟨s, rfl⟩
          go_wp2_with fail
          go_roundw
          case rel => exact ⟨q + 1, by omega, by omega, by go_num, HT, F1.trans s.fr⟩
          case measure => simp [intOf] <;> omega
        subst hk
        clear hkb hk21
        rcases (Decidable.em (ki = 20)).symm with hki | hki
        · have hk0 : (ki == 20) = false := by simpa using hki
          have HT : Hid (B = nF (q + 1)) := by rw [HT.out, hk0]; exact rfl
          clear hki
          go_wp2_with fail
          refine wp_region_grown (by kernel_rfl) (by kernel_rfl) ?_
          repeat (go_big_quiet_step (fail))
          refine wpQuiet_nil ?_
          rintro _ ⟨s, rfl⟩
          go_wp2_with fail
          go_roundw
          case rel => exact ⟨q + 1, by omega, by omega, by go_num, HT, F1.trans s.fr⟩
          case measure => simp [intOf] <;> omega
        subst hki
        rcases (Decidable.em (gr = gi)).symm with hgg | hgg
        · have hk0 : (gr == gi) = false := by simpa using hgg
          have HT : Hid (B = nF (q + 1)) := by rw [HT.out, hk0]; exact rfl
          clear hgg
          go_wp2_with fail
          refine wp_region_grown (by kernel_rfl) (by kernel_rfl) ?_
          repeat (go_big_quiet_step (fail))
          refine wpQuiet_nil ?_
          rintro _ ⟨s, rfl⟩
          go_wp2_with fail
          go_roundw
          case rel => exact ⟨q + 1, by omega, by omega, by go_num, HT, F1.trans s.fr⟩
          case measure => simp [intOf] <;> omega
        subst hgg
        have hg1 : (gr == gr) = true := by simp
        rcases (Decidable.em (q < lk.length)).symm with hqm | hqm
        · have hk0 : ((q : Int) < (m : Int)) = False := by simp only [eq_iff_iff, iff_false]; omega
          have hz : lk.getD q false = false := by rw [List.getD_eq_getElem?_getD, List.getElem?_eq_none (by omega)]; rfl
          have HT : Hid (B = nF (q + 1)) := by rw [HT.out, hz, hg1]; exact rfl
          clear hqm hz
          go_wp2_with fail
          refine wp_region_grown (by kernel_rfl) (by kernel_rfl) ?_
          repeat (go_big_quiet_step (fail))
          refine wpQuiet_nil ?_
          rintro _ ⟨s, rfl⟩
          go_wp2_with fail
          go_roundw
          case rel => exact ⟨q + 1, by omega, by omega, by go_num, HT, F1.trans s.fr⟩
          case measure => simp [intOf] <;> omega
        have hk0 : decide ((q : Int) < (m : Int)) = true := by simp; omega
        have hqm2 : (q : Int) < m := by omega
        obtain ⟨lb, loff, rfl, hb⟩ := bo_cell (hL.fr F1) hqm
        have x4 : ∀ s : Later u1, s.u.cell? ⟨lb, loff + q, none⟩ = some (.bool (lk.getD q false)) := fun s => s.fr.cell hb
        obtain ⟨Y, hY⟩ : ∃ Y, Y = lk.getD q false := ⟨_, rfl⟩
        rw [← hY] at HT
        simp only [← hY] at x4
        clear hY hb
        cases Y
        · have HT : Hid (B = nF (q + 1)) := by rw [HT.out, hg1]; exact rfl
          go_wp2_with fail
          refine wp_region_grown (by kernel_rfl) (by kernel_rfl) ?_
          repeat (go_big_quiet_step (fail))
          refine wpQuiet_nil ?_
          rintro _ ⟨s, rfl⟩
          go_wp2_with fail
          go_roundw
          case rel => exact ⟨q + 1, by omega, by omega, by go_num, HT, F1.trans s.fr⟩
          case measure => simp [intOf] <;> omega
        · have HT : Hid (B = false) := by rw [HT.out, hg1]; exact rfl
          go_wp2_with fail
          refine wp_region_grown (by kernel_rfl) (by kernel_rfl) ?_
          repeat (go_big_quiet_step (fail))
          refine wpQuiet_nil ?_
          rintro _ ⟨s, rfl⟩
          go_wp2_with fail
          go_ret
          exact ⟨by rw [HT.out]; rfl, F1.trans s.fr⟩
    · have e : q = j := by omega
      subst e
      have HT : Hid (B = true) := by rw [HA.out]; exact HTOP.out
      clear HA
      go_wp2_with fail
      go_ret
      exact ⟨by rw [HT.out]; rfl, hF⟩
end Go.Proofs.YtcofhmikdkkigaaGreatDoor
