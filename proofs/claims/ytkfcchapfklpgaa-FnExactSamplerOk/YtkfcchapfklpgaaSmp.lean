/-
  Samplers: what a look makes of one: the model.
-/
import Derived.Test.YtkfcchapfklpgaaBrs
import Derived.Test.YtkfcchapfklpgaaPrd2
namespace Go.Proofs.Ytkfcchapfklpgaa
open Go.RowKit

/-- An Own: whose it is, and the burst. -/
structure Ow where
  g : Int
  f : Int
  b : Bu
/-- A sampler. -/
structure Smp where
  os : List Ow
  p : Int
  u : Int

/-- Is (g, f) ahead of (h, k)? -/
def ahB (g f h k : Int) : Bool := decide (g < h) || (decide (g = h) && decide (f < k))
theorem ahB_true {g f h k : Int} : ahB g f h k = true ↔ g < h ∨ g = h ∧ f < k := by simp [ahB]
theorem ahB_false {g f h k : Int} : ahB g f h k = false ↔ ¬ (g < h ∨ g = h ∧ f < k) := by rw [← ahB_true]; simp
/-- Is the Own theirs? -/
def samB (o : Ow) (g f : Int) : Bool := decide (o.g = g) && decide (o.f = f)
theorem samB_true {o : Ow} {g f : Int} : samB o g f = true ↔ o.g = g ∧ o.f = f := by simp [samB]
theorem samB_false {o : Ow} {g f : Int} : samB o g f = false ↔ ¬ (o.g = g ∧ o.f = f) := by rw [← samB_true]; simp
/-- Is an Own right? -/
def owB (c : Cf) (o : Ow) : Bool := inB 0 15 o.g && inB 0 999 o.f && bkB c o.b
def owAt (c : Cf) (os : List Ow) : Nat → Bool
  | 0 => match os[0]? with
    | none => true
    | some o => owB c o
  | j + 1 => match os[j]?, os[j + 1]? with
    | some q, some o => owB c o && ahB q.g q.f o.g o.f
    | _, _ => true
def rowO (c : Cf) (os : List Ow) : Bool := (List.range os.length).all (owAt c os)
def smB (c : Cf) (s : Smp) : Bool := cfB c && decide (s.os.length ≤ 300) && inB (-1) 300 s.p && inB 0 c.q s.u && rowO c s.os

theorem owAt_zero {c : Cf} {os : List Ow} (h : 0 < os.length) : owAt c os 0 = owB c os[0] := by simp [owAt, List.getElem?_eq_getElem h]
theorem owAt_succ {c : Cf} {os : List Ow} {k : Nat} (h : k + 1 < os.length) : owAt c os (k + 1) = (owB c os[k + 1] && ahB os[k].g os[k].f os[k + 1].g os[k + 1].f) := by
  simp [owAt, List.getElem?_eq_getElem h, List.getElem?_eq_getElem (show k < os.length by omega)]
theorem owAt_bad {c : Cf} {os : List Ow} {k : Nat} (h : k < os.length) (hb : owB c os[k] = false) : owAt c os k = false := by
  cases k with
  | zero => rw [owAt_zero h, hb]
  | succ k => rw [owAt_succ h, hb, Bool.false_and]
theorem rowO_no {c : Cf} {os : List Ow} {k : Nat} (h : k < os.length) (hb : owAt c os k = false) : rowO c os = false := by
  rw [rowO, List.all_eq_false]
  exact ⟨k, List.mem_range.2 h, by simp [hb]⟩
theorem rowO_yes {c : Cf} {os : List Ow} (h : ∀ j, j < os.length → owAt c os j = true) : rowO c os = true := by
  rw [rowO, List.all_eq_true]
  exact fun j hj => h j (List.mem_range.1 hj)
theorem rowO_next {p : Nat → Prop} {k : Nat} (h : ∀ j, j < k → p j) (h2 : p k) : ∀ j, j < k + 1 → p j := fun j hj => by
  by_cases e : j = k
  · exact e ▸ h2
  · exact h j (by omega)
/-- They rise. -/
def RisO (os : List Ow) : Prop := os.Pairwise fun a b => ahB a.g a.f b.g b.f = true
theorem ah_trans {a b c : Ow} (h : ahB a.g a.f b.g b.f = true) (k : ahB b.g b.f c.g c.f = true) : ahB a.g a.f c.g c.f = true := by
  rw [ahB_true] at h k ⊢; omega
theorem rowO_iff {c : Cf} {os : List Ow} : rowO c os = true ↔ (∀ o ∈ os, owB c o = true) ∧ RisO os := by
  constructor
  · intro h
    rw [rowO, List.all_eq_true] at h
    have h : ∀ j, j < os.length → owAt c os j = true := fun j hj => h j (List.mem_range.2 hj)
    refine ⟨fun o ho => ?_, ?_⟩
    · obtain ⟨j, hj, rfl⟩ := List.mem_iff_getElem.1 ho
      cases hb : owB c os[j] with
      | true => rfl
      | false => have := h j hj; rw [owAt_bad hj hb] at this; cases this
    · have adj : ∀ j (hj : j + 1 < os.length), ahB os[j].g os[j].f os[j + 1].g os[j + 1].f = true := fun j hj => by
        have := h (j + 1) hj
        rw [owAt_succ hj, Bool.and_eq_true] at this
        exact this.2
      have far : ∀ d i (hj : i + d + 1 < os.length), ahB (os[i]'(by omega)).g (os[i]'(by omega)).f os[i + d + 1].g os[i + d + 1].f = true := by
        intro d
        induction d with
        | zero => intro i hj; exact adj i hj
        | succ d ih => intro i hj; exact ah_trans (ih i (by omega)) (adj (i + d + 1) (by omega))
      rw [RisO, List.pairwise_iff_getElem]
      intro i j hi hj hij
      have := far (j - i - 1) i (by omega)
      have e : i + (j - i - 1) + 1 = j := by omega
      simpa only [e] using this
  · rintro ⟨h1, h2⟩
    refine rowO_yes fun j hj => ?_
    cases j with
    | zero => rw [owAt_zero hj]; exact h1 _ (List.getElem_mem _)
    | succ k =>
      rw [owAt_succ hj, h1 _ (List.getElem_mem _), Bool.true_and]
      exact (List.pairwise_iff_getElem.1 h2) k (k + 1) (by omega) hj (by omega)
theorem smB_in {c : Cf} {s : Smp} (h : smB c s = true) : cfB c = true ∧ s.os.length ≤ 300 ∧ (-1 ≤ s.p ∧ s.p ≤ 300) ∧ (0 ≤ s.u ∧ s.u ≤ c.q) ∧ (∀ o ∈ s.os, owB c o = true) ∧ RisO s.os := by
  simp only [smB, Bool.and_eq_true, decide_eq_true_eq] at h
  obtain ⟨⟨⟨⟨h0, h1⟩, h2⟩, h3⟩, h4⟩ := h
  exact ⟨h0, h1, inB_true h2, inB_true h3, (rowO_iff.1 h4).1, (rowO_iff.1 h4).2⟩
theorem smB_mk {c : Cf} {s : Smp} (h0 : cfB c = true) (h1 : s.os.length ≤ 300) (h2 : -1 ≤ s.p ∧ s.p ≤ 300) (h3 : 0 ≤ s.u ∧ s.u ≤ c.q) (h4 : ∀ o ∈ s.os, owB c o = true) (h5 : RisO s.os) : smB c s = true := by
  simp only [smB, Bool.and_eq_true, decide_eq_true_eq]
  exact ⟨⟨⟨⟨h0, h1⟩, inB_mk h2.1 h2.2⟩, inB_mk h3.1 h3.2⟩, rowO_iff.2 ⟨h4, h5⟩⟩
theorem owB_in {c : Cf} {o : Ow} (h : owB c o = true) : (0 ≤ o.g ∧ o.g ≤ 15) ∧ (0 ≤ o.f ∧ o.f ≤ 999) ∧ bkB c o.b = true := by
  simp only [owB, Bool.and_eq_true] at h
  exact ⟨inB_true h.1.1, inB_true h.1.2, h.2⟩
theorem owB_mk {c : Cf} {o : Ow} (h1 : 0 ≤ o.g ∧ o.g ≤ 15) (h2 : 0 ≤ o.f ∧ o.f ≤ 999) (h3 : bkB c o.b = true) : owB c o = true := by
  simp only [owB, Bool.and_eq_true]
  exact ⟨⟨inB_mk h1.1 h1.2, inB_mk h2.1 h2.2⟩, h3⟩

/-- What a list has of (g, f). -/
def getO : List Ow → Int → Int → Option Bu
  | [], _, _ => none
  | o :: os, g, f => if samB o g f then some o.b else getO os g f
/-- Theirs, or a new one. -/
def ofO (c : Cf) (os : List Ow) (g f : Int) : Bu := (getO os g f).getD (nwB c)
/-- With x in its place. -/
def putO : List Ow → Ow → List Ow
  | [], x => [x]
  | o :: os, x => if ahB o.g o.f x.g x.f then o :: putO os x else if samB o x.g x.f then x :: os else x :: o :: os

theorem getO_some {os : List Ow} {g f : Int} {b : Bu} (h : getO os g f = some b) : ⟨g, f, b⟩ ∈ os := by
  induction os with
  | nil => cases h
  | cons o os ih =>
    unfold getO at h
    by_cases e : samB o g f = true
    · rw [if_pos e] at h
      obtain ⟨rfl, rfl⟩ := samB_true.1 e
      cases h
      exact List.mem_cons_self
    · rw [if_neg e] at h
      exact List.mem_cons_of_mem _ (ih h)
theorem getO_mem {os : List Ow} (hr : RisO os) {o : Ow} (h : o ∈ os) : getO os o.g o.f = some o.b := by
  induction os with
  | nil => cases h
  | cons q os ih =>
    obtain ⟨h1, h2⟩ := List.pairwise_cons.1 hr
    unfold getO
    rcases List.mem_cons.1 h with rfl | hm
    · rw [if_pos (samB_true.2 ⟨rfl, rfl⟩)]
    · have := h1 o hm
      rw [ahB_true] at this
      rw [if_neg (by rw [samB_true]; omega)]
      exact ih h2 hm
theorem getO_none {os : List Ow} {g f : Int} : getO os g f = none ↔ ∀ o ∈ os, ¬ (o.g = g ∧ o.f = f) := by
  induction os with
  | nil => simp [getO]
  | cons q os ih =>
    unfold getO
    by_cases e : samB q g f = true
    · rw [if_pos e]
      constructor
      · intro h; cases h
      · intro h; exact absurd (samB_true.1 e) (h q List.mem_cons_self)
    · rw [if_neg e, ih]
      simp only [List.mem_cons, forall_eq_or_imp]
      exact ⟨fun h => ⟨fun q => e (samB_true.2 q), h⟩, fun h => h.2⟩
theorem putO_mem {os : List Ow} {x o : Ow} (h : o ∈ putO os x) : o = x ∨ o ∈ os := by
  induction os with
  | nil => simpa [putO] using h
  | cons q os ih =>
    unfold putO at h
    split at h
    · rcases List.mem_cons.1 h with rfl | hm
      · exact .inr List.mem_cons_self
      · rcases ih hm with e | e
        · exact .inl e
        · exact .inr (List.mem_cons_of_mem _ e)
    · split at h
      · rcases List.mem_cons.1 h with e | hm
        · exact .inl e
        · exact .inr (List.mem_cons_of_mem _ hm)
      · rcases List.mem_cons.1 h with e | hm
        · exact .inl e
        · exact .inr hm
theorem putO_ris {os : List Ow} (hr : RisO os) (x : Ow) : RisO (putO os x) := by
  induction os with
  | nil => simp [putO, RisO]
  | cons q os ih =>
    obtain ⟨h1, h2⟩ := List.pairwise_cons.1 hr
    unfold putO
    by_cases ha : ahB q.g q.f x.g x.f = true
    · rw [if_pos ha]
      refine List.pairwise_cons.2 ⟨fun o ho => ?_, ih h2⟩
      rcases putO_mem ho with rfl | hm
      · exact ha
      · exact h1 o hm
    · rw [if_neg ha]
      by_cases hs : samB q x.g x.f = true
      · rw [if_pos hs]
        obtain ⟨e1, e2⟩ := samB_true.1 hs
        refine List.pairwise_cons.2 ⟨fun o ho => ?_, h2⟩
        rw [← e1, ← e2]
        exact h1 o ho
      · rw [if_neg hs]
        rw [ahB_true] at ha
        rw [samB_true] at hs
        have hx : ahB x.g x.f q.g q.f = true := by rw [ahB_true]; omega
        refine List.pairwise_cons.2 ⟨fun o ho => ?_, hr⟩
        rcases List.mem_cons.1 ho with rfl | hm
        · exact hx
        · exact ah_trans hx (h1 o hm)
theorem putO_get {os : List Ow} (hr : RisO os) (x : Ow) (g f : Int) : getO (putO os x) g f = if samB x g f then some x.b else getO os g f := by
  induction os with
  | nil => simp [putO, getO]
  | cons q os ih =>
    obtain ⟨h1, h2⟩ := List.pairwise_cons.1 hr
    unfold putO
    by_cases ha : ahB q.g q.f x.g x.f = true
    · rw [if_pos ha]
      rw [getO, ih h2, getO]
      by_cases hs : samB q g f = true
      · rw [if_pos hs, if_pos hs]
        rw [ahB_true] at ha
        rw [samB_true] at hs
        rw [if_neg (by rw [samB_true]; omega)]
      · rw [if_neg hs, if_neg hs]
    · rw [if_neg ha]
      by_cases hs : samB q x.g x.f = true
      · rw [if_pos hs]
        rw [getO, getO]
        by_cases hx : samB x g f = true
        · rw [if_pos hx, if_pos hx]
        · rw [if_neg hx, if_neg hx]
          rw [samB_true] at hs hx
          rw [if_neg (by rw [samB_true]; omega)]
      · rw [if_neg hs, getO]
theorem putO_len {os : List Ow} (hr : RisO os) (x : Ow) : (putO os x).length = if (getO os x.g x.f).isSome then os.length else os.length + 1 := by
  induction os with
  | nil => simp [putO, getO]
  | cons q os ih =>
    obtain ⟨h1, h2⟩ := List.pairwise_cons.1 hr
    unfold putO
    by_cases ha : ahB q.g q.f x.g x.f = true
    · rw [if_pos ha, getO]
      have ha := ahB_true.1 ha
      have hs : ¬ samB q x.g x.f = true := by rw [samB_true]; omega
      rw [if_neg hs, List.length_cons, ih h2, List.length_cons]
      split <;> rfl
    · rw [if_neg ha]
      by_cases hs : samB q x.g x.f = true
      · rw [if_pos hs, getO, if_pos hs]; rfl
      · rw [if_neg hs]
        have hn : getO (q :: os) x.g x.f = none := by
          rw [getO_none]
          intro o ho
          rw [ahB_true] at ha
          rw [samB_true] at hs
          rcases List.mem_cons.1 ho with rfl | hm
          · omega
          · have := h1 o hm
            rw [ahB_true] at this
            omega
        rw [hn]; rfl

theorem putO_putO (os : List Ow) (g f : Int) (b b' : Bu) : putO (putO os ⟨g, f, b⟩) ⟨g, f, b'⟩ = putO os ⟨g, f, b'⟩ := by
  have hi : ahB g f g f = false := by rw [ahB_false]; omega
  have hs : ∀ b, samB ⟨g, f, b⟩ g f = true := fun b => samB_true.2 ⟨rfl, rfl⟩
  induction os with
  | nil => simp [putO, hi, hs]
  | cons o os ih =>
    by_cases h1 : ahB o.g o.f g f = true
    · simp [putO, h1, ih]
    · have h1 : ahB o.g o.f g f = false := by simpa using h1
      by_cases h2 : samB o g f = true
      · simp [putO, h1, h2, hi, hs]
      · have h2 : samB o g f = false := by simpa using h2
        simp [putO, h1, h2, hi, hs]
theorem putO_same {os : List Ow} (hr : RisO os) {g f : Int} {b : Bu} (h : getO os g f = some b) : putO os ⟨g, f, b⟩ = os := by
  induction os with
  | nil => cases h
  | cons o os ih =>
    obtain ⟨h1, h2⟩ := List.pairwise_cons.1 hr
    unfold getO at h
    by_cases e : samB o g f = true
    · rw [if_pos e] at h
      obtain ⟨rfl, rfl⟩ := samB_true.1 e
      cases h
      have hi : ahB o.g o.f o.g o.f = false := by rw [ahB_false]; omega
      simp [putO, hi, e]
    · rw [if_neg e] at h
      have ha := h1 _ (getO_some h)
      simp only at ha
      simp [putO, ha, ih h2 h]
theorem putO_self {os : List Ow} (hr : RisO os) (x : Ow) : x ∈ putO os x := by
  have := putO_get hr x x.g x.f
  rw [if_pos (samB_true.2 ⟨rfl, rfl⟩)] at this
  exact getO_some this
/-- Who is in the list and is not x was there, and is not theirs. -/
theorem putO_old {os : List Ow} (hr : RisO os) {x o : Ow} (h : o ∈ putO os x) : o = x ∨ (o ∈ os ∧ ¬ (o.g = x.g ∧ o.f = x.f)) := by
  by_cases e : o.g = x.g ∧ o.f = x.f
  · left
    have h1 := getO_mem (putO_ris hr x) h
    rw [putO_get hr x, e.1, e.2, if_pos (samB_true.2 ⟨rfl, rfl⟩)] at h1
    obtain ⟨og, of, ob⟩ := o
    obtain ⟨xg, xf, xb⟩ := x
    simp only at e h1
    obtain ⟨rfl, rfl⟩ := e
    cases h1
    rfl
  · rcases putO_mem h with rfl | hm
    · exact .inl rfl
    · exact .inr ⟨hm, e⟩

/-- Behind all. -/
theorem putO_last {os : List Ow} {x : Ow} (h : ∀ o ∈ os, ahB o.g o.f x.g x.f = true) : putO os x = os ++ [x] := by
  induction os with
  | nil => rfl
  | cons o os ih =>
    unfold putO
    rw [if_pos (h o List.mem_cons_self), ih (fun q hq => h q (List.mem_cons_of_mem _ hq))]
    rfl
theorem ris_take {os : List Ow} (hr : RisO os) {k : Nat} (hk : k < os.length) : putO (os.take k) os[k] = os.take (k + 1) ∧ getO (os.take k) os[k].g os[k].f = none ∧ RisO (os.take k) := by
  have h : ∀ o ∈ os.take k, ahB o.g o.f os[k].g os[k].f = true := fun o ho => by
    obtain ⟨j, hj, rfl⟩ := List.mem_iff_getElem.1 ho
    rw [List.length_take] at hj
    rw [List.getElem_take]
    exact (List.pairwise_iff_getElem.1 hr) j k (by omega) hk (by omega)
  refine ⟨?_, ?_, hr.sublist (List.take_sublist _ _)⟩
  · rw [putO_last h, List.take_add_one, List.getElem?_eq_getElem hk]
    rfl
  · rw [getO_none]
    intro o ho e
    have := h o ho
    rw [ahB_true] at this
    omega

/-- The specification's way to put: the list so far, and whether x is in it. -/
def stP (x : Ow) (s : List Ow × Bool) (o : Ow) : List Ow × Bool :=
  ((if !s.2 && !ahB o.g o.f x.g x.f then s.1 ++ [x] else s.1) ++ (if samB o x.g x.f then [] else [o]), s.2 || !ahB o.g o.f x.g x.f)
def putL (os : List Ow) (x : Ow) : List Ow := (os.foldl (stP x) ([], false)).1 ++ (if (os.foldl (stP x) ([], false)).2 then [] else [x])
theorem putL_past {os : List Ow} {x : Ow} (h : ∀ o ∈ os, ahB x.g x.f o.g o.f = true) (acc : List Ow) : os.foldl (stP x) (acc, true) = (acc ++ os, true) := by
  induction os generalizing acc with
  | nil => simp
  | cons q os ih =>
    have hq := ahB_true.1 (h q List.mem_cons_self)
    have hs : samB q x.g x.f = false := by rw [samB_false]; omega
    rw [List.foldl_cons]
    have : stP x (acc, true) q = (acc ++ [q], true) := by simp [stP, hs]
    rw [this, ih (fun o ho => h o (List.mem_cons_of_mem _ ho))]
    simp
theorem putL_at {os : List Ow} (hr : RisO os) (x : Ow) (acc : List Ow) : (os.foldl (stP x) (acc, false)).1 ++ (if (os.foldl (stP x) (acc, false)).2 then [] else [x]) = acc ++ putO os x := by
  induction os generalizing acc with
  | nil => simp [putO]
  | cons q os ih =>
    obtain ⟨h1, h2⟩ := List.pairwise_cons.1 hr
    rw [List.foldl_cons]
    unfold putO
    by_cases ha : ahB q.g q.f x.g x.f = true
    · rw [if_pos ha]
      have hs : samB q x.g x.f = false := by
        have ha := ahB_true.1 ha
        rw [samB_false]; omega
      have : stP x (acc, false) q = (acc ++ [q], false) := by simp [stP, hs, ha]
      rw [this, ih h2]
      simp
    · rw [if_neg ha]
      have ha' : ahB q.g q.f x.g x.f = false := by simpa using ha
      by_cases hs : samB q x.g x.f = true
      · rw [if_pos hs]
        have : stP x (acc, false) q = (acc ++ [x], true) := by simp [stP, hs, ha']
        obtain ⟨e1, e2⟩ := samB_true.1 hs
        rw [this, putL_past (fun o ho => by rw [← e1, ← e2]; exact h1 o ho)]
        simp
      · rw [if_neg hs]
        have hs' : samB q x.g x.f = false := by simpa using hs
        have : stP x (acc, false) q = (acc ++ [x, q], true) := by simp [stP, hs', ha']
        rw [ahB_true] at ha
        rw [samB_true] at hs
        have hx : ahB x.g x.f q.g q.f = true := by rw [ahB_true]; omega
        rw [this, putL_past (fun o ho => ah_trans hx (h1 o ho))]
        simp
theorem putL_eq {os : List Ow} (hr : RisO os) (x : Ow) : putL os x = putO os x := by
  have := putL_at hr x []
  simpa [putL] using this

/-- What a look makes of a sampler, and whether it is looked at. -/
def lkU (c : Cf) (s : Smp) (n : Int) : Int := if s.p = n / c.s then s.u else 0
def lkT (c : Cf) (s : Smp) (n g f : Int) : Bool := stB2 c (ofO c s.os g f) && decide (lkU c s n < c.q)
def lkS (c : Cf) (xs : List Int) (s : Smp) (n g f : Int) : Smp :=
  if onB c xs n then ⟨putO s.os ⟨g, f, stB1 c (ofO c s.os g f)⟩, n / c.s, if lkT c s n g f then lkU c s n + 1 else lkU c s n⟩ else s
def lkB (c : Cf) (xs : List Int) (s : Smp) (n g f : Int) : Bool := onB c xs n && lkT c s n g f
/-- Is a look refused? -/
def lkOk (c : Cf) (xs : List Int) (s : Smp) (n g f : Int) : Bool := stB c xs && smB c s && inB 0 299 n && inB 0 15 g && inB 0 999 f
def fullB (c : Cf) (xs : List Int) (s : Smp) (n g f : Int) : Bool := onB c xs n && !(getO s.os g f).isSome && decide (300 ≤ s.os.length)

theorem st_ok {c : Cf} {x : Bu} (h : bkB c x = true) : bkB c (stB1 c x) = true := by
  have q := bkB_in h
  have qc := cfB_in q.1
  obtain ⟨q0, q1, q2, q3, q4⟩ := q
  unfold stB1
  rw [if_pos h]
  by_cases h1 : x.l = 0
  · have h2 := q4.1 h1
    rw [if_neg (fun e => e h1)]
    by_cases h3 : x.s - 1 = 0
    · rw [if_pos h3]
      exact bkB_mk q0 (by simp only; omega) (by simp only; omega) (by simp only; omega) (by simp only; omega)
    · rw [if_neg h3]
      exact bkB_mk q0 (by simp only; omega) (by simp only; omega) (by simp only; omega) (by simp only; omega)
  · have h2 : x.s = 0 := by
      by_cases e : x.s = 0
      · exact e
      · exact absurd (q4.2 e) h1
    rw [if_pos h1]
    by_cases h3 : x.l - 1 = 0
    · rw [if_pos h3]
      exact bkB_mk q0 (by simp only; omega) (by simp only; omega) (by simp only; omega) (by simp only; omega)
    · rw [if_neg h3]
      exact bkB_mk q0 (by simp only; omega) (by simp only; omega) (by simp only; omega) (by simp only; omega)
theorem nw_ok {c : Cf} (h : cfB c = true) : bkB c (nwB c) = true := by
  have q := cfB_in h
  unfold nwB
  rw [if_pos h]
  exact bkB_mk h (by simp only; omega) (by simp only; omega) (by simp only; omega) (by simp only; omega)
theorem of_ok {c : Cf} {os : List Ow} (hc : cfB c = true) (h : ∀ o ∈ os, owB c o = true) (g f : Int) : bkB c (ofO c os g f) = true := by
  unfold ofO
  cases e : getO os g f with
  | none => exact nw_ok hc
  | some b => exact (owB_in (h _ (getO_some e))).2.2
theorem put_ok {c : Cf} {os : List Ow} (h : ∀ o ∈ os, owB c o = true) {x : Ow} (hx : owB c x = true) : ∀ o ∈ putO os x, owB c o = true := fun o ho => by
  rcases putO_mem ho with rfl | hm
  · exact hx
  · exact h o hm
/-- A right sampler stays right, but for the number of its Owns. -/
theorem lk_ok {c : Cf} {xs : List Int} {s : Smp} {n g f : Int} (h : smB c s = true) (hn : 0 ≤ n ∧ n ≤ 299) (hg : 0 ≤ g ∧ g ≤ 15) (hf : 0 ≤ f ∧ f ≤ 999) (hl : (lkS c xs s n g f).os.length ≤ 300) : smB c (lkS c xs s n g f) = true := by
  unfold lkS at hl ⊢
  split
  · rename_i ho
    rw [if_pos ho] at hl
    obtain ⟨h0, h1, h2, h3, h4, h5⟩ := smB_in h
    have qc := cfB_in h0
    have d0 : 0 ≤ n / c.s := Int.ediv_nonneg hn.1 (by omega)
    have d1 : n / c.s ≤ n := Int.ediv_le_self _ hn.1
    refine smB_mk h0 hl ⟨by simp only; omega, by simp only; omega⟩ ?_ (put_ok h4 (owB_mk hg hf (st_ok (of_ok h0 h4 g f)))) (putO_ris h5 _)
    have hu : 0 ≤ lkU c s n ∧ lkU c s n ≤ c.q := by unfold lkU; split <;> omega
    simp only
    split
    · rename_i ht
      simp only [lkT, Bool.and_eq_true, decide_eq_true_eq] at ht
      omega
    · exact hu
  · exact h
theorem lk_len {c : Cf} {xs : List Int} {s : Smp} {n g f : Int} (hr : RisO s.os) : (lkS c xs s n g f).os.length ≤ s.os.length + 1 ∧ (300 < (lkS c xs s n g f).os.length ↔ (fullB c xs s n g f = true ∨ 300 < s.os.length)) := by
  unfold lkS fullB
  by_cases ho : onB c xs n = true
  · rw [if_pos ho, ho]
    simp only [putO_len hr]
    cases hg : (getO s.os g f).isSome
    · simp; omega
    · simp
  · rw [if_neg ho]
    simp [ho]
end Go.Proofs.Ytkfcchapfklpgaa
