/-
  Pack AB: RowG, RowGL.
-/
import Derived.Test.YtcofhmikdkkigaaGreatDoorPfAA
import Derived.Maps.AppendAt
namespace Go.Proofs.YtcofhmikdkkigaaGreatDoor
open Go.RowKit

structure Lay (α : Type) where
  ty : Nat
  sz : Nat
  cs : α → List Value
  pos : 0 < sz
  len : ∀ x, (cs x).length = sz
  one : ∀ x, ∀ u ∈ cs x, u.oneCell' = true

structure ReadsG {α : Type} (L : Lay α) (w : World) (ao : Option Addr) (xs : List α) : Prop where
  len : xs.length ≤ 16777216
  at_ : ∀ i, i < xs.length → ∃ b off, ao = some ⟨b, off, none⟩ ∧ ∀ j (hj : j < xs.length) k, k < L.sz → w.cell? ⟨b, off + j * L.sz + k, none⟩ = (L.cs xs[j])[k]?

theorem ReadsG.nil {α : Type} (L : Lay α) (w : World) (ao : Option Addr) : ReadsG L w ao [] := ⟨by simp, by simp⟩
theorem ReadsG.keep {α : Type} {L : Lay α} {w w' : World} {ao : Option Addr} {xs : List α} {row : Option Nat} (h : ReadsG L w ao xs) (k : w.grownBy w' row) (hne : row = none ∨ blk ao ≠ row) : ReadsG L w' ao xs := by
  refine ⟨h.len, fun i hi => ?_⟩
  obtain ⟨b, off, e, hc⟩ := h.at_ i hi
  refine ⟨b, off, e, fun j hj q hq => ?_⟩
  have h0 := hc j hj q hq
  have hlt : q < (L.cs xs[j]).length := by rw [L.len]; exact hq
  rw [List.getElem?_eq_getElem hlt] at h0 ⊢
  refine k.cell h0 ?_
  rcases hne with rfl | hne
  · simp
  · intro hh
    apply hne
    rw [e, ← hh]
    rfl
theorem ReadsG.fr {α : Type} {L : Lay α} {w w' : World} {ao : Option Addr} {xs : List α} (h : ReadsG L w ao xs) (k : Fr w w') : ReadsG L w' ao xs := h.keep k (.inl rfl)

theorem cellsG_at {α : Type} (L : Lay α) (xs : List α) (j k : Nat) (hj : j < xs.length) (hk : k < L.sz) : (xs.flatMap L.cs)[j * L.sz + k]? = (L.cs xs[j])[k]? := by
  induction xs generalizing j with
  | nil => simp at hj
  | cons e es ih =>
    have h8 := L.len e
    cases j with
    | zero => rw [List.flatMap_cons, Nat.zero_mul, Nat.zero_add, List.getElem?_append_left (by omega)]; rfl
    | succ j =>
      have e1 : (j + 1) * L.sz + k - L.sz = j * L.sz + k := by rw [Nat.succ_mul]; omega
      rw [List.flatMap_cons, List.getElem?_append_right (by rw [Nat.succ_mul]; omega), h8, e1, ih j (by simpa using hj)]
      rfl

def OwnG {α : Type} (L : Lay α) (w : World) (base : Nat) (v : Value) (xs : List α) : Prop :=
  ∃ g cap, v = .slice (some ⟨g, 0, none⟩) xs.length cap ∧ w.ownsRow base L.ty L.sz (.slice (some ⟨g, 0, none⟩) xs.length cap) xs.length (xs.flatMap L.cs) ∧ xs.length ≤ 16777216

theorem own_readsG {α : Type} {L : Lay α} {w : World} {base g cap : Nat} {xs : List α} (h : w.ownsRow base L.ty L.sz (.slice (some ⟨g, 0, none⟩) xs.length cap) xs.length (xs.flatMap L.cs)) (hl : xs.length ≤ 16777216) : ReadsG L w (some ⟨g, 0, none⟩) xs := by
  refine ⟨hl, fun i hi => ⟨g, 0, rfl, fun j hj k hk => ?_⟩⟩
  have hm : (j + 1) * L.sz ≤ xs.length * L.sz := Nat.mul_le_mul_right _ hj
  rw [Nat.succ_mul] at hm
  have := h.cellAt (j * L.sz + k) (by omega)
  rw [Nat.zero_add, this, cellsG_at L xs j k hj hk]
theorem OwnG.keep {α : Type} {L : Lay α} {w w' : World} {base : Nat} {v : Value} {xs : List α} {row : Option Nat} (h : OwnG L w base v xs) (k : w.grownBy w' row) (hne : v.ownBlock ≠ row) : OwnG L w' base v xs := by
  obtain ⟨g, cap, rfl, ho, hl⟩ := h
  exact ⟨g, cap, rfl, ho.kept k (.inr hne), hl⟩
theorem OwnG.fr {α : Type} {L : Lay α} {w w' : World} {base : Nat} {v : Value} {xs : List α} (h : OwnG L w base v xs) (k : Fr w w') : OwnG L w' base v xs := by
  obtain ⟨g, cap, rfl, ho, hl⟩ := h
  exact ⟨g, cap, rfl, ho.kept k (by simp [Value.ownBlock]), hl⟩
theorem OwnG.blk {α : Type} {L : Lay α} {w : World} {base : Nat} {v : Value} {xs : List α} (h : OwnG L w base v xs) : ∀ j, v.ownBlock = some j → base ≤ j := by
  obtain ⟨g, cap, rfl, ho, hl⟩ := h
  intro j hj
  exact (ho.lt j hj).1
theorem OwnG.lt {α : Type} {L : Lay α} {w : World} {base : Nat} {v : Value} {xs : List α} (h : OwnG L w base v xs) : ∀ j, v.ownBlock = some j → j < w.heap.size := by
  obtain ⟨g, cap, rfl, ho, hl⟩ := h
  intro j hj
  exact (ho.lt j hj).2
theorem OwnG.lower {α : Type} {L : Lay α} {w : World} {base base' : Nat} {v : Value} {xs : List α} (h : OwnG L w base v xs) (hb : base' ≤ base) : OwnG L w base' v xs := by
  obtain ⟨g, cap, rfl, ho, hl⟩ := h
  refine ⟨g, cap, rfl, ⟨ho.1, ?_⟩, hl⟩
  rcases ho.2 with e | ⟨g, cap, cur, e, hg, r⟩
  · exact .inl e
  · exact .inr ⟨g, cap, cur, e, by omega, r⟩
theorem ownG_new {α : Type} (L : Lay α) (w : World) (base : Nat) (hb : base ≤ w.heap.size) : OwnG L (w.alloc (.cells #[] L.ty)) base (.slice (some ⟨w.heap.size, 0, none⟩) 0 0) [] :=
  ⟨w.heap.size, 0, rfl, ⟨by simp, .inr ⟨w.heap.size, 0, #[], rfl, hb, heap_alloc_new w _, Nat.le_refl _, by unfold maxLen; omega, by simp, by simp⟩⟩, by simp⟩

theorem appG {α : Type} (L : Lay α) (w : World) {ops : Array Oper} {rest : List Oper} {o : Oper} {a : Act} {Q : Exit → Act → World → Prop} (hgd : o.guard = none) (s x : Operand) (T : TypeId) (z : Value) (bytes : Nat)
    (ho : o.op = .call { callee := .builtin .append, args := #[s, x], argTypes := #[T, T] })
    (hT : Tryz.prog.underlying T = some (.slice L.ty)) (hI : (Tryz.prog.info? L.ty).map (fun i => (i.zero, i.size, i.bytes)) = some (some z, L.sz, bytes)) (hzs : z.cells.size = L.sz) (hby : bytes ≤ 1000)
    (base : Nat) (v : Value) (xs : List α) (e : α) (hs : a.eval s = v) (hown : OwnG L w base v xs)
    (b : Nat) (c : Nat) (hx : a.eval x = .slice (some ⟨b, 0, none⟩) 1 c) (hnew : ∀ k, k < L.sz → w.cell? ⟨b, k, none⟩ = (L.cs e)[k]?)
    (hlen : xs.length ≤ 16777215) (hbase : base ≤ w.heap.size)
    (h : ∀ v' w', OwnG L w' base v' (xs ++ [e]) → w.grownBy w' v.ownBlock → (v'.ownBlock = v.ownBlock ∨ v'.ownBlock = some w.heap.size) → wpList Tryz.prog ops Q rest (a.put o.dst v') w') : wpList Tryz.prog ops Q (o :: rest) a w := by
  obtain ⟨i0, hi, hz0, hz1, hz2⟩ := info_parts hI
  obtain ⟨g, cap, rfl, ho', hl⟩ := hown
  have hb : (xs.length + 1) * bytes ≤ 140737488355328 := by
    have := Nat.mul_le_mul (show xs.length + 1 ≤ 16777216 by omega) hby
    omega
  refine wpList_append_own_at w hgd s x T ho base L.ty i0 z L.sz bytes hT hi hz0 hz1 hz2 hzs L.pos _ _ _ hs ho' ⟨b, 0, none⟩ 1 c (L.cs e) hx (by rw [L.len, Nat.one_mul]) ?_ (L.one e) (by unfold maxLen; omega) hb hbase ?_
  · intro j u hu
    rw [Addr.add_lit]
    have hj : j < L.sz := by
      have := (List.getElem?_eq_some_iff.1 hu).1
      rwa [L.len] at this
    rw [Nat.zero_add, hnew j hj, hu]
  · intro v' w' hv hg hnz hat
    refine h v' w' ?_ hg hat
    rcases hv.2 with ⟨e', _⟩ | ⟨g', cap', cur, e', r⟩
    · have := (hnz.1 e').1
      simp at this
    · subst e'
      exact ⟨g', cap', by simp, by simpa [List.flatMap_append] using hv, by simp; omega⟩
end Go.Proofs.YtcofhmikdkkigaaGreatDoor
namespace Go.Proofs.YtcofhmikdkkigaaGreatDoor
open Go.RowKit

theorem flatG_len {α : Type} (L : Lay α) (xs : List α) : (xs.flatMap L.cs).length = xs.length * L.sz := by
  induction xs with
  | nil => simp
  | cons e es ih => rw [List.flatMap_cons, List.length_append, ih, L.len, List.length_cons, Nat.succ_mul, Nat.add_comm]
theorem flatG_one {α : Type} (L : Lay α) (xs : List α) : ∀ u ∈ xs.flatMap L.cs, u.oneCell' = true := by
  intro u hu
  obtain ⟨x, -, hx⟩ := List.mem_flatMap.1 hu
  exact L.one x u hx
theorem ownG_lit {α : Type} (L : Lay α) (w : World) (xs : List α) (hl : xs.length ≤ 1000) (o : Obj) (ho : o = .cells (xs.flatMap L.cs).toArray L.ty (0, 0)) : OwnG L (w.alloc o) w.heap.size (.slice (some ⟨w.heap.size, 0, none⟩) xs.length xs.length) xs := by
  subst ho
  have hf := flatG_len L xs
  exact ⟨w.heap.size, xs.length, rfl, ⟨hf, .inr ⟨w.heap.size, xs.length, (xs.flatMap L.cs).toArray, rfl, Nat.le_refl _, heap_alloc_new w _, Nat.le_refl _, by unfold maxLen; omega, by simpa using hf, by simp [List.take_of_length_le, hf]⟩⟩, by omega⟩
theorem ownG_litK {α : Type} (L : Lay α) (w : World) (xs : List α) (hl : xs.length ≤ 1000) (o : Obj) (ho : o = .cells (xs.flatMap L.cs).toArray L.ty (0, 0)) (k base : Nat) (hk : w.heap.size = k) (hb : base ≤ k) : OwnG L (w.alloc o) base (.slice (some ⟨k, 0, none⟩) xs.length xs.length) xs := by
  subst hk
  exact (ownG_lit L w xs hl o ho).lower hb
theorem news_of_reads {α : Type} {L : Lay α} {w : World} {b off : Nat} {ys : List α} (h : ReadsG L w (some ⟨b, off, none⟩) ys) : ∀ j u, (ys.flatMap L.cs)[j]? = some u → w.cell? ((⟨b, off, none⟩ : Addr).add j) = some u := by
  intro j u hu
  have hj := (List.getElem?_eq_some_iff.1 hu).1
  rw [flatG_len] at hj
  have hpos := L.pos
  have hq : j / L.sz < ys.length := (Nat.div_lt_iff_lt_mul hpos).2 hj
  have hr : j % L.sz < L.sz := Nat.mod_lt _ hpos
  have hs : j / L.sz * L.sz + j % L.sz = j := by rw [Nat.mul_comm]; exact Nat.div_add_mod j L.sz
  obtain ⟨b', off', e, hc⟩ := h.at_ (j / L.sz) hq
  simp only [Option.some.injEq, Addr.mk.injEq, and_true] at e
  obtain ⟨rfl, rfl⟩ := e
  have h1 := hc _ hq _ hr
  rw [← cellsG_at L ys _ _ hq hr, hs, Nat.add_assoc, hs, hu] at h1
  rw [Addr.add_lit]
  exact h1

theorem appGL {α : Type} (L : Lay α) (w : World) {ops : Array Oper} {rest : List Oper} {o : Oper} {a : Act} {Q : Exit → Act → World → Prop} (hgd : o.guard = none) (s x : Operand) (T : TypeId) (z : Value) (bytes : Nat)
    (ho : o.op = .call { callee := .builtin .append, args := #[s, x], argTypes := #[T, T] })
    (hT : Tryz.prog.underlying T = some (.slice L.ty)) (hI : (Tryz.prog.info? L.ty).map (fun i => (i.zero, i.size, i.bytes)) = some (some z, L.sz, bytes)) (hzs : z.cells.size = L.sz) (hby : bytes ≤ 1000)
    (base : Nat) (v : Value) (xs ys : List α) (hs : a.eval s = v) (hown : OwnG L w base v xs)
    (ad : Addr) (c : Nat) (hx : a.eval x = .slice (some ad) ys.length c) (hnew : ∀ j u, (ys.flatMap L.cs)[j]? = some u → w.cell? (ad.add j) = some u)
    (hlen : xs.length + ys.length ≤ 16777216) (hbase : base ≤ w.heap.size)
    (h : ∀ v' w', OwnG L w' base v' (xs ++ ys) → w.grownBy w' v.ownBlock → (v'.ownBlock = v.ownBlock ∨ v'.ownBlock = some w.heap.size) → wpList Tryz.prog ops Q rest (a.put o.dst v') w') : wpList Tryz.prog ops Q (o :: rest) a w := by
  obtain ⟨i0, hi, hz0, hz1, hz2⟩ := info_parts hI
  obtain ⟨g, cap, rfl, ho', hl⟩ := hown
  have hb : (xs.length + ys.length) * bytes ≤ 140737488355328 := by
    have := Nat.mul_le_mul hlen hby
    omega
  refine wpList_append_own_at w hgd s x T ho base L.ty i0 z L.sz bytes hT hi hz0 hz1 hz2 hzs L.pos _ _ _ hs ho' ad ys.length c (ys.flatMap L.cs) hx (flatG_len L ys) hnew (flatG_one L ys) (by unfold maxLen; omega) hb hbase ?_
  intro v' w' hv hg hnz hat
  refine h v' w' ?_ hg hat
  rcases hv.2 with ⟨e', _⟩ | ⟨g', cap', cur, e', r⟩
  · have := (hnz.1 e').1
    simp at this
  · subst e'
    exact ⟨g', cap', by simp, by simpa [List.flatMap_append] using hv, by simp; omega⟩
end Go.Proofs.YtcofhmikdkkigaaGreatDoor
