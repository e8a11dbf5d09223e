/-
  Slices of structs in memory, whatever the struct: reading one, owning one, 'append' of one element.
-/
import Derived.Test.YthehhiccfnhinaaGreatDoorPackAA
import Derived.Maps.AppendAt
import Derived.BigQuiet
import Derived.Deep.QuietTactic
namespace Go.Proofs.YthehhiccfnhinaaGreatDoor
open Go.RowKit

/-- How an element lies: its type, its cells. -/
structure Lay (α : Type) where
  ty : Nat
  sz : Nat
  cs : α → List Value
  pos : 0 < sz
  len : ∀ x, (cs x).length = sz
  one : ∀ x, ∀ u ∈ cs x, u.oneCell' = true

/-- A slice at the address ao reads as the elements xs. -/
structure ReadsG {α : Type} (L : Lay α) (w : World) (ao : Option Addr) (xs : List α) : Prop where
  len : xs.length ≤ 16777216
  at_ : ∀ i, i < xs.length → ∃ b off, ao = some ⟨b, off, none⟩ ∧ ∀ j (hj : j < xs.length) k, k < L.sz → w.cell? ⟨b, off + j * L.sz + k, none⟩ = (L.cs xs[j])[k]?

theorem ReadsG.nil {α : Type} (L : Lay α) (w : World) (ao : Option Addr) : ReadsG L w ao [] := ⟨by simp, by simp⟩
theorem ReadsG.keep {α : Type} {L : Lay α} {w w' : World} {ao : Option Addr} {xs : List α} {row : Option Nat} (h : ReadsG L w ao xs) (k : w.grownBy w' row) (hne : row = none ∨ blk ao ≠ row) : ReadsG L w' ao xs := by
  refine ⟨h.len, fun i hi => ?_⟩
  obtain ⟨b, off, e, hc⟩ := h.at_ i hi
  refine ⟨b, off, e, fun j hj q hq => ?_⟩
  have h0 := hc j hj q hq
  have hlt : q < (L.cs xs[j]).length := by rw [L.len]; exact hq
  rw [List.getElem?_eq_getElem hlt] at h0 ⊢
  refine k.cell h0 ?_
  rcases hne with rfl | hne
  · simp
  · intro hh
    apply hne
    rw [e, ← hh]
    rfl
theorem ReadsG.fr {α : Type} {L : Lay α} {w w' : World} {ao : Option Addr} {xs : List α} (h : ReadsG L w ao xs) (k : Fr w w') : ReadsG L w' ao xs := h.keep k (.inl rfl)

theorem cellsG_at {α : Type} (L : Lay α) (xs : List α) (j k : Nat) (hj : j < xs.length) (hk : k < L.sz) : (xs.flatMap L.cs)[j * L.sz + k]? = (L.cs xs[j])[k]? := by
  induction xs generalizing j with
  | nil => simp at hj
  | cons e es ih =>
    have h8 := L.len e
    cases j with
    | zero => rw [List.flatMap_cons, Nat.zero_mul, Nat.zero_add, List.getElem?_append_left (by omega)]; rfl
    | succ j =>
      have e1 : (j + 1) * L.sz + k - L.sz = j * L.sz + k := by rw [Nat.succ_mul]; omega
      rw [List.flatMap_cons, List.getElem?_append_right (by rw [Nat.succ_mul]; omega), h8, e1, ih j (by simpa using hj)]
      rfl

/-- The slice of the elements xs that a call owns: it begins at the head of a block from base on. -/
def OwnG {α : Type} (L : Lay α) (w : World) (base : Nat) (v : Value) (xs : List α) : Prop :=
  ∃ g cap, v = .slice (some ⟨g, 0, none⟩) xs.length cap ∧ w.ownsRow base L.ty L.sz (.slice (some ⟨g, 0, none⟩) xs.length cap) xs.length (xs.flatMap L.cs) ∧ xs.length ≤ 16777216

theorem own_readsG {α : Type} {L : Lay α} {w : World} {base g cap : Nat} {xs : List α} (h : w.ownsRow base L.ty L.sz (.slice (some ⟨g, 0, none⟩) xs.length cap) xs.length (xs.flatMap L.cs)) (hl : xs.length ≤ 16777216) : ReadsG L w (some ⟨g, 0, none⟩) xs := by
  refine ⟨hl, fun i hi => ⟨g, 0, rfl, fun j hj k hk => ?_⟩⟩
  have hm : (j + 1) * L.sz ≤ xs.length * L.sz := Nat.mul_le_mul_right _ hj
  rw [Nat.succ_mul] at hm
  have := h.cellAt (j * L.sz + k) (by omega)
  rw [Nat.zero_add, this, cellsG_at L xs j k hj hk]
theorem OwnG.keep {α : Type} {L : Lay α} {w w' : World} {base : Nat} {v : Value} {xs : List α} {row : Option Nat} (h : OwnG L w base v xs) (k : w.grownBy w' row) (hne : v.ownBlock ≠ row) : OwnG L w' base v xs := by
  obtain ⟨g, cap, rfl, ho, hl⟩ := h
  exact ⟨g, cap, rfl, ho.kept k (.inr hne), hl⟩
theorem OwnG.fr {α : Type} {L : Lay α} {w w' : World} {base : Nat} {v : Value} {xs : List α} (h : OwnG L w base v xs) (k : Fr w w') : OwnG L w' base v xs := by
  obtain ⟨g, cap, rfl, ho, hl⟩ := h
  exact ⟨g, cap, rfl, ho.kept k (by simp [Value.ownBlock]), hl⟩
theorem OwnG.blk {α : Type} {L : Lay α} {w : World} {base : Nat} {v : Value} {xs : List α} (h : OwnG L w base v xs) : ∀ j, v.ownBlock = some j → base ≤ j := by
  obtain ⟨g, cap, rfl, ho, hl⟩ := h
  intro j hj
  exact (ho.lt j hj).1
theorem OwnG.lt {α : Type} {L : Lay α} {w : World} {base : Nat} {v : Value} {xs : List α} (h : OwnG L w base v xs) : ∀ j, v.ownBlock = some j → j < w.heap.size := by
  obtain ⟨g, cap, rfl, ho, hl⟩ := h
  intro j hj
  exact (ho.lt j hj).2
theorem OwnG.lower {α : Type} {L : Lay α} {w : World} {base base' : Nat} {v : Value} {xs : List α} (h : OwnG L w base v xs) (hb : base' ≤ base) : OwnG L w base' v xs := by
  obtain ⟨g, cap, rfl, ho, hl⟩ := h
  refine ⟨g, cap, rfl, ⟨ho.1, ?_⟩, hl⟩
  rcases ho.2 with e | ⟨g, cap, cur, e, hg, r⟩
  · exact .inl e
  · exact .inr ⟨g, cap, cur, e, by omega, r⟩
theorem ownG_new {α : Type} (L : Lay α) (w : World) (base : Nat) (hb : base ≤ w.heap.size) : OwnG L (w.alloc (.cells #[] L.ty)) base (.slice (some ⟨w.heap.size, 0, none⟩) 0 0) [] :=
  ⟨w.heap.size, 0, rfl, ⟨by simp, .inr ⟨w.heap.size, 0, #[], rfl, hb, heap_alloc_new w _, Nat.le_refl _, by unfold maxLen; omega, by simp, by simp⟩⟩, by simp⟩

theorem appG {α : Type} (L : Lay α) (w : World) {ops : Array Oper} {rest : List Oper} {o : Oper} {a : Act} {Q : Exit → Act → World → Prop} (hgd : o.guard = none) (s x : Operand) (T : TypeId) (z : Value) (bytes : Nat)
    (ho : o.op = .call { callee := .builtin .append, args := #[s, x], argTypes := #[T, T] })
    (hT : Tryz.prog.underlying T = some (.slice L.ty)) (hI : (Tryz.prog.info? L.ty).map (fun i => (i.zero, i.size, i.bytes)) = some (some z, L.sz, bytes)) (hzs : z.cells.size = L.sz) (hby : bytes ≤ 1000)
    (base : Nat) (v : Value) (xs : List α) (e : α) (hs : a.eval s = v) (hown : OwnG L w base v xs)
    (b : Nat) (c : Nat) (hx : a.eval x = .slice (some ⟨b, 0, none⟩) 1 c) (hnew : ∀ k, k < L.sz → w.cell? ⟨b, k, none⟩ = (L.cs e)[k]?)
    (hlen : xs.length ≤ 16777215) (hbase : base ≤ w.heap.size)
    (h : ∀ v' w', OwnG L w' base v' (xs ++ [e]) → w.grownBy w' v.ownBlock → (v'.ownBlock = v.ownBlock ∨ v'.ownBlock = some w.heap.size) → wpList Tryz.prog ops Q rest (a.put o.dst v') w') : wpList Tryz.prog ops Q (o :: rest) a w := by
  obtain ⟨i0, hi, hz0, hz1, hz2⟩ := info_parts hI
  obtain ⟨g, cap, rfl, ho', hl⟩ := hown
  have hb : (xs.length + 1) * bytes ≤ 140737488355328 := by
    have := Nat.mul_le_mul (show xs.length + 1 ≤ 16777216 by omega) hby
    omega
  refine wpList_append_own_at w hgd s x T ho base L.ty i0 z L.sz bytes hT hi hz0 hz1 hz2 hzs L.pos _ _ _ hs ho' ⟨b, 0, none⟩ 1 c (L.cs e) hx (by rw [L.len, Nat.one_mul]) ?_ (L.one e) (by unfold maxLen; omega) hb hbase ?_
  · intro j u hu
    rw [Addr.add_lit]
    have hj : j < L.sz := by
      have := (List.getElem?_eq_some_iff.1 hu).1
      rwa [L.len] at this
    rw [Nat.zero_add, hnew j hj, hu]
  · intro v' w' hv hg hnz hat
    refine h v' w' ?_ hg hat
    rcases hv.2 with ⟨e', _⟩ | ⟨g', cap', cur, e', r⟩
    · have := (hnz.1 e').1
      simp at this
    · subst e'
      exact ⟨g', cap', by simp, by simpa [List.flatMap_append] using hv, by simp; omega⟩
end Go.Proofs.YthehhiccfnhinaaGreatDoor
/-
  The specification's small words on lists of numbers that scenes use: l4Obj, l4In, l4Without, l4With.
-/
namespace Go.Proofs.YthehhiccfnhinaaGreatDoor
open Go.RowKit

theorem l4Obj_any (x : Int) (w : World) :
    Calls Tryz.prog 62 #[.int .i64 x] w fun e w' => e = .returned (.bool (inB 0 15 x)) ∧ w' = w := by
  go_enter Tryz.func62, Tryz.ntmps62
  go_wp2_with (go_at_call 59; refine (l1In_any _ _ _ _).mono ?_; rintro e w' ⟨rfl, rfl⟩)
  go_ret
  exact ⟨rfl, rfl⟩

/-- Is the number in the list? -/
def memB (xs : List Int) (x : Int) : Bool := xs.any (· == x)
theorem memB_yes {xs : List Int} {x : Int} {k : Nat} (hk : k < xs.length) (h : xs[k] = x) : memB xs x = true := by
  rw [memB, List.any_eq_true]
  exact ⟨xs[k], List.getElem_mem hk, by simp [h]⟩
theorem memB_no {xs : List Int} {x : Int} (h : ∀ j, j < xs.length → xs.getD j 0 ≠ x) : memB xs x = false := by
  rw [memB, List.any_eq_false]
  intro y hy
  obtain ⟨j, hj, rfl⟩ := List.mem_iff_getElem.1 hy
  have := h j hj
  rw [getD_at hj] at this
  simpa using this

set_option maxHeartbeats 400000 in
theorem l4In_any (ao : Option Addr) (n cap : Nat) (xs : List Int) (x : Int) (w : World) (hn : xs.length = n) (h : Reads w ao xs) :
    Calls Tryz.prog 57 #[.slice ao n cap, .int .i64 x] w fun e w' => e = .returned (.bool (memB xs x)) ∧ w' = w := by
  subst hn
  have hl := h.len
  go_enter Tryz.func57, Tryz.ntmps57
  go_wp2
  go_loop [5] (fun i => ∃ k : Nat, k ≤ xs.length ∧ i = .int .i64 k ∧ Hid (∀ j, j < k → xs.getD j 0 ≠ x)) (fun i => xs.length - (intOf i).toNat)
  case atStart => exact ⟨0, Nat.zero_le _, rfl, fun j hj => by omega⟩
  case round =>
    obtain ⟨k, hk, rfl, HA⟩ := hrel
    by_cases hlt : k < xs.length
    · obtain ⟨b, off, rfl, hc⟩ := h.at_ k hlt
      have hck := hc k hlt
      rw [getD_at hlt] at hck
      clear hc
      by_cases he : xs[k] = x
      · have hb : (xs[k] == x) = true := beq_iff_eq.2 he
        have HE : Hid (memB xs x = true) := memB_yes hlt he
        clear he
        go_wp2
        go_ret
        exact ⟨ret_bool HE.out.symm, rfl⟩
      · have hb : (xs[k] == x) = false := beq_eq_false_iff_ne.2 he
        have HE : Hid (xs[k] ≠ x) := he
        clear he
        go_wp2
        go_round
        case rel =>
          refine ⟨k + 1, by omega, by go_num, fun j hj => ?_⟩
          by_cases e : j = k
          · subst e; rw [getD_at hlt]; exact HE.out
          · exact HA.out j (by omega)
        case measure => simp [intOf]; omega
    · have HN : Hid (memB xs x = false) := memB_no (fun j hj => HA.out j (by omega))
      go_wp2
      go_ret
      exact ⟨ret_bool HN.out.symm, rfl⟩

/-- Without a number. -/
def outL (xs : List Int) (x : Int) : List Int := xs.filter fun y => !(y == x)
theorem outL_yes (xs : List Int) (x : Int) (k : Nat) (hk : k < xs.length) (h : (xs[k] == x) = false) : outL (xs.take (k + 1)) x = outL (xs.take k) x ++ [xs[k]] := by
  rw [outL, List.take_succ_eq_append_getElem hk, List.filter_append]
  simp [outL, h]
theorem outL_no (xs : List Int) (x : Int) (k : Nat) (hk : k < xs.length) (h : (xs[k] == x) = true) : outL (xs.take (k + 1)) x = outL (xs.take k) x := by
  rw [outL, List.take_succ_eq_append_getElem hk, List.filter_append]
  simp [outL, h]
theorem outL_len (xs : List Int) (x : Int) : (outL xs x).length ≤ xs.length := List.length_filter_le _ _

set_option maxHeartbeats 800000 in
theorem l4Without_any (ao : Option Addr) (n cap : Nat) (xs : List Int) (x : Int) (w : World) (hn : xs.length = n) (h : Reads w ao xs) (hl : xs.length ≤ 4294967000) :
    Calls Tryz.prog 152 #[.slice ao n cap, .int .i64 x] w fun e w' => ∃ v, e = .returned v ∧ OwnS w' w.heap.size v (outL xs x) ∧ Fr w w' := by
  subst hn
  go_enter Tryz.func152, Tryz.ntmps152
  go_wp2_with fail
  go_loopw [5, 6] (fun u i wr => ∃ k : Nat, k ≤ xs.length ∧ i = .int .i64 k ∧ OwnS wr w.heap.size u (outL (xs.take k) x) ∧ Fr w wr) (fun _ i _ => xs.length - (intOf i).toNat)
  case atStart => exact ⟨0, Nat.zero_le _, rfl, own_empty w _ (Nat.le_refl _), Fr.alloc w _⟩
  case round =>
    obtain ⟨k, hk, rfl, ho, hf⟩ := hrel
    have hs := hf.size
    by_cases hlt : k < xs.length
    · obtain ⟨b, off, rfl, hc⟩ := (h.fr hf).at_ k hlt
      have hck := hc k hlt
      rw [getD_at hlt] at hck
      have hI := h.bd _ (List.getElem_mem hlt)
      have hll := outL_len (xs.take k) x
      have hlk : (xs.take k).length ≤ k := by simp; omega
      cases hb : (xs[k] == x)
      · have HN : Hid (outL (xs.take (k + 1)) x = outL (xs.take k) x ++ [xs[k]]) := outL_yes xs x k hlt hb
        obtain ⟨z, hz⟩ : ∃ z, z = xs[k] := ⟨_, rfl⟩
        rw [← hz] at hck hb HN hI
        clear hz hc
        have hm := reads_one wr z hI
        go_wp2_with (at_builtin; refine appI _ rfl _ _ rfl w.heap.size _ _ [z] rfl (ho.fr (Fr.alloc _ _)) _ _ _ rfl rfl (by simp) hm (by simp; omega) (by simp; omega) ?_; intro v1 w4 hv1 hg1)
        go_roundw
        case rel => exact ⟨k + 1, by omega, by go_num, by rw [HN.out]; exact hv1, (hf.trans (Fr.alloc _ _)).then hg1 ho.blk⟩
        case measure => simp [intOf]; omega
      · have HN : Hid (outL (xs.take (k + 1)) x = outL (xs.take k) x) := outL_no xs x k hlt hb
        obtain ⟨z, hz⟩ : ∃ z, z = xs[k] := ⟨_, rfl⟩
        rw [← hz] at hck hb
        clear hz hc
        go_wp2_with fail
        go_roundw
        case rel => exact ⟨k + 1, by omega, by go_num, by rw [HN.out]; exact ho, hf⟩
        case measure => simp [intOf]; omega
    · have et : k = xs.length := by omega
      subst et
      rw [List.take_length] at ho
      go_wp2_with fail
      go_ret
      exact ⟨_, rfl, ho, hf⟩

/-- With one number more, in order: what is there behind each element, and is it in? -/
def inS (x : Int) (a : List Int × Bool) (y : Int) : List Int × Bool :=
  if !a.2 && decide (x < y) then (a.1 ++ [x] ++ [y], true) else (a.1 ++ [y], a.2)
def inP (xs : List Int) (x : Int) : List Int × Bool := xs.foldl (inS x) ([], false)
def withL (xs : List Int) (x : Int) : List Int := if (inP xs x).2 then (inP xs x).1 else (inP xs x).1 ++ [x]
theorem inP_step (xs : List Int) (x : Int) (k : Nat) (hk : k < xs.length) : inP (xs.take (k + 1)) x = inS x (inP (xs.take k) x) xs[k] := by
  rw [inP, List.take_succ_eq_append_getElem hk, List.foldl_append]
  rfl
theorem inS_len (x : Int) (a : List Int × Bool) (y : Int) : (inS x a y).1.length ≤ a.1.length + 2 := by
  unfold inS
  split <;> simp
theorem inP_len (xs : List Int) (x : Int) (k : Nat) (hk : k ≤ xs.length) : (inP (xs.take k) x).1.length ≤ 2 * k := by
  induction k with
  | zero => simp [inP]
  | succ k ih =>
    have := ih (by omega)
    have h2 := inS_len x (inP (xs.take k) x) (xs[k]'(by omega))
    rw [inP_step xs x k (by omega)]
    omega

theorem cell_at {w w1 w4 : World} {bl off k : Nat} {xs : List Int} {z : Int} (h : Reads w (some ⟨bl, off, none⟩) xs) (hk : k < xs.length) (f : Fr w w4) (hc : w1.cell? ⟨bl, off + k, none⟩ = some (.int .i64 z)) (f1 : Fr w w1) : w4.cell? ⟨bl, off + k, none⟩ = some (.int .i64 z) := by
  obtain ⟨b, o, e, hh⟩ := h.at_ k hk
  simp only [Option.some.injEq, Addr.mk.injEq, and_true] at e
  obtain ⟨rfl, rfl⟩ := e
  have h0 := hh k hk
  have := f1.cell h0
  rw [hc] at this
  rw [f.cell h0, this]

set_option maxRecDepth 20000 in
set_option maxHeartbeats 1000000 in
theorem l4With_any (ao : Option Addr) (n cap : Nat) (xs : List Int) (x : Int) (w : World) (hn : xs.length = n) (hx : I64 x) (h : Reads w ao xs) (hl : xs.length ≤ 2000000000) :
    Calls Tryz.prog 151 #[.slice ao n cap, .int .i64 x] w fun e w' => ∃ v, e = .returned v ∧ OwnS w' w.heap.size v (withL xs x) ∧ Fr w w' := by
  subst hn
  go_enter Tryz.func151, Tryz.ntmps151
  go_wp2_with fail
  go_loopw [5, 6, 7] (fun u q i wr => ∃ (k : Nat) (ys : List Int) (b : Bool), k ≤ xs.length ∧ i = .int .i64 k ∧ q = .bool b ∧ Hid (inP (xs.take k) x = (ys, b)) ∧ ys.length ≤ 2 * k ∧ OwnS wr w.heap.size u ys ∧ Fr w wr) (fun _ _ i _ => xs.length - (intOf i).toNat)
  case atStart => exact ⟨0, [], false, Nat.zero_le _, rfl, rfl, rfl, by simp, own_empty w _ (Nat.le_refl _), Fr.alloc w _⟩
  case round =>
    obtain ⟨k, ys, b, hk, rfl, rfl, HP, hyl, ho, hf⟩ := hrel
    have hs := hf.size
    by_cases hlt : k < xs.length
    · obtain ⟨bl, off, rfl, hc⟩ := (h.fr hf).at_ k hlt
      have hck := hc k hlt
      rw [getD_at hlt] at hck
      have hI := h.bd _ (List.getElem_mem hlt)
      have HS : Hid (inP (xs.take (k + 1)) x = inS x (ys, b) xs[k]) := by
        show inP (xs.take (k + 1)) x = inS x (ys, b) xs[k]
        rw [inP_step xs x k hlt, HP.out]
      obtain ⟨z, hz⟩ : ∃ z, z = xs[k] := ⟨_, rfl⟩
      rw [← hz] at hck HS hI
      clear hz hc HP
      have hm := reads_one wr z hI
      cases b
      · by_cases hxz : x < z
        · have HN : Hid (inP (xs.take (k + 1)) x = (ys ++ [x] ++ [z], true)) := by
            show inP (xs.take (k + 1)) x = (ys ++ [x] ++ [z], true)
            rw [HS.out]; simp [inS, hxz]
          clear HS
          have hm1 := reads_one wr x hx
          have hbk := ho.blk
          clear hm
          go_wp2_with (at_builtin; first | (refine appI _ rfl _ _ rfl w.heap.size _ _ [x] rfl (ho.fr (Fr.alloc _ _)) _ _ _ rfl rfl (by simp) hm1 (by simp; omega) (by simp; omega) ?_; intro v1 w4 hv1 hg1; have f4 := (hf.trans (Fr.alloc wr (.cells #[.int .i64 x] 2))).then hg1 hbk; have hck4 := cell_at h hlt f4 hck hf; have hm4 := reads_one w4 z hI; have s4 := f4.size; clear hg1 hm1 hck) | (refine appI _ rfl _ _ rfl w.heap.size _ _ [z] rfl (hv1.fr (Fr.alloc _ _)) _ _ _ rfl rfl (by simp) hm4 (by simp; omega) (by simp; omega) ?_; intro v5 w5 hv5 hg5))
          go_roundw
          case rel => exact ⟨k + 1, _, _, by omega, by go_num, rfl, HN, by simp; omega, hv5, (f4.trans (Fr.alloc _ _)).then hg5 hv1.blk⟩
          case measure => simp [intOf]; omega
        · have HN : Hid (inP (xs.take (k + 1)) x = (ys ++ [z], false)) := by
            show inP (xs.take (k + 1)) x = (ys ++ [z], false)
            rw [HS.out]; simp [inS, hxz]
          clear HS
          have hxz : z ≤ x := by omega
          go_wp2_with (at_builtin; refine appI _ rfl _ _ rfl w.heap.size _ _ [z] rfl (ho.fr (Fr.alloc _ _)) _ _ _ rfl rfl (by simp) hm (by simp; omega) (by simp; omega) ?_; intro v1 w4 hv1 hg1)
          go_roundw
          case rel => exact ⟨k + 1, _, _, by omega, by go_num, rfl, HN, by simp; omega, hv1, (hf.trans (Fr.alloc _ _)).then hg1 ho.blk⟩
          case measure => simp [intOf]; omega
      · have HN : Hid (inP (xs.take (k + 1)) x = (ys ++ [z], true)) := by
          show inP (xs.take (k + 1)) x = (ys ++ [z], true)
          rw [HS.out]; simp [inS]
        clear HS
        go_wp2_with (at_builtin; refine appI _ rfl _ _ rfl w.heap.size _ _ [z] rfl (ho.fr (Fr.alloc _ _)) _ _ _ rfl rfl (by simp) hm (by simp; omega) (by simp; omega) ?_; intro v1 w4 hv1 hg1)
        go_roundw
        case rel => exact ⟨k + 1, _, _, by omega, by go_num, rfl, HN, by simp; omega, hv1, (hf.trans (Fr.alloc _ _)).then hg1 ho.blk⟩
        case measure => simp [intOf]; omega
    · have et : k = xs.length := by omega
      subst et
      rw [List.take_length] at HP
      cases b
      · have HN : Hid (withL xs x = ys ++ [x]) := by
          show withL xs x = ys ++ [x]
          rw [withL, HP.out]; rfl
        have hm1 := reads_one wr x hx
        go_wp2_with (at_builtin; refine appI _ rfl _ _ rfl w.heap.size _ _ [x] rfl (ho.fr (Fr.alloc _ _)) _ _ _ rfl rfl (by simp) hm1 (by simp; omega) (by simp; omega) ?_; intro v1 w4 hv1 hg1)
        go_ret
        exact ⟨_, rfl, by rw [HN.out]; exact hv1, (hf.trans (Fr.alloc _ _)).then hg1 ho.blk⟩
      · have HN : Hid (withL xs x = ys) := by
          show withL xs x = ys
          rw [withL, HP.out]; rfl
        go_wp2_with fail
        go_ret
        exact ⟨_, rfl, by rw [HN.out]; exact ho, hf⟩
end Go.Proofs.YthehhiccfnhinaaGreatDoor
/-
  Scenes: the model, how one lies in memory.
-/
namespace Go.Proofs.YthehhiccfnhinaaGreatDoor
open Go.RowKit

/-- A lock's value: its third field is a slice. -/
structure Lv where
  o : Int
  wr : Int
  ro : Option Addr
  rn : Nat
  rc : Nat
/-- A lock, as it is meant. -/
structure Lk where
  o : Int
  wr : Int
  rd : List Int
structure Ch where
  o : Int
  cap : Int
  sent : Int
  got : Int
  cl : Bool
structure Ct where
  o : Int
  n : Int
structure Scn where
  g : Int
  ls : List Lk
  cs : List Ch
  gs : List Ct
  os : List Int

def layL : Lay Lv where
  ty := 82
  sz := 3
  cs l := [.int .i64 l.o, .int .i64 l.wr, .slice l.ro l.rn l.rc]
  pos := by omega
  len _ := rfl
  one x u hu := by
    simp only [List.mem_cons, List.not_mem_nil, or_false] at hu
    rcases hu with rfl | rfl | rfl <;> rfl
def layC : Lay Ch where
  ty := 85
  sz := 5
  cs l := [.int .i64 l.o, .int .i64 l.cap, .int .i64 l.sent, .int .i64 l.got, .bool l.cl]
  pos := by omega
  len _ := rfl
  one x u hu := by
    simp only [List.mem_cons, List.not_mem_nil, or_false] at hu
    rcases hu with rfl | rfl | rfl | rfl | rfl <;> rfl
def layN : Lay Ct where
  ty := 88
  sz := 2
  cs l := [.int .i64 l.o, .int .i64 l.n]
  pos := by omega
  len _ := rfl
  one x u hu := by
    simp only [List.mem_cons, List.not_mem_nil, or_false] at hu
    rcases hu with rfl | rfl <;> rfl

/-- The block of a slice is one of B's. -/
def InB (B : Nat → Prop) (ao : Option Addr) : Prop := ∀ b, blk ao = some b → B b
theorem InB.ne {B : Nat → Prop} {ao : Option Addr} {row : Option Nat} (h : InB B ao) (hr : ∀ j, row = some j → ¬ B j) : row = none ∨ blk ao ≠ row := by
  cases row with
  | none => exact .inl rfl
  | some j => exact .inr fun e => hr j rfl (h j e)

/-- The lock's value lv is the lock l. -/
structure LkR (B : Nat → Prop) (w : World) (lv : Lv) (l : Lk) : Prop where
  o : lv.o = l.o
  wr : lv.wr = l.wr
  rn : lv.rn = l.rd.length
  rd : Reads w lv.ro l.rd
  bl : InB B lv.ro
  rc : lv.ro = none → lv.rc = 0
  sz : l.rd.length ≤ 1048576
  io : I64 l.o
  iw : I64 l.wr
theorem LkR.keep {B : Nat → Prop} {w w' : World} {lv : Lv} {l : Lk} {row : Option Nat} (h : LkR B w lv l) (k : w.grownBy w' row) (hr : ∀ j, row = some j → ¬ B j) : LkR B w' lv l :=
  ⟨h.o, h.wr, h.rn, h.rd.keep k (h.bl.ne hr), h.bl, h.rc, h.sz, h.io, h.iw⟩
theorem LkR.fr {B : Nat → Prop} {w w' : World} {lv : Lv} {l : Lk} (h : LkR B w lv l) (k : Fr w w') : LkR B w' lv l := h.keep k (by simp)

/-- The locks' values are the locks. -/
structure LksR (B : Nat → Prop) (w : World) (lvs : List Lv) (ls : List Lk) : Prop where
  len : lvs.length = ls.length
  at_ : ∀ j (h1 : j < lvs.length) (h2 : j < ls.length), LkR B w lvs[j] ls[j]
theorem LksR.keep {B : Nat → Prop} {w w' : World} {lvs : List Lv} {ls : List Lk} {row : Option Nat} (h : LksR B w lvs ls) (k : w.grownBy w' row) (hr : ∀ j, row = some j → ¬ B j) : LksR B w' lvs ls :=
  ⟨h.len, fun j h1 h2 => (h.at_ j h1 h2).keep k hr⟩
theorem LksR.fr {B : Nat → Prop} {w w' : World} {lvs : List Lv} {ls : List Lk} (h : LksR B w lvs ls) (k : Fr w w') : LksR B w' lvs ls := h.keep k (by simp)
theorem LksR.nil (B : Nat → Prop) (w : World) : LksR B w [] [] := ⟨rfl, fun j h1 => absurd h1 (by simp)⟩
theorem LksR.snoc {B : Nat → Prop} {w : World} {lvs : List Lv} {ls : List Lk} {lv : Lv} {l : Lk} (h : LksR B w lvs ls) (hl : LkR B w lv l) : LksR B w (lvs ++ [lv]) (ls ++ [l]) := by
  have hlen := h.len
  refine ⟨by simp [hlen], fun j h1 h2 => ?_⟩
  by_cases e : j < lvs.length
  · rw [List.getElem_append_left e, List.getElem_append_left (by omega)]
    exact h.at_ j e (by omega)
  · have e2 : j = lvs.length := by simp at h1; omega
    subst e2
    have a1 : (lvs ++ [lv])[lvs.length]'h1 = lv := by simp
    have a2 : (ls ++ [l])[lvs.length]'h2 = l := by simp [hlen]
    rw [a1, a2]
    exact hl

/-- A scene's value. -/
structure Sv where
  g : Int
  lo : Option Addr
  ll : Nat
  lc : Nat
  co : Option Addr
  cl : Nat
  cc : Nat
  no : Option Addr
  nl : Nat
  nc : Nat
  oo : Option Addr
  ol : Nat
  oc : Nat

/-- The scene's value s is the scene m. -/
structure ScR (B : Nat → Prop) (w : World) (s : Sv) (m : Scn) : Prop where
  g : s.g = m.g
  ig : I64 m.g
  lks : ∃ lvs, ReadsG layL w s.lo lvs ∧ s.ll = lvs.length ∧ LksR B w lvs m.ls
  chs : ReadsG layC w s.co m.cs
  cl : s.cl = m.cs.length
  cts : ReadsG layN w s.no m.gs
  nl : s.nl = m.gs.length
  ons : Reads w s.oo m.os
  ol : s.ol = m.os.length
  bl : InB B s.lo
  bc : InB B s.co
  bn : InB B s.no
  bo : InB B s.oo
  zo : s.oo = none → s.oc = 0
  sl : m.ls.length ≤ 1048576
  sc : m.cs.length ≤ 1048576
  sn : m.gs.length ≤ 1048576
  so : m.os.length ≤ 1048576
  ic : ∀ c ∈ m.cs, I64 c.o ∧ I64 c.cap ∧ I64 c.sent ∧ I64 c.got
  inn : ∀ c ∈ m.gs, I64 c.o ∧ I64 c.n
theorem ScR.keep {B : Nat → Prop} {w w' : World} {s : Sv} {m : Scn} {row : Option Nat} (h : ScR B w s m) (k : w.grownBy w' row) (hr : ∀ j, row = some j → ¬ B j) : ScR B w' s m := by
  obtain ⟨lvs, h1, h2, h3⟩ := h.lks
  exact { h with lks := ⟨lvs, h1.keep k (h.bl.ne hr), h2, h3.keep k hr⟩, chs := h.chs.keep k (h.bc.ne hr), cts := h.cts.keep k (h.bn.ne hr), ons := h.ons.keep k (h.bo.ne hr) }
theorem ScR.fr {B : Nat → Prop} {w w' : World} {s : Sv} {m : Scn} (h : ScR B w s m) (k : Fr w w') : ScR B w' s m := h.keep k (by simp)

/-- The lock of an object; one that nobody has where there is none. -/
def lockOf (ls : List Lk) (o : Int) : Lk := (ls.find? fun l => l.o == o).getD ⟨o, -1, []⟩
def chanOf (cs : List Ch) (o : Int) : Ch := (cs.find? fun l => l.o == o).getD ⟨o, 0, 0, 0, false⟩
def isChan (cs : List Ch) (o : Int) : Bool := (cs.find? fun l => l.o == o).isSome
def countOf (gs : List Ct) (o : Int) : Int := ((gs.find? fun l => l.o == o).map Ct.n).getD 0

theorem find_at {α : Type} (p : α → Bool) (xs : List α) (k : Nat) (hk : k < xs.length) (h : ∀ j (hj : j < xs.length), j < k → p xs[j] = false) (hp : p xs[k] = true) : xs.find? p = some xs[k] := by
  induction xs generalizing k with
  | nil => simp at hk
  | cons x xs ih =>
    cases k with
    | zero => simp at hp ⊢; exact .inl hp
    | succ k =>
      have h0 : p x = false := h 0 (by simp) (by omega)
      rw [List.find?_cons, h0]
      simp only [List.getElem_cons_succ] at hp ⊢
      exact ih k (by simpa using hk) (fun j hj hjk => h (j + 1) (by simpa using hj) (by omega)) hp
theorem find_none {α : Type} (p : α → Bool) (xs : List α) (h : ∀ j (hj : j < xs.length), p xs[j] = false) : xs.find? p = none := by
  rw [List.find?_eq_none]
  intro x hx
  obtain ⟨j, hj, rfl⟩ := List.mem_iff_getElem.1 hx
  simp [h j hj]

/-- The cells of one lock, one channel, one count of a slice. -/
theorem lv_at {w : World} {ao : Option Addr} {lvs : List Lv} (h : ReadsG layL w ao lvs) (k : Nat) (hk : k < lvs.length) : ∃ b off, ao = some ⟨b, off, none⟩ ∧ w.cell? ⟨b, off + k * 3, none⟩ = some (.int .i64 lvs[k].o) ∧ w.cell? ⟨b, off + k * 3 + 1, none⟩ = some (.int .i64 lvs[k].wr) ∧ w.cell? ⟨b, off + k * 3 + 2, none⟩ = some (.slice lvs[k].ro lvs[k].rn lvs[k].rc) := by
  obtain ⟨b, off, e, hc⟩ := h.at_ k hk
  exact ⟨b, off, e, hc k hk 0 (by decide), hc k hk 1 (by decide), hc k hk 2 (by decide)⟩
theorem ch_at {w : World} {ao : Option Addr} {cs : List Ch} (h : ReadsG layC w ao cs) (k : Nat) (hk : k < cs.length) : ∃ b off, ao = some ⟨b, off, none⟩ ∧ w.cell? ⟨b, off + k * 5, none⟩ = some (.int .i64 cs[k].o) ∧ w.cell? ⟨b, off + k * 5 + 1, none⟩ = some (.int .i64 cs[k].cap) ∧ w.cell? ⟨b, off + k * 5 + 2, none⟩ = some (.int .i64 cs[k].sent) ∧ w.cell? ⟨b, off + k * 5 + 3, none⟩ = some (.int .i64 cs[k].got) ∧ w.cell? ⟨b, off + k * 5 + 4, none⟩ = some (.bool cs[k].cl) := by
  obtain ⟨b, off, e, hc⟩ := h.at_ k hk
  exact ⟨b, off, e, hc k hk 0 (by decide), hc k hk 1 (by decide), hc k hk 2 (by decide), hc k hk 3 (by decide), hc k hk 4 (by decide)⟩
theorem ct_at {w : World} {ao : Option Addr} {gs : List Ct} (h : ReadsG layN w ao gs) (k : Nat) (hk : k < gs.length) : ∃ b off, ao = some ⟨b, off, none⟩ ∧ w.cell? ⟨b, off + k * 2, none⟩ = some (.int .i64 gs[k].o) ∧ w.cell? ⟨b, off + k * 2 + 1, none⟩ = some (.int .i64 gs[k].n) := by
  obtain ⟨b, off, e, hc⟩ := h.at_ k hk
  exact ⟨b, off, e, hc k hk 0 (by decide), hc k hk 1 (by decide)⟩

/-- A scene's five cells, in a block of their own. -/
structure ScB (w : World) (b : Nat) (s : Sv) : Prop where
  c0 : w.cell? ⟨b, 0, none⟩ = some (.int .i64 s.g)
  c1 : w.cell? ⟨b, 1, none⟩ = some (.slice s.lo s.ll s.lc)
  c2 : w.cell? ⟨b, 2, none⟩ = some (.slice s.co s.cl s.cc)
  c3 : w.cell? ⟨b, 3, none⟩ = some (.slice s.no s.nl s.nc)
  c4 : w.cell? ⟨b, 4, none⟩ = some (.slice s.oo s.ol s.oc)
theorem ScB.keep {w w' : World} {b : Nat} {s : Sv} {row : Option Nat} (h : ScB w b s) (k : w.grownBy w' row) (hr : some b ≠ row) : ScB w' b s :=
  ⟨k.cell h.c0 hr, k.cell h.c1 hr, k.cell h.c2 hr, k.cell h.c3 hr, k.cell h.c4 hr⟩
theorem ScB.new (w : World) (s : Sv) : ScB (w.alloc (.cells #[.int .i64 s.g, .slice s.lo s.ll s.lc, .slice s.co s.cl s.cc, .slice s.no s.nl s.nc, .slice s.oo s.ol s.oc] 29)) w.heap.size s :=
  ⟨by simp [go_sem], by simp [go_sem], by simp [go_sem], by simp [go_sem], by simp [go_sem]⟩
end Go.Proofs.YthehhiccfnhinaaGreatDoor
/-
  Look-ups in a scene: l4CountOf, l4LockOf, l4ChanOf.
-/
namespace Go.Proofs.YthehhiccfnhinaaGreatDoor
open Go.RowKit

theorem count_yes (gs : List Ct) (o : Int) (k : Nat) (hk : k < gs.length) (h : ∀ j (hj : j < gs.length), j < k → (gs[j].o == o) = false) (he : (gs[k].o == o) = true) : countOf gs o = gs[k].n := by
  rw [countOf, find_at _ gs k hk h he]; rfl
theorem count_no (gs : List Ct) (o : Int) (h : ∀ j (hj : j < gs.length), (gs[j].o == o) = false) : countOf gs o = 0 := by
  rw [countOf, find_none _ gs h]; rfl
theorem upto_step {α : Type} (p : α → Bool) (xs : List α) (k : Nat) (h : ∀ j (hj : j < xs.length), j < k → p xs[j] = false) (hk : k < xs.length) (he : p xs[k] = false) : ∀ j (hj : j < xs.length), j < k + 1 → p xs[j] = false := by
  intro j hj hjk
  by_cases e : j = k
  · subst e; exact he
  · exact h j hj (by omega)

set_option maxHeartbeats 600000 in
theorem l4CountOf_any {B : Nat → Prop} (s : Sv) (m : Scn) (o : Int) (w : World) (h : ScR B w s m) :
    Calls Tryz.prog 54 #[.agg #[.int .i64 s.g, .slice s.lo s.ll s.lc, .slice s.co s.cl s.cc, .slice s.no s.nl s.nc, .slice s.oo s.ol s.oc], .int .i64 o] w fun e w' => e = .returned (.int .i64 (countOf m.gs o)) ∧ Fr w w' := by
  have hr := h.cts
  have hl := h.sn
  have hn := h.nl
  clear h
  obtain ⟨g, lo, ll, lc, co, cl, cc, no, nl, nc, oo, ol, oc⟩ := s
  simp only at hr hn ⊢
  subst hn
  obtain ⟨gs, hgs⟩ : ∃ gs, gs = m.gs := ⟨_, rfl⟩
  rw [← hgs] at hr hl ⊢
  clear hgs
  have c3 := (ScB.new w ⟨g, lo, ll, lc, co, cl, cc, no, gs.length, nc, oo, ol, oc⟩).c3
  simp only at c3
  have hr := hr.fr (Fr.alloc w (.cells #[.int .i64 g, .slice lo ll lc, .slice co cl cc, .slice no gs.length nc, .slice oo ol oc] 29))
  go_enter Tryz.func54, Tryz.ntmps54
  go_wp2
  go_loop [5] (fun i => ∃ k : Nat, k ≤ gs.length ∧ i = .int .i64 k ∧ Hid (∀ j (hj : j < gs.length), j < k → (gs[j].o == o) = false)) (fun i => gs.length - (intOf i).toNat)
  case atStart => exact ⟨0, Nat.zero_le _, rfl, fun j hj hk => by omega⟩
  case round =>
    obtain ⟨k, hk, rfl, HA⟩ := hrel
    by_cases hlt : k < gs.length
    · obtain ⟨b, off, rfl, d0, d1⟩ := ct_at hr k hlt
      cases hb : (gs[k].o == o)
      · have HS : Hid (∀ j (hj : j < gs.length), j < k + 1 → (gs[j].o == o) = false) := upto_step (fun c : Ct => c.o == o) gs k HA.out hlt hb
        go_wp2
        go_round
        case rel => exact ⟨k + 1, by omega, by go_num, HS⟩
        case measure => simp [intOf]; omega
      · have HE : Hid (countOf gs o = gs[k].n) := count_yes gs o k hlt HA.out hb
        go_wp2
        go_ret
        exact ⟨ret_int HE.out.symm, Fr.alloc _ _⟩
    · have HN : Hid (countOf gs o = 0) := count_no gs o (fun j hj => HA.out j hj (by omega))
      go_wp2
      go_ret
      exact ⟨ret_int HN.out.symm, Fr.alloc _ _⟩
theorem lock_yes (ls : List Lk) (o : Int) (k : Nat) (hk : k < ls.length) (h : ∀ j (hj : j < ls.length), j < k → (ls[j].o == o) = false) (he : (ls[k].o == o) = true) : lockOf ls o = ls[k] := by
  rw [lockOf, find_at _ ls k hk h he]; rfl
theorem lock_no (ls : List Lk) (o : Int) (h : ∀ j (hj : j < ls.length), (ls[j].o == o) = false) : lockOf ls o = ⟨o, -1, []⟩ := by
  rw [lockOf, find_none _ ls h]; rfl
theorem i64_m1 : I64 (-1) := ⟨by decide, by decide⟩
/-- A lock's three cells. -/
theorem lvB_new (w : World) (l : Lv) : (w.alloc (.cells #[.int .i64 l.o, .int .i64 l.wr, .slice l.ro l.rn l.rc] 82)).cell? ⟨w.heap.size, 0, none⟩ = some (.int .i64 l.o) ∧ (w.alloc (.cells #[.int .i64 l.o, .int .i64 l.wr, .slice l.ro l.rn l.rc] 82)).cell? ⟨w.heap.size, 1, none⟩ = some (.int .i64 l.wr) ∧ (w.alloc (.cells #[.int .i64 l.o, .int .i64 l.wr, .slice l.ro l.rn l.rc] 82)).cell? ⟨w.heap.size, 2, none⟩ = some (.slice l.ro l.rn l.rc) :=
  ⟨by simp [go_sem], by simp [go_sem], by simp [go_sem]⟩

set_option maxHeartbeats 600000 in
theorem l4LockOf_any {B : Nat → Prop} (s : Sv) (m : Scn) (o : Int) (w : World) (ho : I64 o) (h : ScR B w s m) :
    Calls Tryz.prog 124 #[.agg #[.int .i64 s.g, .slice s.lo s.ll s.lc, .slice s.co s.cl s.cc, .slice s.no s.nl s.nc, .slice s.oo s.ol s.oc], .int .i64 o] w fun e w' => ∃ lv : Lv, e = .returned (.agg #[.int .i64 lv.o, .int .i64 lv.wr, .slice lv.ro lv.rn lv.rc]) ∧ LkR B w' lv (lockOf m.ls o) ∧ Fr w w' := by
  obtain ⟨lvs, hr, hn, hL⟩ := h.lks
  have hl := h.sl
  clear h
  obtain ⟨g, lo, ll, lc, co, cl, cc, no, nl, nc, oo, ol, oc⟩ := s
  simp only at hr hn ⊢
  subst hn
  obtain ⟨ls, hls⟩ : ∃ ls, ls = m.ls := ⟨_, rfl⟩
  rw [← hls] at hL hl ⊢
  clear hls
  have c1 := (Fr.alloc (w.alloc (.cells #[.int .i64 g, .slice lo lvs.length lc, .slice co cl cc, .slice no nl nc, .slice oo ol oc] 29)) (.cells #[.int .i64 0, .int .i64 0, .slice none 0 0] 82)).cell (ScB.new w ⟨g, lo, lvs.length, lc, co, cl, cc, no, nl, nc, oo, ol, oc⟩).c1
  simp only at c1
  have f2 := (Fr.alloc w (.cells #[.int .i64 g, .slice lo lvs.length lc, .slice co cl cc, .slice no nl nc, .slice oo ol oc] 29)).trans (Fr.alloc _ (.cells #[.int .i64 0, .int .i64 0, .slice none 0 0] 82))
  have hr := hr.fr f2
  go_enter Tryz.func124, Tryz.ntmps124
  go_wp2
  go_loop [5] (fun i => ∃ k : Nat, k ≤ lvs.length ∧ i = .int .i64 k ∧ Hid (∀ j (hj : j < ls.length), j < k → (ls[j].o == o) = false)) (fun i => lvs.length - (intOf i).toNat)
  case atStart => exact ⟨0, Nat.zero_le _, rfl, fun j hj hk => by omega⟩
  case round =>
    obtain ⟨k, hk, rfl, HA⟩ := hrel
    by_cases hlt : k < lvs.length
    · obtain ⟨b, off, rfl, d0, d1, d2⟩ := lv_at hr k hlt
      have hk2 : k < ls.length := by have := hL.len; omega
      have hLk := hL.at_ k hlt hk2
      have ee := hLk.o
      obtain ⟨lv, hlv⟩ : ∃ lv, lv = lvs[k] := ⟨_, rfl⟩
      rw [← hlv] at d0 d1 d2 hLk ee
      clear hlv
      cases hb : (lv.o == o)
      · have HS : Hid (∀ j (hj : j < ls.length), j < k + 1 → (ls[j].o == o) = false) := upto_step (fun c : Lk => c.o == o) ls k HA.out hk2 (by rw [← ee]; exact hb)
        clear ee hLk
        go_wp2
        go_round
        case rel => exact ⟨k + 1, by omega, by go_num, HS⟩
        case measure => simp [intOf]; omega
      · have HE : Hid (lockOf ls o = ls[k]) := lock_yes ls o k hk2 HA.out (by rw [← ee]; exact hb)
        clear ee
        go_wp2
        refine bodyPost_ret (v := .agg #[.int .i64 lv.o, .int .i64 lv.wr, .slice lv.ro lv.rn lv.rc]) (by simp [results, Tryz.results124, go_sem]) rfl ⟨lv, rfl, ?_, (Fr.alloc _ _).trans (Fr.alloc _ _)⟩
        rw [HE.out]
        exact hLk.fr ((Fr.alloc _ _).trans (Fr.alloc _ _))
    · have HN : Hid (lockOf ls o = ⟨o, -1, []⟩) := lock_no ls o (fun j hj => HA.out j hj (by have := hL.len; omega))
      go_wp2
      refine bodyPost_ret (v := .agg #[.int .i64 o, .int .i64 (-1), .slice none 0 0]) (by simp [results, Tryz.results124, go_sem]) rfl ⟨⟨o, -1, none, 0, 0⟩, rfl, ?_, (Fr.alloc _ _).trans (Fr.alloc _ _)⟩
      rw [HN.out]
      exact ⟨rfl, rfl, rfl, Reads.nil _ _, fun b hb => by simp [blk] at hb, fun _ => rfl, by simp, ho, i64_m1⟩
theorem chan_yes (cs : List Ch) (o : Int) (k : Nat) (hk : k < cs.length) (h : ∀ j (hj : j < cs.length), j < k → (cs[j].o == o) = false) (he : (cs[k].o == o) = true) : chanOf cs o = cs[k] ∧ isChan cs o = true := by
  rw [chanOf, isChan, find_at _ cs k hk h he]; exact ⟨rfl, rfl⟩
theorem chan_no (cs : List Ch) (o : Int) (h : ∀ j (hj : j < cs.length), (cs[j].o == o) = false) : chanOf cs o = ⟨o, 0, 0, 0, false⟩ ∧ isChan cs o = false := by
  rw [chanOf, isChan, find_none _ cs h]; exact ⟨rfl, rfl⟩

set_option maxHeartbeats 600000 in
theorem l4ChanOf_any {B : Nat → Prop} (s : Sv) (m : Scn) (o : Int) (w : World) (h : ScR B w s m) :
    Calls Tryz.prog 125 #[.agg #[.int .i64 s.g, .slice s.lo s.ll s.lc, .slice s.co s.cl s.cc, .slice s.no s.nl s.nc, .slice s.oo s.ol s.oc], .int .i64 o] w fun e w' => e = .returned (.tuple #[.agg #[.int .i64 (chanOf m.cs o).o, .int .i64 (chanOf m.cs o).cap, .int .i64 (chanOf m.cs o).sent, .int .i64 (chanOf m.cs o).got, .bool (chanOf m.cs o).cl], .bool (isChan m.cs o)]) ∧ Fr w w' := by
  have hr := h.chs
  have hl := h.sc
  have hn := h.cl
  clear h
  obtain ⟨g, lo, ll, lc, co, cl, cc, no, nl, nc, oo, ol, oc⟩ := s
  simp only at hr hn ⊢
  subst hn
  obtain ⟨cs, hcs⟩ : ∃ cs, cs = m.cs := ⟨_, rfl⟩
  rw [← hcs] at hr hl ⊢
  clear hcs
  have c2 := (Fr.alloc (w.alloc (.cells #[.int .i64 g, .slice lo ll lc, .slice co cs.length cc, .slice no nl nc, .slice oo ol oc] 29)) (.cells #[.int .i64 0, .int .i64 0, .int .i64 0, .int .i64 0, .bool false] 85)).cell (ScB.new w ⟨g, lo, ll, lc, co, cs.length, cc, no, nl, nc, oo, ol, oc⟩).c2
  simp only at c2
  have f2 := (Fr.alloc w (.cells #[.int .i64 g, .slice lo ll lc, .slice co cs.length cc, .slice no nl nc, .slice oo ol oc] 29)).trans (Fr.alloc _ (.cells #[.int .i64 0, .int .i64 0, .int .i64 0, .int .i64 0, .bool false] 85))
  have hr := hr.fr f2
  go_enter Tryz.func125, Tryz.ntmps125
  go_wp2
  go_loop [6] (fun i => ∃ k : Nat, k ≤ cs.length ∧ i = .int .i64 k ∧ Hid (∀ j (hj : j < cs.length), j < k → (cs[j].o == o) = false)) (fun i => cs.length - (intOf i).toNat)
  case atStart => exact ⟨0, Nat.zero_le _, rfl, fun j hj hk => by omega⟩
  case round =>
    obtain ⟨k, hk, rfl, HA⟩ := hrel
    by_cases hlt : k < cs.length
    · obtain ⟨b, off, rfl, d0, d1, d2, d3, d4⟩ := ch_at hr k hlt
      have HZ : Hid (cs[k] = cs[k]) := rfl
      cases hb : (cs[k].o == o)
      · have HS : Hid (∀ j (hj : j < cs.length), j < k + 1 → (cs[j].o == o) = false) := upto_step (fun c : Ch => c.o == o) cs k HA.out hlt hb
        go_wp2
        go_round
        case rel => exact ⟨k + 1, by omega, by go_num, HS⟩
        case measure => simp [intOf]; omega
      · have HE : Hid (chanOf cs o = cs[k] ∧ isChan cs o = true) := chan_yes cs o k hlt HA.out hb
        obtain ⟨c, hc⟩ : ∃ c, c = cs[k] := ⟨_, rfl⟩
        rw [← hc] at d0 d1 d2 d3 d4 HE hb
        clear hc HZ
        go_wp2
        refine bodyPost_ret (v := .tuple #[.agg #[.int .i64 c.o, .int .i64 c.cap, .int .i64 c.sent, .int .i64 c.got, .bool c.cl], .bool true]) (by simp [results, Tryz.results125, go_sem]) rfl ⟨by rw [HE.out.1, HE.out.2], (Fr.alloc _ _).trans (Fr.alloc _ _)⟩
    · have HN : Hid (chanOf cs o = ⟨o, 0, 0, 0, false⟩ ∧ isChan cs o = false) := chan_no cs o (fun j hj => HA.out j hj (by omega))
      go_wp2
      refine bodyPost_ret (v := .tuple #[.agg #[.int .i64 o, .int .i64 0, .int .i64 0, .int .i64 0, .bool false], .bool false]) (by simp [results, Tryz.results125, go_sem]) rfl ⟨by rw [HN.out.1, HN.out.2], (Fr.alloc _ _).trans (Fr.alloc _ _)⟩
end Go.Proofs.YthehhiccfnhinaaGreatDoor
/-
  Is a channel right, is a lock right: l4Chan, l4Lock.
-/
namespace Go.Proofs.YthehhiccfnhinaaGreatDoor
open Go.RowKit

def chB (c : Ch) : Bool := inB 0 15 c.o && (inB 0 8 c.cap && (inB 0 1000000 c.sent && (inB 0 c.sent c.got && decide (c.sent ≤ c.got + c.cap))))

theorem chB_new (w : World) (c : Ch) : (w.alloc (.cells #[.int .i64 c.o, .int .i64 c.cap, .int .i64 c.sent, .int .i64 c.got, .bool c.cl] 85)).cell? ⟨w.heap.size, 0, none⟩ = some (.int .i64 c.o) := by simp [go_sem]

set_option maxHeartbeats 800000 in
theorem l4Chan_any (c : Ch) (w : World) :
    Calls Tryz.prog 61 #[.agg #[.int .i64 c.o, .int .i64 c.cap, .int .i64 c.sent, .int .i64 c.got, .bool c.cl]] w fun e w' => e = .returned (.bool (chB c)) ∧ Fr w w' := by
  obtain ⟨o, cap, sent, got, cl⟩ := c
  simp only
  unfold chB
  simp only
  cases h1 : inB 0 15 o
  · go_enter Tryz.func61, Tryz.ntmps61
    go_wp2_with (first | (go_at_call 62; refine (l4Obj_any _ _).mono ?_; rintro e w' ⟨rfl, rfl⟩) | (go_at_call 59; refine (l1In_any _ _ _ _).mono ?_; rintro e w' ⟨rfl, rfl⟩))
    go_ret
    exact ⟨rfl, Fr.alloc _ _⟩
  cases h2 : inB 0 8 cap
  · go_enter Tryz.func61, Tryz.ntmps61
    go_wp2_with (first | (go_at_call 62; refine (l4Obj_any _ _).mono ?_; rintro e w' ⟨rfl, rfl⟩) | (go_at_call 59; refine (l1In_any _ _ _ _).mono ?_; rintro e w' ⟨rfl, rfl⟩))
    go_ret
    exact ⟨rfl, Fr.alloc _ _⟩
  have r2 := inB_true h2
  cases h3 : inB 0 1000000 sent
  · go_enter Tryz.func61, Tryz.ntmps61
    go_wp2_with (first | (go_at_call 62; refine (l4Obj_any _ _).mono ?_; rintro e w' ⟨rfl, rfl⟩) | (go_at_call 59; refine (l1In_any _ _ _ _).mono ?_; rintro e w' ⟨rfl, rfl⟩))
    go_ret
    exact ⟨rfl, Fr.alloc _ _⟩
  have r3 := inB_true h3
  cases h4 : inB 0 sent got
  · go_enter Tryz.func61, Tryz.ntmps61
    go_wp2_with (first | (go_at_call 62; refine (l4Obj_any _ _).mono ?_; rintro e w' ⟨rfl, rfl⟩) | (go_at_call 59; refine (l1In_any _ _ _ _).mono ?_; rintro e w' ⟨rfl, rfl⟩))
    go_ret
    exact ⟨rfl, Fr.alloc _ _⟩
  have r4 := inB_true h4
  go_enter Tryz.func61, Tryz.ntmps61
  go_wp2_with (first | (go_at_call 62; refine (l4Obj_any _ _).mono ?_; rintro e w' ⟨rfl, rfl⟩) | (go_at_call 59; refine (l1In_any _ _ _ _).mono ?_; rintro e w' ⟨rfl, rfl⟩))
  go_ret
  exact ⟨rfl, Fr.alloc _ _⟩
end Go.Proofs.YthehhiccfnhinaaGreatDoor
/-
  Is a lock right: l4Lock.
-/
namespace Go.Proofs.YthehhiccfnhinaaGreatDoor
open Go.RowKit

/-- Is the reader at the place j a goroutine that there is, and more than the one ahead of it? -/
def rdAt (g : Int) (xs : List Int) (j : Nat) : Bool := inB 0 (g - 1) (xs.getD j 0) && (decide (j = 0) || decide (xs.getD (j - 1) 0 < xs.getD j 0))
def rdB (g : Int) (xs : List Int) : Bool := (List.range xs.length).all (rdAt g xs)
theorem rdB_yes {g : Int} {xs : List Int} (h : ∀ j, j < xs.length → rdAt g xs j = true) : rdB g xs = true := by
  rw [rdB, List.all_eq_true]
  intro j hj
  exact h j (List.mem_range.1 hj)
theorem rdB_no {g : Int} {xs : List Int} {j : Nat} (hj : j < xs.length) (h : rdAt g xs j = false) : rdB g xs = false := by
  rw [rdB, Bool.eq_false_iff]
  intro e
  rw [List.all_eq_true] at e
  have := e j (List.mem_range.2 hj)
  rw [h] at this
  cases this
def lkB (g : Int) (l : Lk) : Bool := rdB g l.rd && (inB 0 15 l.o && (inB (-1) (g - 1) l.wr && !(decide (0 ≤ l.wr) == decide (0 < l.rd.length))))

set_option maxHeartbeats 1600000 in
theorem l4Lock_any {B : Nat → Prop} (g : Int) (lv : Lv) (l : Lk) (w : World) (g0 : 1 ≤ g) (g1 : g ≤ 16) (h : LkR B w lv l) :
    Calls Tryz.prog 60 #[.int .i64 g, .agg #[.int .i64 lv.o, .int .i64 lv.wr, .slice lv.ro lv.rn lv.rc]] w fun e w' => e = .returned (.bool (lkB g l)) ∧ Fr w w' := by
  have hr := h.rd
  have hsz := h.sz
  have e1 := h.o
  have e2 := h.wr
  have e3 := h.rn
  clear h
  obtain ⟨o, wt, xs⟩ := l
  obtain ⟨o', wt', ro, rn, rc⟩ := lv
  simp only at hr hsz e1 e2 e3 ⊢
  subst e1 e2 e3
  have hrr := hr.fr (Fr.alloc w (.cells #[.int .i64 o', .int .i64 wt', .slice ro xs.length rc] 82))
  have c2 := (lvB_new w ⟨o', wt', ro, xs.length, rc⟩).2.2
  simp only at c2
  unfold lkB
  simp only
  obtain ⟨W, hW⟩ : ∃ W, W = w.alloc (.cells #[.int .i64 o', .int .i64 wt', .slice ro xs.length rc] 82) := ⟨_, rfl⟩
  have c0 : W.cell? ⟨w.heap.size, 0, none⟩ = some (.int .i64 o') := by rw [hW]; exact (lvB_new w ⟨o', wt', ro, xs.length, rc⟩).1
  have c1 : W.cell? ⟨w.heap.size, 1, none⟩ = some (.int .i64 wt') := by rw [hW]; exact (lvB_new w ⟨o', wt', ro, xs.length, rc⟩).2.1
  have fW : Fr w W := by rw [hW]; exact Fr.alloc _ _
  rw [← hW] at c2 hrr
  clear hr
  go_enter Tryz.func60, Tryz.ntmps60
  go_wp2_with fail
  rw [← hW]
  obtain ⟨b0, hb0⟩ : ∃ b0, b0 = w.heap.size := ⟨_, rfl⟩
  rw [← hb0] at c0 c1 c2 ⊢
  clear hW hb0
  go_loopw [5] (fun i wr => ∃ k : Nat, k ≤ xs.length ∧ i = .int .i64 k ∧ Hid (∀ j, j < k → rdAt g xs j = true) ∧ wr.cell? ⟨b0, 0, none⟩ = some (.int .i64 o') ∧ wr.cell? ⟨b0, 1, none⟩ = some (.int .i64 wt') ∧ wr.cell? ⟨b0, 2, none⟩ = some (.slice ro xs.length rc) ∧ Reads wr ro xs ∧ Fr w wr) (fun i _ => xs.length - (intOf i).toNat)
  case atStart => exact ⟨0, Nat.zero_le _, rfl, fun j hj => by omega, c0, c1, c2, hrr, fW⟩
  case round =>
    clear c0 c1 c2 hrr fW
    obtain ⟨k, hk, rfl, HA, c0, c1, c2, hrr, fW⟩ := hrel
    by_cases hlt : k < xs.length
    · obtain ⟨b, off, rfl, hc⟩ := hrr.at_ k hlt
      have hck := hc k hlt
      obtain ⟨z, hz⟩ : ∃ z, z = xs.getD k 0 := ⟨_, rfl⟩
      rw [← hz] at hck
      have cI := fun w => l1In_any z 0 (IntKind.i64.wrap (g - 1)) w
      have cJ := fun w => l1In_any z 0 (g - 1) w
      have hwr : IntKind.i64.wrap (g - 1) = g - 1 := by rw [IntKind.wrap_i64]; omega
      cases h1 : inB 0 (g - 1) z
      · have h1' : inB 0 (IntKind.i64.wrap (g - 1)) z = false := by rw [hwr]; exact h1
        simp only [h1'] at cI
        simp only [h1] at cJ
        clear h1' hwr
        have HF : Hid (rdB g xs = false) := rdB_no hlt (by rw [rdAt, ← hz, h1, Bool.false_and])
        clear h1 hz hc
        go_wp2_with fail
        go_quiet ((go_at_call 59; first | with_reducible exact Calls.quiet_of_same (cI _) | with_reducible exact Calls.quiet_of_same (cJ _)))
        go_wp2_with fail
        go_ret
        exact ⟨ret_bool (by rw [HF.out]; rfl), fW.trans (Fr.drewN _ _)⟩
      · have h1' : inB 0 (IntKind.i64.wrap (g - 1)) z = true := by rw [hwr]; exact h1
        simp only [h1'] at cI
        simp only [h1] at cJ
        clear h1' hwr
        cases k with
        | zero =>
          have HT : Hid (rdAt g xs 0 = true) := by
            show rdAt g xs 0 = true
            rw [rdAt, ← hz, h1]; rfl
          clear h1 hz hc
          simp only [Nat.add_zero] at hck
          go_wp2_with fail
          have hd : decide ((0 : Int) < 0) = false := by decide
          go_quiet ((go_at_call 59; first | with_reducible exact Calls.quiet_of_same (cI _) | with_reducible exact Calls.quiet_of_same (cJ _)))
          go_wp2_with fail
          go_roundw
          case rel => exact ⟨1, by omega, by go_num, fun j hj => by rw [show j = 0 by omega]; exact HT.out, c0, c1, c2, hrr.fr (Fr.drewN _ _), fW.trans (Fr.drewN _ _)⟩
          case measure => simp [intOf]; omega
        | succ k =>
          have hcp := hc k (by omega)
          obtain ⟨y, hy⟩ : ∃ y, y = xs.getD k 0 := ⟨_, rfl⟩
          rw [← hy] at hcp
          have hwk : IntKind.i64.wrap (((k + 1 : Nat) : Int) - 1) = (k : Int) := by rw [IntKind.wrap_i64]; omega
          by_cases hle : z ≤ y
          · have HF : Hid (rdB g xs = false) := rdB_no hlt (by
              have : decide (y < z) = false := decide_eq_false (by omega)
              rw [rdAt, ← hz, h1, Nat.add_sub_cancel, ← hy, this]; simp)
            clear h1 hz hc hy
            go_wp2_with fail
            go_quiet ((go_at_call 59; first | with_reducible exact Calls.quiet_of_same (cI _) | with_reducible exact Calls.quiet_of_same (cJ _)))
            go_wp2_with fail
            go_ret
            exact ⟨ret_bool (by rw [HF.out]; rfl), fW.trans (Fr.drewN _ _)⟩
          · have HT : Hid (rdAt g xs (k + 1) = true) := by
              show rdAt g xs (k + 1) = true
              have : decide (y < z) = true := decide_eq_true (by omega)
              rw [rdAt, ← hz, h1, Nat.add_sub_cancel, ← hy, this]; simp
            clear h1 hz hc hy
            have hle' : y < z := by omega
            go_wp2_with fail
            go_quiet ((go_at_call 59; first | with_reducible exact Calls.quiet_of_same (cI _) | with_reducible exact Calls.quiet_of_same (cJ _)))
            go_wp2_with fail
            go_roundw
            case rel =>
              refine ⟨k + 2, by omega, by go_num, fun j hj => ?_, c0, c1, c2, hrr.fr (Fr.drewN _ _), fW.trans (Fr.drewN _ _)⟩
              by_cases e : j = k + 1
              · rw [e]; exact HT.out
              · exact HA.out j (by omega)
            case measure => simp [intOf]; omega
    · have HT : Hid (rdB g xs = true) := rdB_yes (fun j hj => HA.out j (by omega))
      clear HA
      have hwr : IntKind.i64.wrap (g - 1) = g - 1 := by rw [IntKind.wrap_i64]; omega
      cases h1 : inB 0 15 o'
      · go_wp2_with (first | (go_at_call 62; refine (l4Obj_any _ _).mono ?_; rintro e w' ⟨rfl, rfl⟩) | (go_at_call 59; refine (l1In_any _ _ _ _).mono ?_; rintro e w' ⟨rfl, rfl⟩))
        go_ret
        exact ⟨ret_bool (by rw [HT.out, h1]; rfl), fW⟩
      cases h2 : inB (-1) (g - 1) wt'
      · go_wp2_with (first | (go_at_call 62; refine (l4Obj_any _ _).mono ?_; rintro e w' ⟨rfl, rfl⟩) | (go_at_call 59; refine (l1In_any _ _ _ _).mono ?_; rintro e w' ⟨rfl, rfl⟩))
        go_ret
        exact ⟨ret_bool (by rw [HT.out, h1, h2]; rfl), fW⟩
      by_cases h3 : 0 ≤ wt'
      · by_cases h4 : 0 < xs.length
        · go_wp2_with (first | (go_at_call 62; refine (l4Obj_any _ _).mono ?_; rintro e w' ⟨rfl, rfl⟩) | (go_at_call 59; refine (l1In_any _ _ _ _).mono ?_; rintro e w' ⟨rfl, rfl⟩))
          go_ret
          exact ⟨ret_bool (by have d3 : decide (0 ≤ wt') = true := decide_eq_true (by omega); have d4 : decide (0 < xs.length) = true := decide_eq_true (by omega); simp only [HT.out, h1, h2, d3, d4]; rfl), fW⟩
        · go_wp2_with (first | (go_at_call 62; refine (l4Obj_any _ _).mono ?_; rintro e w' ⟨rfl, rfl⟩) | (go_at_call 59; refine (l1In_any _ _ _ _).mono ?_; rintro e w' ⟨rfl, rfl⟩))
          go_ret
          exact ⟨ret_bool (by have d3 : decide (0 ≤ wt') = true := decide_eq_true (by omega); have d4 : decide (0 < xs.length) = false := decide_eq_false (by omega); simp only [HT.out, h1, h2, d3, d4]; rfl), fW⟩
      · by_cases h4 : 0 < xs.length
        · go_wp2_with (first | (go_at_call 62; refine (l4Obj_any _ _).mono ?_; rintro e w' ⟨rfl, rfl⟩) | (go_at_call 59; refine (l1In_any _ _ _ _).mono ?_; rintro e w' ⟨rfl, rfl⟩))
          go_ret
          exact ⟨ret_bool (by have d3 : decide (0 ≤ wt') = false := decide_eq_false (by omega); have d4 : decide (0 < xs.length) = true := decide_eq_true (by omega); simp only [HT.out, h1, h2, d3, d4]; rfl), fW⟩
        · go_wp2_with (first | (go_at_call 62; refine (l4Obj_any _ _).mono ?_; rintro e w' ⟨rfl, rfl⟩) | (go_at_call 59; refine (l1In_any _ _ _ _).mono ?_; rintro e w' ⟨rfl, rfl⟩))
          go_ret
          exact ⟨ret_bool (by have d3 : decide (0 ≤ wt') = false := decide_eq_false (by omega); have d4 : decide (0 < xs.length) = false := decide_eq_false (by omega); simp only [HT.out, h1, h2, d3, d4]; rfl), fW⟩
end Go.Proofs.YthehhiccfnhinaaGreatDoor
/-
  When a scene is right: the model.
-/
namespace Go.Proofs.YthehhiccfnhinaaGreatDoor
open Go.RowKit

/-- Is the element at the place j right, and its number more than that of the one ahead of it? -/
def rowAt {α : Type} (p : α → Bool) (o : α → Int) (xs : List α) (j : Nat) : Bool :=
  match xs[j]? with
  | none => false
  | some x => p x && (decide (j = 0) || (match xs[j - 1]? with | none => false | some y => decide (o y < o x)))
def rowB {α : Type} (p : α → Bool) (o : α → Int) (xs : List α) : Bool := (List.range xs.length).all (rowAt p o xs)
theorem rowB_yes {α : Type} {p : α → Bool} {o : α → Int} {xs : List α} (h : ∀ j, j < xs.length → rowAt p o xs j = true) : rowB p o xs = true := by
  rw [rowB, List.all_eq_true]
  intro j hj
  exact h j (List.mem_range.1 hj)
theorem rowB_no {α : Type} {p : α → Bool} {o : α → Int} {xs : List α} {j : Nat} (hj : j < xs.length) (h : rowAt p o xs j = false) : rowB p o xs = false := by
  rw [rowB, Bool.eq_false_iff]
  intro e
  rw [List.all_eq_true] at e
  have := e j (List.mem_range.2 hj)
  rw [h] at this
  cases this
theorem rowAt_bad {α : Type} {p : α → Bool} {o : α → Int} {xs : List α} {j : Nat} (hj : j < xs.length) (h : p xs[j] = false) : rowAt p o xs j = false := by
  simp [rowAt, List.getElem?_eq_getElem hj, h]
theorem rowAt_zero {α : Type} {p : α → Bool} {o : α → Int} {xs : List α} (hj : 0 < xs.length) (h : p xs[0] = true) : rowAt p o xs 0 = true := by
  simp [rowAt, List.getElem?_eq_getElem hj, h]
theorem rowAt_up {α : Type} {p : α → Bool} {o : α → Int} {xs : List α} {k : Nat} (hj : k + 1 < xs.length) (h : p xs[k + 1] = true) (hu : o xs[k] < o xs[k + 1]) : rowAt p o xs (k + 1) = true := by
  simp [rowAt, List.getElem?_eq_getElem hj, List.getElem?_eq_getElem (show k < xs.length by omega), h, hu]
theorem rowAt_down {α : Type} {p : α → Bool} {o : α → Int} {xs : List α} {k : Nat} (hj : k + 1 < xs.length) (hu : o xs[k + 1] ≤ o xs[k]) : rowAt p o xs (k + 1) = false := by
  have : ¬ o xs[k] < o xs[k + 1] := by omega
  simp [rowAt, List.getElem?_eq_getElem hj, List.getElem?_eq_getElem (show k < xs.length by omega), this]
theorem rowAt_next {α : Type} {p : α → Bool} {o : α → Int} {xs : List α} {k : Nat} (h : ∀ j, j < k → rowAt p o xs j = true) (hk : rowAt p o xs k = true) : ∀ j, j < k + 1 → rowAt p o xs j = true := by
  intro j hj
  by_cases e : j = k
  · rw [e]; exact hk
  · exact h j (by omega)

def ctB (c : Ct) : Bool := inB 0 15 c.o && inB 1 1000000 c.n
def scB (m : Scn) : Bool := inB 1 16 m.g && (rowB (lkB m.g) Lk.o m.ls && (rowB chB Ch.o m.cs && (rowB ctB Ct.o m.gs && rowB (inB 0 15) (fun x => x) m.os)))
end Go.Proofs.YthehhiccfnhinaaGreatDoor
/-
  Writes into one block.
-/
namespace Go.Proofs.YthehhiccfnhinaaGreatDoor
open Go.RowKit

theorem grown_trans {a b c : World} {row : Option Nat} (h : a.grownBy b row) (k : b.grownBy c row) : a.grownBy c row :=
  ⟨k.os.trans h.os, k.tape.trans h.tape, k.output.trans h.output, Nat.le_trans h.size k.size, fun i hi hne => (k.block i (Nat.lt_of_lt_of_le hi h.size) hne).trans (h.block i hi hne)⟩
theorem grown_draw (w : World) (n : Nat) (row : Option Nat) : w.grownBy (w.drewN n) row := ⟨rfl, rfl, rfl, Nat.le_refl _, fun _ _ _ => rfl⟩
theorem grown_set (w : World) (g o : Nat) (v : Value) : w.grownBy (w.setCell ⟨g, o, none⟩ v) (some g) :=
  ⟨rfl, rfl, rfl, by simp, fun k _ hk => heap_setCell_other w ⟨g, o, none⟩ k v (fun e => hk (by simp [e]))⟩

theorem Fr.wide {w w' : World} {row : Option Nat} (h : Fr w w') : w.grownBy w' row := ⟨h.os, h.tape, h.output, h.size, fun i hi _ => h.block i hi (by simp)⟩
end Go.Proofs.YthehhiccfnhinaaGreatDoor
