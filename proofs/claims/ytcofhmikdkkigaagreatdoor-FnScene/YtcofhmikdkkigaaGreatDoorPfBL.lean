/-
  Pack BL: DrawNew, EvsTo, EvsApp, ScCopy2.
-/
import Derived.Test.YtcofhmikdkkigaaGreatDoorPfAI
import Derived.Test.YtcofhmikdkkigaaGreatDoorPfBB
import Derived.Test.YtcofhmikdkkigaaGreatDoorPfAE
import Derived.Maps.AppendAt
import Derived.Test.YtcofhmikdkkigaaGreatDoorPfAZ
import Derived.Test.YtcofhmikdkkigaaGreatDoorPfAY
import Derived.Test.YtcofhmikdkkigaaGreatDoorPfAB
import Derived.Test.YtcofhmikdkkigaaGreatDoorPfAQ
import Derived.Test.YtcofhmikdkkigaaGreatDoorPfAG
import Derived.Test.YtcofhmikdkkigaaGreatDoorPfAX
namespace Go.Proofs.YtcofhmikdkkigaaGreatDoor
open Go.RowKit

theorem row_some {g : Nat} {P : Nat → Prop} (h : P g) : ∀ j, some g = some j → P j := by
  intro j e
  simp only [Option.some.injEq] at e
  subst e
  exact h

def ByteRow (w : World) (ao : Option Addr) (n : Nat) : Prop :=
  ∀ i, i < n → ∃ b off, ao = some ⟨b, off, none⟩ ∧ ∀ j, j < n → ∃ x : Int, w.cell? ⟨b, off + j, none⟩ = some (.int .u8 x) ∧ 0 ≤ x ∧ x ≤ 255

theorem bytes_of_row {w : World} {a : Option Addr} {len cap : Nat} {zs : List Int}
    (h : (a = none ∧ len = 0 ∧ cap = 0 ∧ zs = []) ∨ ∃ x, a = some x ∧ len ≤ cap ∧ cap ≤ maxLen ∧ zs.length = cap ∧ (∀ i, i < zs.length → w.cell? (x.add i) = some (.int .u8 (zs.getD i 0))) ∧ ∀ n ∈ zs, (Lit.int .u8 n).wf = true) :
    ByteRow w a len := by
  rcases h with ⟨rfl, rfl, rfl, rfl⟩ | ⟨x, rfl, h1, h2, h3, h4, h5⟩
  · intro i hi; omega
  · intro i hi
    obtain ⟨b, off, spot⟩ := x
    have hc := h4 0 (by omega)
    have hspot : spot = none := by
      have := World.cell?_spot hc
      simpa [Addr.add] using this
    subst hspot
    refine ⟨b, off, rfl, fun j hj => ?_⟩
    have hj' : j < zs.length := by omega
    have := h4 j hj'
    rw [Addr.add_lit] at this
    have hb := bounds_u8 (h5 _ (List.getElem_mem hj'))
    rw [getD_at hj'] at this
    exact ⟨zs[j], this, by omega, by omega⟩

theorem ByteRow.fr {w w' : World} {ao : Option Addr} {n : Nat} (h : ByteRow w ao n) (k : Fr w w') : ByteRow w' ao n := by
  intro i hi
  obtain ⟨b, off, e, hc⟩ := h i hi
  refine ⟨b, off, e, fun j hj => ?_⟩
  obtain ⟨x, hx, r⟩ := hc j hj
  exact ⟨x, k.cell hx, r⟩

theorem cur_new {w : World} {ao : Option Addr} {n cap : Nat} (h : ByteRow w ao n) (hn : n ≤ 4294967296) (hv : Int) :
    Cur (w.alloc (.cells #[.slice ao n cap, .int .i64 0, .int .i64 hv] 124)) w.heap.size := by
  refine ⟨ao, n, cap, 0, hv, heap_alloc_new w _, Nat.zero_le _, hn, fun i hi => ?_⟩
  obtain ⟨b, off, e, hc⟩ := h i hi
  obtain ⟨x, hx, _⟩ := hc i hi
  refine ⟨b, off, e, World.block_lt_of_cell? w _ hx, fun j hj => ?_⟩
  obtain ⟨x, hx, r⟩ := hc j hj
  exact ⟨x, (Fr.alloc w _).cell hx, r⟩

theorem and30_in (n : Int) : 0 ≤ bits .and .i64 n 1073741823 ∧ bits .and .i64 n 1073741823 ≤ 1073741823 := by rw [i64_and30]; omega

set_option maxHeartbeats 400000 in
theorem l1New_any (ao : Option Addr) (n cap : Nat) (w : World) (h : ByteRow w ao n) (hn : n ≤ 4294967296) :
    Calls Tryz.prog 49 #[.slice ao n cap] w fun e w' => e = .returned (.pointer (some ⟨w.heap.size, 0, none⟩)) ∧ Cur w' w.heap.size ∧ Fr w w' := by
  go_enter Tryz.func49, Tryz.ntmps49
  go_wp2_with fail
  go_loop [3, 4] (fun hh i => ∃ k : Nat, ∃ hv : Int, k ≤ n ∧ i = .int .i64 k ∧ hh = .int .i64 hv ∧ 0 ≤ hv ∧ hv ≤ 8589934592) (fun _ i => n - (intOf i).toNat)
  case atStart => exact ⟨0, 161803 + (n : Int), Nat.zero_le _, rfl, rfl, by omega, by omega⟩
  case round =>
    obtain ⟨k, hv, hk, rfl, rfl, b0, b1⟩ := hrel
    by_cases hlt : k < n
    · obtain ⟨b, off, rfl, hc⟩ := h k hlt
      obtain ⟨x, hx, x0, x1⟩ := hc k hlt
      clear hc
      go_wp2_with fail
      go_round
      case rel => exact ⟨k + 1, _, by omega, by go_num, rfl, (and30_in _).1, by have := (and30_in (hv * 199 + x + 11)).2; omega⟩
      case measure => simp [intOf]; omega
    · go_wp2_with fail
      go_ret
      exact ⟨rfl, cur_new h hn hv, Fr.alloc _ _⟩

theorem big_any (ao : Option Addr) (n cap : Nat) (w : World) (_hn : n ≤ 9223372036854775807) :
    Calls Tryz.prog 11 #[.slice ao n cap] w fun e w' => e = .returned (.bool (decide (4096 < (n : Int)))) ∧ w' = w := by
  go_enter Tryz.func11, Tryz.ntmps11
  go_wp2
  go_ret
  exact ⟨rfl, rfl⟩
end Go.Proofs.YtcofhmikdkkigaaGreatDoor
namespace Go.Proofs.YtcofhmikdkkigaaGreatDoor
open Go.RowKit

theorem Tryz.info31 : (Tryz.prog.info? 31).map (fun i => (i.zero, i.size, i.bytes)) = some (some (.agg #[.int .i64 0, .int .i64 0, .int .i64 0, .int .i64 0, .int .i64 0, .int .i64 0, .int .i64 0, .int .i64 0]), 8, 64) := by kernel_rfl

theorem sz_any (ao : Option Addr) (n cap : Nat) (w : World) (hn : n ≤ 9223372036854775807) :
    Calls Tryz.prog 31 #[.slice ao n cap, .int .i64 1048576] w fun e w' => e = .returned (.int .i64 (if n ≤ 1048576 then 1048576 - (n : Int) else -1)) ∧ w' = w := by
  by_cases h : n ≤ 1048576
  · rw [if_pos h]
    go_enter Tryz.func31, Tryz.ntmps31
    go_wp2
    go_ret
    exact ⟨rfl, rfl⟩
  · rw [if_neg h]
    go_enter Tryz.func31, Tryz.ntmps31
    go_wp2
    go_ret
    exact ⟨rfl, rfl⟩

theorem set8 (A B : List Value) (m0 m1 m2 m3 m4 m5 m6 m7 a0 a1 a2 a3 a4 a5 a6 a7 : Value) (n : Nat) (hn : A.length = n) :
    ((((((((A ++ m0 :: m1 :: m2 :: m3 :: m4 :: m5 :: m6 :: m7 :: B).set n a0).set (n + 1) a1).set (n + 2) a2).set (n + 3) a3).set (n + 4) a4).set (n + 5) a5).set (n + 6) a6).set (n + 7) a7
      = A ++ a0 :: a1 :: a2 :: a3 :: a4 :: a5 :: a6 :: a7 :: B := by
  subst hn
  simp
theorem drop8 (L : List Value) (n : Nat) (h : n + 8 ≤ L.length) : ∃ m0 m1 m2 m3 m4 m5 m6 m7, L.drop n = m0 :: m1 :: m2 :: m3 :: m4 :: m5 :: m6 :: m7 :: L.drop (n + 8) := by
  refine ⟨L[n], L[n + 1], L[n + 2], L[n + 3], L[n + 4], L[n + 5], L[n + 6], L[n + 7], ?_⟩
  rw [List.drop_eq_getElem_cons (by omega : n < L.length), List.drop_eq_getElem_cons (by omega : n + 1 < L.length), List.drop_eq_getElem_cons (by omega : n + 1 + 1 < L.length), List.drop_eq_getElem_cons (by omega : n + 1 + 1 + 1 < L.length),
    List.drop_eq_getElem_cons (by omega : n + 1 + 1 + 1 + 1 < L.length), List.drop_eq_getElem_cons (by omega : n + 1 + 1 + 1 + 1 + 1 < L.length), List.drop_eq_getElem_cons (by omega : n + 1 + 1 + 1 + 1 + 1 + 1 < L.length), List.drop_eq_getElem_cons (by omega : n + 1 + 1 + 1 + 1 + 1 + 1 + 1 < L.length)]
theorem grown_tr {a b c : World} {row : Option Nat} (h : a.grownBy b row) (k : b.grownBy c row) : a.grownBy c row :=
  ⟨k.os.trans h.os, k.tape.trans h.tape, k.output.trans h.output, Nat.le_trans h.size k.size, fun i hi hne => (k.block i (Nat.lt_of_lt_of_le hi h.size) hne).trans (h.block i hi hne)⟩
theorem own8 {w : World} {base g n cap : Nat} {e : TypeId} {xs : List Value} (h : w.ownsRow base e 8 (.slice (some ⟨g, 0, none⟩) n cap) n xs) (j : Nat) (a0 a1 a2 a3 a4 a5 a6 a7 : Value) :
    ((((((((w.setCell ⟨g, j, none⟩ a0).setCell ⟨g, j + 1, none⟩ a1).setCell ⟨g, j + 2, none⟩ a2).setCell ⟨g, j + 3, none⟩ a3).setCell ⟨g, j + 4, none⟩ a4).setCell ⟨g, j + 5, none⟩ a5).setCell ⟨g, j + 6, none⟩ a6).setCell ⟨g, j + 7, none⟩ a7).ownsRow base e 8 (.slice (some ⟨g, 0, none⟩) n cap) n
      ((((((((xs.set j a0).set (j + 1) a1).set (j + 2) a2).set (j + 3) a3).set (j + 4) a4).set (j + 5) a5).set (j + 6) a6).set (j + 7) a7) ∧
    w.grownBy ((((((((w.setCell ⟨g, j, none⟩ a0).setCell ⟨g, j + 1, none⟩ a1).setCell ⟨g, j + 2, none⟩ a2).setCell ⟨g, j + 3, none⟩ a3).setCell ⟨g, j + 4, none⟩ a4).setCell ⟨g, j + 5, none⟩ a5).setCell ⟨g, j + 6, none⟩ a6).setCell ⟨g, j + 7, none⟩ a7) (some g) := by
  have h0 := h.stored j a0
  have h1 := h0.1.stored (j + 1) a1
  have h2 := h1.1.stored (j + 2) a2
  have h3 := h2.1.stored (j + 3) a3
  have h4 := h3.1.stored (j + 4) a4
  have h5 := h4.1.stored (j + 5) a5
  have h6 := h5.1.stored (j + 6) a6
  have h7 := h6.1.stored (j + 7) a7
  exact ⟨h7.1, grown_tr (grown_tr (grown_tr (grown_tr (grown_tr (grown_tr (grown_tr h0.2 h1.2) h2.2) h3.2) h4.2) h5.2) h6.2) h7.2⟩
theorem laid_step (es : List Ev) (M : List Value) (k : Nat) (hk : k < es.length) (hM : M.length = es.length * 8) (e : Ev) :
    (((((((((es.take k).flatMap evCells ++ M.drop (k * 8)).set (k * 8) (.int .i64 e.k)).set (k * 8 + 1) (.int .i64 e.g)).set (k * 8 + 2) (.int .i64 e.o)).set (k * 8 + 3) (.int .i64 e.w)).set (k * 8 + 4) (.int .i64 e.l)).set (k * 8 + 5) (.int .i64 e.s)).set (k * 8 + 6) (.int .i64 e.f)).set (k * 8 + 7) (.int .i64 e.t)
      = (es.take k ++ [e]).flatMap evCells ++ M.drop ((k + 1) * 8) := by
  obtain ⟨m0, m1, m2, m3, m4, m5, m6, m7, hd⟩ := drop8 M (k * 8) (by omega)
  have hl : ((es.take k).flatMap evCells).length = k * 8 := by rw [cells_len, List.length_take]; congr 1; omega
  rw [hd, set8 _ _ _ _ _ _ _ _ _ _ _ _ _ _ _ _ _ _ _ hl, show (k + 1) * 8 = k * 8 + 8 by omega, List.flatMap_append]
  simp [evCells]

set_option maxHeartbeats 1000000 in
theorem toEs_any (ao : Option Addr) (n cap : Nat) (es : List Ev) (w : World) (hn : es.length = n) (h : ReadsE w ao es) :
    Calls Tryz.prog 33 #[.slice ao n cap] w fun e w' => ∃ v, e = .returned v ∧ OwnE w' w.heap.size v es ∧ Fr w w' := by
  subst hn
  have hl := h.len
  obtain ⟨i0, hi, hz0, hz1, hz2⟩ := info_parts Tryz.info31
  go_enter Tryz.func33, Tryz.ntmps33
  go_wp2_with (at_make; refine wpList_make_full _ rfl _ _ 42 rfl w.heap.size 31 i0 (.agg #[.int .i64 0, .int .i64 0, .int .i64 0, .int .i64 0, .int .i64 0, .int .i64 0, .int .i64 0, .int .i64 0]) 8 Tryz.underlying42 hi hz0 hz1 .i64 .i64 _ _ es.length rfl rfl rfl rfl (by rw [hz2]; omega) (by unfold maxLen; omega) (Nat.le_refl _) ?_; intro w1 hown hgrow)
  obtain ⟨M, hM⟩ : ∃ M, M = (madeCells (Value.agg #[.int .i64 0, .int .i64 0, .int .i64 0, .int .i64 0, .int .i64 0, .int .i64 0, .int .i64 0, .int .i64 0]).cells (es.length * 8)).toList := ⟨_, rfl⟩
  rw [← hM] at hown
  clear hM
  have hMl := hown.1
  clear hi hz0 hz1 hz2
  go_loopw [4] (fun i wr => ∃ k : Nat, k ≤ es.length ∧ i = .int .i64 k ∧ wr.ownsRow w.heap.size 31 8 (.slice (some ⟨w.heap.size, 0, none⟩) es.length es.length) es.length ((es.take k).flatMap evCells ++ M.drop (k * 8)) ∧ Fr w wr) (fun i _ => es.length - (intOf i).toNat)
  case atStart => exact ⟨0, Nat.zero_le _, rfl, by simpa using hown, hgrow⟩
  case round =>
    obtain ⟨k, hk, rfl, ho, hf⟩ := hrel
    clear hown hgrow
    by_cases hlt : k < es.length
    · obtain ⟨b, off, rfl, hc⟩ := (h.fr hf).at_ k hlt
      obtain ⟨c0, c1, c2, c3, c4, c5, c6, c7⟩ := hc k hlt
      have HE : Hid (es.take k ++ [es[k]] = es.take (k + 1)) := (List.take_succ_eq_append_getElem hlt).symm
      obtain ⟨e, he⟩ : ∃ e, e = es[k] := ⟨_, rfl⟩
      rw [← he] at c0 c1 c2 c3 c4 c5 c6 c7 HE
      clear hc he
      have cT := fun w => toEvent_any e w
      go_wp2_with fail
      refine (cT _).mono ?_
      rintro e w5 ⟨rfl, f5⟩
      have ho := ho.kept f5 (by simp [Value.ownBlock])
      have hll : ((es.take k).flatMap evCells ++ M.drop (k * 8)).length = es.length * 8 := ho.1
      have hat : ∀ i, i < 8 → ∃ u, w5.cell? ⟨w.heap.size, k * 8 + i, none⟩ = some u := fun i hi => by
        rw [ho.cellAt (k * 8 + i) (by omega)]
        exact ⟨_, List.getElem?_eq_getElem (by omega)⟩
      obtain ⟨q0, d0⟩ := hat 0 (by omega)
      obtain ⟨q1, d1⟩ := hat 1 (by omega)
      obtain ⟨q2, d2⟩ := hat 2 (by omega)
      obtain ⟨q3, d3⟩ := hat 3 (by omega)
      obtain ⟨q4, d4⟩ := hat 4 (by omega)
      obtain ⟨q5, d5⟩ := hat 5 (by omega)
      obtain ⟨q6, d6⟩ := hat 6 (by omega)
      obtain ⟨q7, d7⟩ := hat 7 (by omega)
      rw [Nat.add_zero] at d0
      have z0 := ho.frozenAt (k * 8)
      have z1 := ho.frozenAt (k * 8 + 1)
      have z2 := ho.frozenAt (k * 8 + 2)
      have z3 := ho.frozenAt (k * 8 + 3)
      have z4 := ho.frozenAt (k * 8 + 4)
      have z5 := ho.frozenAt (k * 8 + 5)
      have z6 := ho.frozenAt (k * 8 + 6)
      have z7 := ho.frozenAt (k * 8 + 7)
      have hst := own8 ho (k * 8) (.int .i64 e.k) (.int .i64 e.g) (.int .i64 e.o) (.int .i64 e.w) (.int .i64 e.l) (.int .i64 e.s) (.int .i64 e.f) (.int .i64 e.t)
      rw [laid_step es M k hlt hMl e, HE.out] at hst
      have hsz := hf.size
      clear hat hll ho
      go_wp2_with fail
      go_roundw
      case rel => exact ⟨k + 1, by omega, by go_num, hst.1, (hf.trans f5).then hst.2 (fun j hj => by simp only [Option.some.injEq] at hj; omega)⟩
      case measure => simp [intOf]; omega
    · have ek : k = es.length := by omega
      have hd : M.drop (k * 8) = [] := List.drop_eq_nil_of_le (by rw [hMl, ek]; omega)
      rw [hd, List.append_nil, List.take_of_length_le (by omega)] at ho
      clear ek hd
      go_wp2_with fail
      go_ret
      exact ⟨_, rfl, ⟨w.heap.size, es.length, rfl, ho, hl⟩, hf⟩
end Go.Proofs.YtcofhmikdkkigaaGreatDoor
namespace Go.Proofs.YtcofhmikdkkigaaGreatDoor
open Go.RowKit

theorem ownE_new (w : World) : OwnE (w.alloc (.cells #[] 31)) w.heap.size (.slice (some ⟨w.heap.size, 0, none⟩) 0 0) [] :=
  ⟨w.heap.size, 0, rfl, World.ownsRow_made w #[] 0 (Nat.le_refl _) (by unfold maxLen; omega) rfl, by simp⟩

theorem appE (w : World) {ops : Array Oper} {rest : List Oper} {o : Oper} {a : Act} {Q : Exit → Act → World → Prop} (hgd : o.guard = none) (s x : Operand)
    (ho : o.op = .call { callee := .builtin .append, args := #[s, x], argTypes := #[42, 42] })
    (base : Nat) (v : Value) (es : List Ev) (e : Ev) (hs : a.eval s = v) (hown : OwnE w base v es)
    (b : Nat) (c : Nat) (hx : a.eval x = .slice (some ⟨b, 0, none⟩) 1 c) (hnew : EvC w b 0 e)
    (hlen : es.length ≤ 16777215) (hbase : base ≤ w.heap.size)
    (h : ∀ v' w', OwnE w' base v' (es ++ [e]) → w.grownBy w' v.ownBlock → (v'.ownBlock = v.ownBlock ∨ v'.ownBlock = some w.heap.size) → wpList Tryz.prog ops Q rest (a.put o.dst v') w') : wpList Tryz.prog ops Q (o :: rest) a w := by
  obtain ⟨i0, hi, hz0, hz1, hz2⟩ := info_parts Tryz.info31
  obtain ⟨g, cap, rfl, ho', hl⟩ := hown
  refine wpList_append_own_at w hgd s x 42 ho base 31 i0 _ 8 64 Tryz.underlying42 hi hz0 hz1 hz2 rfl (by decide) _ _ _ hs ho' ⟨b, 0, none⟩ 1 c (evCells e) hx (by simp [evCells]) ?_ ?_ (by unfold maxLen; omega) (by omega) hbase ?_
  · intro j u hu
    rw [Addr.add_lit]
    obtain ⟨c0, c1, c2, c3, c4, c5, c6, c7⟩ := hnew
    match j, hu with
    | 0, hu => simp [evCells] at hu; subst hu; exact c0
    | 1, hu => simp [evCells] at hu; subst hu; exact c1
    | 2, hu => simp [evCells] at hu; subst hu; exact c2
    | 3, hu => simp [evCells] at hu; subst hu; exact c3
    | 4, hu => simp [evCells] at hu; subst hu; exact c4
    | 5, hu => simp [evCells] at hu; subst hu; exact c5
    | 6, hu => simp [evCells] at hu; subst hu; exact c6
    | 7, hu => simp [evCells] at hu; subst hu; exact c7
    | n + 8, hu => simp [evCells] at hu
  · intro u hu
    simp only [evCells, List.mem_cons, List.not_mem_nil, or_false] at hu
    rcases hu with rfl | rfl | rfl | rfl | rfl | rfl | rfl | rfl <;> rfl
  · intro v' w' hv hg hnz hat
    refine h v' w' ?_ hg hat
    rcases hv.2 with ⟨e', _⟩ | ⟨g', cap', cur, e', r⟩
    · have := (hnz.1 e').1
      simp at this
    · subst e'
      exact ⟨g', cap', by simp, by simpa [List.flatMap_append] using hv, by simp; omega⟩
theorem evC_new (w : World) (e : Ev) : EvC (w.alloc (.cells #[.int .i64 e.k, .int .i64 e.g, .int .i64 e.o, .int .i64 e.w, .int .i64 e.l, .int .i64 e.s, .int .i64 e.f, .int .i64 e.t] 31)) w.heap.size 0 e := by
  obtain ⟨c0, c1, c2, c3, c4, c5, c6, c7⟩ := (EvB.new w e).at
  exact ⟨c0, c1, c2, c3, c4, c5, c6, c7⟩
end Go.Proofs.YtcofhmikdkkigaaGreatDoor
namespace Go.Proofs.YtcofhmikdkkigaaGreatDoor
open Go.RowKit

theorem op_append_new {α : Type} (L : Lay α) {o : Oper} {a : Act} {w : World} {K : Act → World → Prop} {Q : Exit → Act → World → Prop} (s x : Operand) (T : TypeId) (z : Value) (bytes : Nat)
    (ho : o.op = .call { callee := .builtin .append, args := #[s, x], argTypes := #[T, T] })
    (hT : Tryz.prog.underlying T = some (.slice L.ty)) (hI : (Tryz.prog.info? L.ty).map (fun i => (i.zero, i.size, i.bytes)) = some (some z, L.sz, bytes)) (hzs : z.cells.size = L.sz) (hby : bytes ≤ 1000)
    (base k : Nat) (hk : base ≤ k) (hrow : w.heap[k]? = some (.cells #[] L.ty (0, 0))) (hs : a.eval s = .slice (some ⟨k, 0, none⟩) 0 0)
    (ao : Option Addr) (n c : Nat) (ys : List α) (hn : n = ys.length) (hx : a.eval x = .slice ao n c) (hr : ReadsG L w ao ys) (hbase : base ≤ w.heap.size)
    (h : ∀ v' w', OwnG L w' base v' ys → Fr w w' → K (a.put o.dst v') w') : o.wp Tryz.prog a w K Q := by
  obtain ⟨i0, hi, hz0, hz1, hz2⟩ := info_parts hI
  subst hn
  have hl := hr.len
  have hb : (0 + ys.length) * bytes ≤ 140737488355328 := by
    have := Nat.mul_le_mul (show 0 + ys.length ≤ 16777216 by omega) hby
    omega
  have hown : w.ownsRow base L.ty L.sz (.slice (some ⟨k, 0, none⟩) 0 0) 0 [] := ⟨by simp, .inr ⟨k, 0, #[], rfl, hk, hrow, Nat.le_refl _, by unfold maxLen; omega, by simp, by simp⟩⟩
  by_cases hys : ys = []
  · subst hys
    cases ao with
    | none =>
      have hrun : (Builtin.append_ #[T, T] o.type #[.slice (some ⟨k, 0, none⟩) 0 0, .slice none 0 c]).run Tryz.prog w = .ok (.slice (some ⟨k, 0, none⟩) 0 0) w := by
        simp [Builtin.append_, run_underlying hT, sizeOf, typeInfo, hi, Builtin.lenOf, Builtin.firstCells, storeCells]
      unfold Oper.wp
      simp only [List.length_nil] at hx
      simp [execOp, ho, resolve, invoke, builtin, hs, hx, hrun, Result.andThen]
      exact h _ _ ⟨k, 0, rfl, hown, by simp⟩ (Fr.refl _)
    | some ad =>
      have hrun := run_append_room_cells (P := Tryz.prog) w T o.type L.ty i0 hT hi k 0 0 0 ad 0 c [] (by simp) (by simp) (by simp) (Nat.le_refl _) (by simp) (by simp)
      have e0 : ∀ j, w.setCells k j [] = w := fun j => rfl
      unfold Oper.wp
      simp only [List.length_nil] at hx
      simp [execOp, ho, resolve, invoke, builtin, hs, hx, hrun, Result.andThen]
      rw [e0]
      exact h _ _ ⟨k, 0, rfl, hown, by simp⟩ (Fr.refl _)
  · have hpos : 0 < ys.length := List.length_pos_iff.2 hys
    obtain ⟨b, off, rfl, -⟩ := hr.at_ 0 hpos
    obtain ⟨v', w', hrun, r1, r2⟩ := run_append_arg_grows (P := Tryz.prog) w T o.type L.ty i0 z L.sz bytes hT hi hz0 hz1 hz2 hzs L.pos ⟨k, 0, none⟩ 0 0 [] (by simp) (by simp) ⟨b, off, none⟩ ys.length c (ys.flatMap L.cs) (flatG_len L _) (news_of_reads hr) (by omega) (by unfold maxLen; omega) hb
    have hK := h v' w' (by
      rw [Nat.zero_add, List.nil_append] at r1
      rcases r1.2 with ⟨_, e⟩ | ⟨g', cap', cur, e', hg, r⟩
      · omega
      · subst e'
        exact ⟨g', cap', rfl, ⟨r1.1, .inr ⟨g', cap', cur, rfl, by omega, r⟩⟩, hl⟩) r2
    unfold Oper.wp
    simp [execOp, ho, resolve, invoke, builtin, hs, hx, hrun, Result.andThen]
    exact hK
theorem appGN {α : Type} (L : Lay α) (w : World) {ops : Array Oper} {rest : List Oper} {o : Oper} {a : Act} {Q : Exit → Act → World → Prop} (hgd : o.guard = none) (s x : Operand) (T : TypeId) (z : Value) (bytes : Nat)
    (ho : o.op = .call { callee := .builtin .append, args := #[s, x], argTypes := #[T, T] })
    (hT : Tryz.prog.underlying T = some (.slice L.ty)) (hI : (Tryz.prog.info? L.ty).map (fun i => (i.zero, i.size, i.bytes)) = some (some z, L.sz, bytes)) (hzs : z.cells.size = L.sz) (hby : bytes ≤ 1000)
    (base : Nat) (v : Value) (xs : List α) (e : α) (hs : a.eval s = v) (hown : w.ownsRow base L.ty L.sz v xs.length (xs.flatMap L.cs))
    (b : Nat) (c : Nat) (hx : a.eval x = .slice (some ⟨b, 0, none⟩) 1 c) (hnew : ∀ k, k < L.sz → w.cell? ⟨b, k, none⟩ = (L.cs e)[k]?)
    (hlen : xs.length ≤ 16777215) (hbase : base ≤ w.heap.size)
    (h : ∀ g' cap' w', w'.ownsRow base L.ty L.sz (.slice (some ⟨g', 0, none⟩) (xs ++ [e]).length cap') (xs ++ [e]).length ((xs ++ [e]).flatMap L.cs) → w.grownBy w' v.ownBlock → (some g' = v.ownBlock ∨ g' = w.heap.size) → wpList Tryz.prog ops Q rest (a.put o.dst (.slice (some ⟨g', 0, none⟩) (xs ++ [e]).length cap')) w') : wpList Tryz.prog ops Q (o :: rest) a w := by
  obtain ⟨i0, hi, hz0, hz1, hz2⟩ := info_parts hI
  have hb : (xs.length + 1) * bytes ≤ 140737488355328 := by
    have := Nat.mul_le_mul (show xs.length + 1 ≤ 16777216 by omega) hby
    omega
  refine wpList_append_own_at w hgd s x T ho base L.ty i0 z L.sz bytes hT hi hz0 hz1 hz2 hzs L.pos _ _ _ hs hown ⟨b, 0, none⟩ 1 c (L.cs e) hx (by rw [L.len, Nat.one_mul]) ?_ (L.one e) (by unfold maxLen; omega) hb hbase ?_
  · intro j u hu
    rw [Addr.add_lit]
    have hj : j < L.sz := by
      have := (List.getElem?_eq_some_iff.1 hu).1
      rwa [L.len] at this
    rw [Nat.zero_add, hnew j hj, hu]
  · intro v' w' hv hg hnz hat
    rcases hv.2 with ⟨e', _⟩ | ⟨g', cap', cur, e', r⟩
    · have := (hnz.1 e').2
      simp at this
    · subst e'
      have hl : (xs ++ [e]).length = xs.length + 1 := by simp
      refine cast (by rw [hl]) (h g' cap' w' (by rw [hl]; simpa [List.flatMap_append] using hv) hg (by simpa [Value.ownBlock] using hat))
theorem newL3 {w : World} {b : Nat} {l : Lv} (h : w.heap[b]? = some (.cells #[.int .i64 l.o, .int .i64 l.wr, .slice l.ro l.rn l.rc] 86 (0, 0))) : ∀ k, k < layL.sz → w.cell? ⟨b, k, none⟩ = (layL.cs l)[k]? := by
  intro k hk
  rw [cell_of_row w b k _ _ _ h]
  exact List.getElem?_toArray
theorem rows_neC {w : World} {a b : Nat} {c d : Array Value} {s t : TypeId} (h : w.heap[a]? = some (.cells c s (0, 0))) (h' : w.heap[b]? = some (.cells d t (0, 0))) (hne : s ≠ t) : a ≠ b := by
  intro e
  subst e
  rw [h] at h'
  simp only [Option.some.injEq, Obj.cells.injEq] at h'
  exact hne h'.2.1
theorem own_frG {w w' : World} {base e size n : Nat} {v : Value} {xs : List Value} (h : w.ownsRow base e size v n xs) (f : Fr w w') : w'.ownsRow base e size v n xs := by
  refine h.kept f ?_
  cases hq : v.ownBlock with
  | none => exact .inl rfl
  | some j => exact .inr (by simp)
theorem own_readsN {α : Type} {L : Lay α} {w : World} {base c : Nat} {lo : Option Addr} {xs : List α} (h : w.ownsRow base L.ty L.sz (.slice lo xs.length c) xs.length (xs.flatMap L.cs)) (hl : xs.length ≤ 16777216) : ReadsG L w lo xs := by
  rcases h.2 with ⟨e, h0⟩ | ⟨g, cap, cur, e, r⟩
  · have : xs = [] := List.eq_nil_of_length_eq_zero h0
    subst this
    exact ReadsG.nil _ _ _
  · simp only [Value.slice.injEq] at e
    obtain ⟨rfl, -, -⟩ := e
    exact own_readsG h hl
theorem own_rowC {w : World} {base e size g n cap : Nat} {xs : List Value} (h : w.ownsRow base e size (.slice (some ⟨g, 0, none⟩) n cap) n xs) : ∃ cur, w.heap[g]? = some (.cells cur e (0, 0)) := by
  rcases h.2 with ⟨q, _⟩ | ⟨g', c', cur, q, _, hg, _⟩
  · simp at q
  · simp only [Value.slice.injEq, Option.some.injEq, Addr.mk.injEq, and_true] at q
    obtain ⟨rfl, -⟩ := q
    exact ⟨cur, hg⟩
end Go.Proofs.YtcofhmikdkkigaaGreatDoor
