/-
  The specification's copy of a scene: its first statement.
-/
import Derived.Test.YtihdablgnmkjnaaGreatDoorPileAC
import Derived.Test.YtihdablgnmkjnaaGreatDoorPileAD
import Derived.Test.YtihdablgnmkjnaaGreatDoorPileAE
import Derived.Test.YtihdablgnmkjnaaGreatDoorPileAI
import Derived.Test.YtihdablgnmkjnaaGreatDoorPileAA
import Derived.RangeFuncNested
import Derived.RangeFuncBound
import Derived.RangeFuncCalls
import Derived.RangeFuncLeaves
import Derived.Maps.OwnSet
namespace Go.Proofs.YtihdablgnmkjnaaGreatDoor
open Go.RowKit

/-- 'append' of a whole list to a new one that is empty. -/
theorem op_append_new {α : Type} (L : Lay α) {o : Oper} {a : Act} {w : World} {K : Act → World → Prop} {Q : Exit → Act → World → Prop} (s x : Operand) (T : TypeId) (z : Value) (bytes : Nat)
    (ho : o.op = .call { callee := .builtin .append, args := #[s, x], argTypes := #[T, T] })
    (hT : Tryz.prog.underlying T = some (.slice L.ty)) (hI : (Tryz.prog.info? L.ty).map (fun i => (i.zero, i.size, i.bytes)) = some (some z, L.sz, bytes)) (hzs : z.cells.size = L.sz) (hby : bytes ≤ 1000)
    (base k : Nat) (hk : base ≤ k) (hrow : w.heap[k]? = some (.cells #[] L.ty (0, 0))) (hs : a.eval s = .slice (some ⟨k, 0, none⟩) 0 0)
    (ao : Option Addr) (n c : Nat) (ys : List α) (hn : n = ys.length) (hx : a.eval x = .slice ao n c) (hr : ReadsG L w ao ys) (hbase : base ≤ w.heap.size)
    (h : ∀ v' w', OwnG L w' base v' ys → Fr w w' → K (a.put o.dst v') w') : o.wp Tryz.prog a w K Q := by
  obtain ⟨i0, hi, hz0, hz1, hz2⟩ := info_parts hI
  subst hn
  have hl := hr.len
  have hb : (0 + ys.length) * bytes ≤ 140737488355328 := by
    have := Nat.mul_le_mul (show 0 + ys.length ≤ 16777216 by omega) hby
    omega
  have hown : w.ownsRow base L.ty L.sz (.slice (some ⟨k, 0, none⟩) 0 0) 0 [] := ⟨by simp, .inr ⟨k, 0, #[], rfl, hk, hrow, Nat.le_refl _, by unfold maxLen; omega, by simp, by simp⟩⟩
  by_cases hys : ys = []
  · subst hys
    cases ao with
    | none =>
      have hrun : (Builtin.append_ #[T, T] o.type #[.slice (some ⟨k, 0, none⟩) 0 0, .slice none 0 c]).run Tryz.prog w = .ok (.slice (some ⟨k, 0, none⟩) 0 0) w := by
        simp [Builtin.append_, run_underlying hT, sizeOf, typeInfo, hi, Builtin.lenOf, Builtin.firstCells, storeCells]
      unfold Oper.wp
      simp only [List.length_nil] at hx
      simp [execOp, ho, resolve, invoke, builtin, hs, hx, hrun, Result.andThen]
      exact h _ _ ⟨k, 0, rfl, hown, by simp⟩ (Fr.refl _)
    | some ad =>
      have hrun := run_append_room_cells (P := Tryz.prog) w T o.type L.ty i0 hT hi k 0 0 0 ad 0 c [] (by simp) (by simp) (by simp) (Nat.le_refl _) (by simp) (by simp)
      have e0 : ∀ j, w.setCells k j [] = w := fun j => rfl
      unfold Oper.wp
      simp only [List.length_nil] at hx
      simp [execOp, ho, resolve, invoke, builtin, hs, hx, hrun, Result.andThen]
      rw [e0]
      exact h _ _ ⟨k, 0, rfl, hown, by simp⟩ (Fr.refl _)
  · have hpos : 0 < ys.length := List.length_pos_iff.2 hys
    obtain ⟨b, off, rfl, -⟩ := hr.at_ 0 hpos
    obtain ⟨v', w', hrun, r1, r2⟩ := run_append_arg_grows (P := Tryz.prog) w T o.type L.ty i0 z L.sz bytes hT hi hz0 hz1 hz2 hzs L.pos ⟨k, 0, none⟩ 0 0 [] (by simp) (by simp) ⟨b, off, none⟩ ys.length c (ys.flatMap L.cs) (flatG_len L _) (news_of_reads hr) (by omega) (by unfold maxLen; omega) hb
    have hK := h v' w' (by
      rw [Nat.zero_add, List.nil_append] at r1
      rcases r1.2 with ⟨_, e⟩ | ⟨g', cap', cur, e', hg, r⟩
      · omega
      · subst e'
        exact ⟨g', cap', rfl, ⟨r1.1, .inr ⟨g', cap', cur, rfl, by omega, r⟩⟩, hl⟩) r2
    unfold Oper.wp
    simp [execOp, ho, resolve, invoke, builtin, hs, hx, hrun, Result.andThen]
    exact hK
/-- 'append' of one element to a list that is nil or owned. -/
theorem appGN {α : Type} (L : Lay α) (w : World) {ops : Array Oper} {rest : List Oper} {o : Oper} {a : Act} {Q : Exit → Act → World → Prop} (hgd : o.guard = none) (s x : Operand) (T : TypeId) (z : Value) (bytes : Nat)
    (ho : o.op = .call { callee := .builtin .append, args := #[s, x], argTypes := #[T, T] })
    (hT : Tryz.prog.underlying T = some (.slice L.ty)) (hI : (Tryz.prog.info? L.ty).map (fun i => (i.zero, i.size, i.bytes)) = some (some z, L.sz, bytes)) (hzs : z.cells.size = L.sz) (hby : bytes ≤ 1000)
    (base : Nat) (v : Value) (xs : List α) (e : α) (hs : a.eval s = v) (hown : w.ownsRow base L.ty L.sz v xs.length (xs.flatMap L.cs))
    (b : Nat) (c : Nat) (hx : a.eval x = .slice (some ⟨b, 0, none⟩) 1 c) (hnew : ∀ k, k < L.sz → w.cell? ⟨b, k, none⟩ = (L.cs e)[k]?)
    (hlen : xs.length ≤ 16777215) (hbase : base ≤ w.heap.size)
    (h : ∀ g' cap' w', w'.ownsRow base L.ty L.sz (.slice (some ⟨g', 0, none⟩) (xs ++ [e]).length cap') (xs ++ [e]).length ((xs ++ [e]).flatMap L.cs) → w.grownBy w' v.ownBlock → (some g' = v.ownBlock ∨ g' = w.heap.size) → wpList Tryz.prog ops Q rest (a.put o.dst (.slice (some ⟨g', 0, none⟩) (xs ++ [e]).length cap')) w') : wpList Tryz.prog ops Q (o :: rest) a w := by
  obtain ⟨i0, hi, hz0, hz1, hz2⟩ := info_parts hI
  have hb : (xs.length + 1) * bytes ≤ 140737488355328 := by
    have := Nat.mul_le_mul (show xs.length + 1 ≤ 16777216 by omega) hby
    omega
  refine wpList_append_own_at w hgd s x T ho base L.ty i0 z L.sz bytes hT hi hz0 hz1 hz2 hzs L.pos _ _ _ hs hown ⟨b, 0, none⟩ 1 c (L.cs e) hx (by rw [L.len, Nat.one_mul]) ?_ (L.one e) (by unfold maxLen; omega) hb hbase ?_
  · intro j u hu
    rw [Addr.add_lit]
    have hj : j < L.sz := by
      have := (List.getElem?_eq_some_iff.1 hu).1
      rwa [L.len] at this
    rw [Nat.zero_add, hnew j hj, hu]
  · intro v' w' hv hg hnz hat
    rcases hv.2 with ⟨e', _⟩ | ⟨g', cap', cur, e', r⟩
    · have := (hnz.1 e').2
      simp at this
    · subst e'
      have hl : (xs ++ [e]).length = xs.length + 1 := by simp
      refine cast (by rw [hl]) (h g' cap' w' (by rw [hl]; simpa [List.flatMap_append] using hv) hg (by simpa [Value.ownBlock] using hat))
theorem newL3 {w : World} {b : Nat} {l : Lv} (h : w.heap[b]? = some (.cells #[.int .i64 l.o, .int .i64 l.wr, .slice l.ro l.rn l.rc] 47 (0, 0))) : ∀ k, k < layL.sz → w.cell? ⟨b, k, none⟩ = (layL.cs l)[k]? := by
  intro k hk
  rw [cell_of_row w b k _ _ _ h]
  exact List.getElem?_toArray
theorem rows_neC {w : World} {a b : Nat} {c d : Array Value} {s t : TypeId} (h : w.heap[a]? = some (.cells c s (0, 0))) (h' : w.heap[b]? = some (.cells d t (0, 0))) (hne : s ≠ t) : a ≠ b := by
  intro e
  subst e
  rw [h] at h'
  simp only [Option.some.injEq, Obj.cells.injEq] at h'
  exact hne h'.2.1
theorem own_frG {w w' : World} {base e size n : Nat} {v : Value} {xs : List Value} (h : w.ownsRow base e size v n xs) (f : Fr w w') : w'.ownsRow base e size v n xs := by
  refine h.kept f ?_
  cases hq : v.ownBlock with
  | none => exact .inl rfl
  | some j => exact .inr (by simp)
theorem own_readsN {α : Type} {L : Lay α} {w : World} {base c : Nat} {lo : Option Addr} {xs : List α} (h : w.ownsRow base L.ty L.sz (.slice lo xs.length c) xs.length (xs.flatMap L.cs)) (hl : xs.length ≤ 16777216) : ReadsG L w lo xs := by
  rcases h.2 with ⟨e, h0⟩ | ⟨g, cap, cur, e, r⟩
  · have : xs = [] := List.eq_nil_of_length_eq_zero h0
    subst this
    exact ReadsG.nil _ _ _
  · simp only [Value.slice.injEq] at e
    obtain ⟨rfl, -, -⟩ := e
    exact own_readsG h hl
theorem own_rowC {w : World} {base e size g n cap : Nat} {xs : List Value} (h : w.ownsRow base e size (.slice (some ⟨g, 0, none⟩) n cap) n xs) : ∃ cur, w.heap[g]? = some (.cells cur e (0, 0)) := by
  rcases h.2 with ⟨q, _⟩ | ⟨g', c', cur, q, _, hg, _⟩
  · simp at q
  · simp only [Value.slice.injEq, Option.some.injEq, Addr.mk.injEq, and_true] at q
    obtain ⟨rfl, -⟩ := q
    exact ⟨cur, hg⟩
end Go.Proofs.YtihdablgnmkjnaaGreatDoor
/-
  The specification's copy of a scene.
-/
namespace Go.Proofs.YtihdablgnmkjnaaGreatDoor
open Go.RowKit

/-- The slots of the first statement. -/
def dstC (i : Nat) : Nat := [6, 7, 8, 9, 10, 11, 12, 13, 14, 15, 16, 17, 18, 19, 3].getD i 0
/-- What each of its operations yields. -/
def RC (A sb : Nat) (s : Sv) (m : Scn) : Nat → Value → World → Prop
  | 0, v, _ => v = .pointer (some ⟨sb, 0, none⟩)
  | 1, v, _ => v = .int .i64 s.g
  | 2, v, u => ∃ k, v = .slice (some ⟨k, 0, none⟩) 0 0 ∧ A ≤ k ∧ u.heap[k]? = some (.cells #[] layC.ty (0, 0))
  | 3, v, _ => v = .pointer (some ⟨sb, 2, none⟩)
  | 4, v, _ => v = .slice s.co s.cl s.cc
  | 5, v, u => OwnG layC u A v m.cs
  | 6, v, u => ∃ k, v = .slice (some ⟨k, 0, none⟩) 0 0 ∧ A ≤ k ∧ u.heap[k]? = some (.cells #[] layN.ty (0, 0))
  | 7, v, _ => v = .pointer (some ⟨sb, 3, none⟩)
  | 8, v, _ => v = .slice s.no s.nl s.nc
  | 9, v, u => OwnG layN u A v m.gs
  | 10, v, _ => v = .pointer (some ⟨sb, 4, none⟩)
  | 11, v, _ => v = .slice s.oo s.ol s.oc
  | 12, v, u => OwnS u A v m.os
  | 13, v, u => ∃ v1 v2 v3, v = .agg #[.int .i64 s.g, .slice none 0 0, v1, v2, v3] ∧ OwnG layC u A v1 m.cs ∧ OwnG layN u A v2 m.gs ∧ OwnS u A v3 m.os
  | 14, v, u => ∃ k, v = .pointer (some ⟨k, 0, none⟩) ∧ A ≤ k ∧ ScK u k ⟨0, none, 0, 0, none, 0, 0, none, 0, 0, none, 0, 0⟩
  | _, _, _ => True
theorem row_frC {u u' : World} {k : Nat} {o : Obj} (h : u.heap[k]? = some o) (f : Fr u u') : u'.heap[k]? = some o := (f.block k (Array.getElem?_eq_some_iff.1 h).1 (by simp)).trans h
theorem RC.fr {A sb : Nat} {s : Sv} {m : Scn} (i : Nat) (v : Value) (u u' : World) (h : RC A sb s m i v u) (f : Fr u u') : RC A sb s m i v u' := by
  rcases i with _ | _ | _ | _ | _ | _ | _ | _ | _ | _ | _ | _ | _ | _ | _ | i
  · exact h
  · exact h
  · obtain ⟨k, a, b, c⟩ := h; exact ⟨k, a, b, row_frC c f⟩
  · exact h
  · exact h
  · exact OwnG.fr h f
  · obtain ⟨k, a, b, c⟩ := h; exact ⟨k, a, b, row_frC c f⟩
  · exact h
  · exact h
  · exact OwnG.fr h f
  · exact h
  · exact h
  · exact OwnS.fr h f
  · obtain ⟨v1, v2, v3, a, b, c, d⟩ := h; exact ⟨v1, v2, v3, a, b.fr f, c.fr f, d.fr f⟩
  · obtain ⟨k, a, b, c⟩ := h; exact ⟨k, a, b, row_frC c f⟩
  · trivial

set_option maxRecDepth 20000 in
set_option maxHeartbeats 2000000 in
theorem l4Copy_any {B : Nat → Prop} (s : Sv) (m : Scn) (w : World) (h : ScR B w s m) :
    Calls Tryz.prog 72 #[.agg #[.int .i64 s.g, .slice s.lo s.ll s.lc, .slice s.co s.cl s.cc, .slice s.no s.nl s.nc, .slice s.oo s.ol s.oc]] w fun x w' => ∃ s' : Sv, x = .returned (.agg #[.int .i64 s'.g, .slice s'.lo s'.ll s'.lc, .slice s'.co s'.cl s'.cc, .slice s'.no s'.nl s'.nc, .slice s'.oo s'.ol s'.oc]) ∧ ScR (fun b => w.heap.size ≤ b ∧ b < w'.heap.size) w' s' m ∧ Fr w w' := by
  have f0 := (Fr.alloc w (.cells #[.int .i64 s.g, .slice s.lo s.ll s.lc, .slice s.co s.cl s.cc, .slice s.no s.nl s.nc, .slice s.oo s.ol s.oc] 29)).trans (Fr.alloc _ (.cells #[.int .i64 0, .slice none 0 0, .slice none 0 0, .slice none 0 0, .slice none 0 0] 29))
  have k1 := ScK.new w s
  have k2 := ScK.new (w.alloc (.cells #[.int .i64 s.g, .slice s.lo s.ll s.lc, .slice s.co s.cl s.cc, .slice s.no s.nl s.nc, .slice s.oo s.ol s.oc] 29)) ⟨0, none, 0, 0, none, 0, 0, none, 0, 0, none, 0, 0⟩
  simp only [World.size_alloc] at k2
  have k1 := k1.fr (Fr.alloc (w.alloc (.cells #[.int .i64 s.g, .slice s.lo s.ll s.lc, .slice s.co s.cl s.cc, .slice s.no s.nl s.nc, .slice s.oo s.ol s.oc] 29)) (.cells #[.int .i64 0, .slice none 0 0, .slice none 0 0, .slice none 0 0, .slice none 0 0] 29))
  have h1 := h.fr f0
  obtain ⟨sg, lo, ll, lc, co, cl, cc, no, nl, nc, oo, ol, oc⟩ := s
  simp only at f0 k1 k2 h1 ⊢
  go_enter Tryz.func72, Tryz.ntmps72
  go_wp2_with fail
  obtain ⟨W, hW⟩ : ∃ W, W = (w.alloc (.cells #[.int .i64 sg, .slice lo ll lc, .slice co cl cc, .slice no nl nc, .slice oo ol oc] 29)).alloc (.cells #[.int .i64 0, .slice none 0 0, .slice none 0 0, .slice none 0 0, .slice none 0 0] 29) := ⟨_, rfl⟩
  rw [← hW] at f0 k1 k2 h1 ⊢
  clear hW
  obtain ⟨A, hA⟩ : ∃ A, A = w.heap.size := ⟨_, rfl⟩
  rw [← hA] at k1 k2 ⊢
  have hAW : A ≤ W.heap.size := by have := f0.size; omega
  have HA : Hid (A = w.heap.size) := hA
  clear hA
  refine wp_region_stab 15 dstC (fun X => { tmps := #[.agg #[.int .i64 sg, .slice lo ll lc, .slice co cl cc, .slice no nl nc, .slice oo ol oc], .pointer (some ⟨A, 0, none⟩), .pointer (some ⟨A + 1, 0, none⟩), X 3, undef, undef, X 6, X 7, X 8, X 9, X 10, X 11, X 12, X 13, X 14, X 15, X 16, X 17, X 18, X 19, undef, undef, undef, undef, undef, undef, undef, undef, undef, undef, undef, undef, undef, undef, undef, undef, undef, undef, undef, undef, undef, undef, undef], defers := [] }) (RC W.heap.size A ⟨sg, lo, ll, lc, co, cl, cc, no, nl, nc, oo, ol, oc⟩ m) (fun _ => undef) (by kernel_rfl) rfl ?_ RC.fr ?_ ?_ ?_ ?_
  · exact dst_of (by kernel_rfl)
  · exact lex_of (by kernel_rfl)
  · exact allR_of (by kernel_rfl)
  · intro i o X u hi ho hF hE
    have hAu : W.heap.size ≤ u.heap.size := hF.size
    have hFW : Fr W u := (Fr.drew W).trans hF
    obtain ⟨p0, p1, p2, p3, p4⟩ := (k1.fr hFW).at
    simp only at p0 p1 p2 p3 p4
    rcases i with _ | _ | _ | _ | _ | _ | _ | _ | _ | _ | _ | _ | _ | _ | _ | i
    · simp only [List.getElem?_toArray, List.getElem?_cons_zero, Option.some.injEq] at ho
      subst ho
      refine ⟨by simp [Region.wanted], ?_⟩
      go_simp
      exact ⟨_, (by simp [upd, dstC]), Fr.refl _, rfl⟩
    · simp only [List.getElem?_toArray, List.getElem?_cons_succ, List.getElem?_cons_zero, Option.some.injEq] at ho
      subst ho
      refine ⟨by simp [Region.wanted], ?_⟩
      have e0 : X 6 = .pointer (some ⟨A, 0, none⟩) := hE ⟨0, .data⟩ (by simp) rfl
      go_simp
      exact ⟨_, (by simp [upd, dstC, e0]), Fr.refl _, rfl⟩
    · simp only [List.getElem?_toArray, List.getElem?_cons_succ, List.getElem?_cons_zero, Option.some.injEq] at ho
      subst ho
      refine ⟨by simp [Region.wanted], ?_⟩
      go_simp
      exact ⟨_, (by simp [upd, dstC]), Fr.alloc _ _, ⟨u.heap.size, rfl, hAu, heap_alloc_new u _⟩⟩
    · simp only [List.getElem?_toArray, List.getElem?_cons_succ, List.getElem?_cons_zero, Option.some.injEq] at ho
      subst ho
      refine ⟨by simp [Region.wanted], ?_⟩
      go_simp
      exact ⟨_, (by simp [upd, dstC]), Fr.refl _, rfl⟩
    · simp only [List.getElem?_toArray, List.getElem?_cons_succ, List.getElem?_cons_zero, Option.some.injEq] at ho
      subst ho
      refine ⟨by simp [Region.wanted], ?_⟩
      have e3 : X 9 = .pointer (some ⟨A, 2, none⟩) := hE ⟨3, .data⟩ (by simp) rfl
      go_simp
      exact ⟨_, (by simp [upd, dstC, e3]), Fr.refl _, rfl⟩
    · simp only [List.getElem?_toArray, List.getElem?_cons_succ, List.getElem?_cons_zero, Option.some.injEq] at ho
      subst ho
      refine ⟨by simp [Region.wanted], ?_⟩
      obtain ⟨k, e2, hk, hrow⟩ : ∃ k, X 8 = .slice (some ⟨k, 0, none⟩) 0 0 ∧ W.heap.size ≤ k ∧ u.heap[k]? = some (.cells #[] layC.ty (0, 0)) := hE ⟨2, .data⟩ (by simp) rfl
      have e4 : X 10 = .slice co cl cc := hE ⟨4, .data⟩ (by simp) rfl
      refine op_append_new layC (.tmp 8) (.tmp 10) 25 _ 40 rfl Tryz.underlying25 Tryz.infoC rfl (by decide) W.heap.size k hk hrow e2 co cl cc m.cs h1.cl e4 (h1.chs.fr hFW) hAu ?_
      intro v' w' ho' hf'
      exact ⟨v', rfl, hf', ho'⟩
    · simp only [List.getElem?_toArray, List.getElem?_cons_succ, List.getElem?_cons_zero, Option.some.injEq] at ho
      subst ho
      refine ⟨by simp [Region.wanted], ?_⟩
      go_simp
      exact ⟨_, (by simp [upd, dstC]), Fr.alloc _ _, ⟨u.heap.size, rfl, hAu, heap_alloc_new u _⟩⟩
    · simp only [List.getElem?_toArray, List.getElem?_cons_succ, List.getElem?_cons_zero, Option.some.injEq] at ho
      subst ho
      refine ⟨by simp [Region.wanted], ?_⟩
      go_simp
      exact ⟨_, (by simp [upd, dstC]), Fr.refl _, rfl⟩
    · simp only [List.getElem?_toArray, List.getElem?_cons_succ, List.getElem?_cons_zero, Option.some.injEq] at ho
      subst ho
      refine ⟨by simp [Region.wanted], ?_⟩
      have e7 : X 13 = .pointer (some ⟨A, 3, none⟩) := hE ⟨7, .data⟩ (by simp) rfl
      go_simp
      exact ⟨_, (by simp [upd, dstC, e7]), Fr.refl _, rfl⟩
    · simp only [List.getElem?_toArray, List.getElem?_cons_succ, List.getElem?_cons_zero, Option.some.injEq] at ho
      subst ho
      refine ⟨by simp [Region.wanted], ?_⟩
      obtain ⟨k, e2, hk, hrow⟩ : ∃ k, X 12 = .slice (some ⟨k, 0, none⟩) 0 0 ∧ W.heap.size ≤ k ∧ u.heap[k]? = some (.cells #[] layN.ty (0, 0)) := hE ⟨6, .data⟩ (by simp) rfl
      have e4 : X 14 = .slice no nl nc := hE ⟨8, .data⟩ (by simp) rfl
      refine op_append_new layN (.tmp 12) (.tmp 14) 26 _ 16 rfl Tryz.underlying26 Tryz.infoN rfl (by decide) W.heap.size k hk hrow e2 no nl nc m.gs h1.nl e4 (h1.cts.fr hFW) hAu ?_
      intro v' w' ho' hf'
      exact ⟨v', rfl, hf', ho'⟩
    · simp only [List.getElem?_toArray, List.getElem?_cons_succ, List.getElem?_cons_zero, Option.some.injEq] at ho
      subst ho
      refine ⟨by simp [Region.wanted], ?_⟩
      go_simp
      exact ⟨_, (by simp [upd, dstC]), Fr.refl _, rfl⟩
    · simp only [List.getElem?_toArray, List.getElem?_cons_succ, List.getElem?_cons_zero, Option.some.injEq] at ho
      subst ho
      refine ⟨by simp [Region.wanted], ?_⟩
      have e10 : X 16 = .pointer (some ⟨A, 4, none⟩) := hE ⟨10, .data⟩ (by simp) rfl
      go_simp
      exact ⟨_, (by simp [upd, dstC, e10]), Fr.refl _, rfl⟩
    · simp only [List.getElem?_toArray, List.getElem?_cons_succ, List.getElem?_cons_zero, Option.some.injEq] at ho
      subst ho
      refine ⟨by simp [Region.wanted], ?_⟩
      have e4 : X 17 = .slice oo ol oc := hE ⟨11, .data⟩ (by simp) rfl
      have cY := l1Copy_any oo ol oc m.os u h1.ol.symm h1.zo (h1.ons.fr hFW)
      go_simp
      refine cY.mono ?_
      rintro x w'' ⟨v, rfl, ho', hf'⟩
      exact ⟨v, (by simp [upd, dstC, e4]), hf', ho'.lower hAu⟩
    · simp only [List.getElem?_toArray, List.getElem?_cons_succ, List.getElem?_cons_zero, Option.some.injEq] at ho
      subst ho
      refine ⟨by simp [Region.wanted], ?_⟩
      have e1 : X 7 = .int .i64 sg := hE ⟨1, .data⟩ (by simp) rfl
      have q1 : OwnG layC u W.heap.size (X 11) m.cs := hE ⟨5, .data⟩ (by simp) rfl
      have q2 : OwnG layN u W.heap.size (X 15) m.gs := hE ⟨9, .data⟩ (by simp) rfl
      have q3 : OwnS u W.heap.size (X 18) m.os := hE ⟨12, .data⟩ (by simp) rfl
      obtain ⟨g1, c1, x1, -⟩ := id q1
      obtain ⟨g2, c2, x2, -⟩ := id q2
      obtain ⟨g3, c3, x3, -⟩ := id q3
      rw [x1] at q1
      rw [x2] at q2
      rw [x3] at q3
      go_simp
      exact ⟨_, (by simp only [upd, dstC, e1, x1, x2, x3]; simp), Fr.refl _, ⟨_, _, _, rfl, q1, q2, q3⟩⟩
    · simp only [List.getElem?_toArray, List.getElem?_cons_succ, List.getElem?_cons_zero, Option.some.injEq] at ho
      subst ho
      refine ⟨by simp [Region.wanted], ?_⟩
      go_simp
      exact ⟨_, (by simp [upd, dstC]), Fr.alloc _ _, ⟨u.heap.size, rfl, hAu, heap_alloc_new u _⟩⟩
    · omega
  · intro o X u ho hF hX
    simp only [List.getElem?_toArray, List.getElem?_cons_succ, List.getElem?_cons_zero, Option.some.injEq] at ho
    subst ho
    have hFW : Fr W u := (Fr.drew W).trans hF
    obtain ⟨v1, v2, v3, e19, q1, q2, q3⟩ : ∃ v1 v2 v3, X 19 = .agg #[.int .i64 sg, .slice none 0 0, v1, v2, v3] ∧ OwnG layC u W.heap.size v1 m.cs ∧ OwnG layN u W.heap.size v2 m.gs ∧ OwnS u W.heap.size v3 m.os := hX 13 (by omega)
    obtain ⟨k, e3, hk, hK⟩ : ∃ k, X 3 = .pointer (some ⟨k, 0, none⟩) ∧ W.heap.size ≤ k ∧ ScK u k ⟨0, none, 0, 0, none, 0, 0, none, 0, 0, none, 0, 0⟩ := hX 14 (by omega)
    obtain ⟨g1, c1, rfl, o1, l1⟩ := q1
    obtain ⟨g2, c2, rfl, o2, l2⟩ := q2
    obtain ⟨g3, c3, rfl, o3⟩ := q3
    have ne1 : g1 ≠ k := by obtain ⟨cur, hc⟩ := own_rowC o1; exact rows_neC hc hK (by decide)
    have ne2 : g2 ≠ k := by obtain ⟨cur, hc⟩ := own_rowC o2; exact rows_neC hc hK (by decide)
    have ne3 : g3 ≠ k := by obtain ⟨cur, hc⟩ := own_rowC o3.1; exact rows_neC hc hK (by decide)
    obtain ⟨j0, j1, j2, j3, j4⟩ := hK.at
    simp only at j0 j1 j2 j3 j4
    have jf := fun i => hK.free i
    clear hX
    refine ⟨by simp [Region.wanted], ?_⟩
    go_simp
    have kU := put5 u k (.int .i64 sg) (.slice none 0 0) (.slice (some ⟨g1, 0, none⟩) m.cs.length c1) (.slice (some ⟨g2, 0, none⟩) m.gs.length c2) (.slice (some ⟨g3, 0, none⟩) m.os.length c3)
    have kO : ScK (((((u.setCell ⟨k, 0, none⟩ (.int .i64 sg)).setCell ⟨k, 1, none⟩ (.slice none 0 0)).setCell ⟨k, 2, none⟩ (.slice (some ⟨g1, 0, none⟩) m.cs.length c1)).setCell ⟨k, 3, none⟩ (.slice (some ⟨g2, 0, none⟩) m.gs.length c2)).setCell ⟨k, 4, none⟩ (.slice (some ⟨g3, 0, none⟩) m.os.length c3)) k ⟨sg, none, 0, 0, some ⟨g1, 0, none⟩, m.cs.length, c1, some ⟨g2, 0, none⟩, m.gs.length, c2, some ⟨g3, 0, none⟩, m.os.length, c3⟩ := by
      have e0 := heap_setCell_same u k 0 _ _ (.int .i64 sg) hK
      have e1 := heap_setCell_same _ k 1 _ _ (.slice none 0 0) e0
      have e2 := heap_setCell_same _ k 2 _ _ (.slice (some ⟨g1, 0, none⟩) m.cs.length c1) e1
      have e3 := heap_setCell_same _ k 3 _ _ (.slice (some ⟨g2, 0, none⟩) m.gs.length c2) e2
      exact heap_setCell_same _ k 4 _ _ (.slice (some ⟨g3, 0, none⟩) m.os.length c3) e3
    obtain ⟨U, hU⟩ : ∃ U, U = (((((u.setCell ⟨k, 0, none⟩ (.int .i64 sg)).setCell ⟨k, 1, none⟩ (.slice none 0 0)).setCell ⟨k, 2, none⟩ (.slice (some ⟨g1, 0, none⟩) m.cs.length c1)).setCell ⟨k, 3, none⟩ (.slice (some ⟨g2, 0, none⟩) m.gs.length c2)).setCell ⟨k, 4, none⟩ (.slice (some ⟨g3, 0, none⟩) m.os.length c3)) := ⟨_, rfl⟩
    rw [← hU] at kU kO ⊢
    clear hU
    have FU : Fr W U := hFW.then kU (one_blk hk)
    have o1 := o1.kept kU (.inr (by simp only [Value.ownBlock, ne_eq, Option.some.injEq]; exact ne1))
    have o2 := o2.kept kU (.inr (by simp only [Value.ownBlock, ne_eq, Option.some.injEq]; exact ne2))
    have o3 := o3.keep kU (.inr (by simp only [Value.ownBlock, ne_eq, Option.some.injEq]; exact ne3))
    have b1 := o1.lt g1 rfl
    have b2 := o2.lt g2 rfl
    have b3 := o3.1.lt g3 rfl
    have bk := kO.lt
    have aW : A + 1 < W.heap.size := k2.lt
    clear kU hK j0 j1 j2 j3 j4 jf hFW hF
    obtain ⟨lvs, rL, eL, LL⟩ := h1.lks
    simp only at rL eL
    subst eL
    have hlen := LL.len
    have hsl := h1.sl
    have HR : Hid (ScR B W ⟨sg, lo, lvs.length, lc, co, cl, cc, no, nl, nc, oo, ol, oc⟩ m) := h1
    have HO : Hid (∀ wr, U.grownBy wr (some k) → ReadsG layC wr (some ⟨g1, 0, none⟩) m.cs ∧ ReadsG layN wr (some ⟨g2, 0, none⟩) m.gs ∧ Reads wr (some ⟨g3, 0, none⟩) m.os) := fun wr f => ⟨(own_readsG o1 l1).keep f (.inr (by simp only [blk, Option.map_some, ne_eq, Option.some.injEq]; exact ne1)), (own_readsG o2 l2).keep f (.inr (by simp only [blk, Option.map_some, ne_eq, Option.some.injEq]; exact ne2)), o3.reads.keep f (.inr (by simp only [blk, Option.map_some, ne_eq, Option.some.injEq]; exact ne3))⟩
    have HK1 : Hid (∀ wr, Fr W wr → ScK wr A ⟨sg, lo, lvs.length, lc, co, cl, cc, no, nl, nc, oo, ol, oc⟩ ∧ ScK wr (A + 1) ⟨0, none, 0, 0, none, 0, 0, none, 0, 0, none, 0, 0⟩) := fun wr f => ⟨k1.fr f, k2.fr f⟩
    clear o1 o2 o3 l1 l2 k1 k2 h1 h e19 e3
    have HLEN : Hid (lvs.length = m.ls.length) := hlen
    have hsl2 : lvs.length ≤ 1048576 := by omega
    clear hlen hsl
    go_wp2_with fail
    go_loopw [4] (fun i wr => ∃ (j : Nat) (lo' : Option Addr) (ll' lc' : Nat) (ys : List Lv), j ≤ lvs.length ∧ i = .int .i64 j ∧ ll' = ys.length ∧ U.grownBy wr (some k) ∧ ScK wr k ⟨sg, lo', ll', lc', some ⟨g1, 0, none⟩, m.cs.length, c1, some ⟨g2, 0, none⟩, m.gs.length, c2, some ⟨g3, 0, none⟩, m.os.length, c3⟩ ∧ Hid (wr.ownsRow U.heap.size layL.ty layL.sz (.slice lo' ll' lc') ys.length (ys.flatMap layL.cs)) ∧ Hid (LksR (fun b => (U.heap.size ≤ b ∧ b < wr.heap.size) ∧ some b ≠ blk lo') wr ys (m.ls.take j))) (fun i _ => lvs.length - (intOf i).toNat)
    case atStart => exact ⟨0, none, 0, 0, [], Nat.zero_le _, rfl, rfl, grown_refl U _, kO, World.ownsRow_nil U _ _ _, LksR.nil _ _⟩
    case round =>
      obtain ⟨j, lo', ll', lc', ys, hj, rfl, rfl, hg, kr, HW, HL⟩ := hrel
      have hFr : Fr W wr := FU.then hg (one_blk hk)
      obtain ⟨ks, kz⟩ := HK1.out wr hFr
      obtain ⟨s0, s1, s2, s3, s4⟩ := ks.at
      simp only at s0 s1 s2 s3 s4
      obtain ⟨t0, t1, t2, t3, t4⟩ := kr.at
      simp only at t0 t1 t2 t3 t4
      have hzU := hg.size
      by_cases hlt : j < lvs.length
      · have hjl : j < m.ls.length := by have := HLEN.out; omega
        obtain ⟨eb, off, rfl, d0, d1, d2⟩ := lv_at (rL.fr hFr) j hlt
        have hLk := (LL.at_ j hlt hjl).fr hFr
        have HT : Hid (m.ls.take (j + 1) = m.ls.take j ++ [m.ls[j]]) := List.take_succ_eq_append_getElem hjl
        have hi : (j : Int) < lvs.length := by omega
        have hyl : ys.length = (m.ls.take j).length := HL.out.len
        have hyj : ys.length = j := by rw [hyl]; simp; omega
        have HYJ : Hid (ys.length = j) := hyj
        have hyb : ys.length ≤ 1048576 := by omega
        clear hyl hyj
        obtain ⟨lv, hlv⟩ : ∃ lv, lv = lvs[j] := ⟨_, rfl⟩
        obtain ⟨l, hl⟩ : ∃ l, l = m.ls[j] := ⟨_, rfl⟩
        rw [← hlv] at d0 d1 d2 hLk
        rw [← hl] at HT hLk
        clear hlv hl
        have cY := fun u (f : Fr wr u) => l1Copy_any lv.ro lv.rn lv.rc l.rd u hLk.rn.symm hLk.rc (hLk.rd.fr f)
        have fA := Fr.alloc wr (.cells #[.int .i64 lv.o, .int .i64 lv.wr, .slice lv.ro lv.rn lv.rc] 47)
        have kA : LvK (wr.alloc (.cells #[.int .i64 lv.o, .int .i64 lv.wr, .slice lv.ro lv.rn lv.rc] 47)) wr.heap.size lv := heap_alloc_new wr _
        have HLk : Hid (LkR B wr lv l) := hLk
        clear hLk
        obtain ⟨vo, vw, vr, vn, vc⟩ := lv
        simp only at d0 d1 d2 cY fA kA
        go_wp2_with fail
        refine (cY _ fA).mono ?_
        rintro x u2 ⟨v2, rfl, ov, f2⟩
        obtain ⟨gr, cr, rfl, ov⟩ := ov
        have hor := own_lt ov
        have kA2 := kA.keep f2 (by simp)
        obtain ⟨y0, y1, y2⟩ := kA2.at
        simp only at y0 y1 y2
        have yf := fun i => kA2.free i
        have F2 := fA.trans f2
        have kr2 := kr.fr F2
        obtain ⟨t0, t1, t2, t3, t4⟩ := kr2.at
        simp only at t0 t1 t2 t3 t4
        have tf := fun i => kr2.free i
        obtain ⟨kb, hkb⟩ : ∃ kb, kb = wr.heap.size := ⟨_, rfl⟩
        simp only [← hkb] at kA2 y0 y1 y2 yf ⊢
        have HKB : Hid (kb = wr.heap.size) := hkb
        have hs2 : kb + 1 ≤ u2.heap.size := by have := f2.size; simp at this; omega
        have hkk : ¬ k = kb := by omega
        have hkk2 : ¬ kb = k := by omega
        have hgr : kb + 1 ≤ gr ∧ gr < u2.heap.size := by have := hor; simp at this; omega
        have hUk : U.heap.size ≤ kb := by omega
        have kA3 := kA2.setR (some ⟨gr, 0, none⟩) l.rd.length cr
        simp only at kA3
        have hn3 : (u2.setCell ⟨kb, 2, none⟩ (.slice (some ⟨gr, 0, none⟩) l.rd.length cr)).heap.size = u2.heap.size := by simp
        have k3 := grown_set u2 kb 2 (.slice (some ⟨gr, 0, none⟩) l.rd.length cr)
        have k4 := Fr.alloc (u2.setCell ⟨kb, 2, none⟩ (.slice (some ⟨gr, 0, none⟩) l.rd.length cr)) (.cells #[.int .i64 vo, .int .i64 vw, .slice (some ⟨gr, 0, none⟩) l.rd.length cr] 47)
        have hob := HW.out.lt
        have HWN : Hid (((u2.setCell ⟨kb, 2, none⟩ (.slice (some ⟨gr, 0, none⟩) l.rd.length cr)).alloc (.cells #[.int .i64 vo, .int .i64 vw, .slice (some ⟨gr, 0, none⟩) l.rd.length cr] 47)).ownsRow U.heap.size layL.ty layL.sz (.slice lo' ys.length lc') ys.length (ys.flatMap layL.cs)) :=
          own_frG ((own_frG HW.out F2).kept k3 (.inr (fun q => by have := (hob kb q).2; omega))) k4
        have HNE : Hid (∀ q, q < layL.sz → ((u2.setCell ⟨kb, 2, none⟩ (.slice (some ⟨gr, 0, none⟩) l.rd.length cr)).alloc (.cells #[.int .i64 vo, .int .i64 vw, .slice (some ⟨gr, 0, none⟩) l.rd.length cr] 47)).cell? ⟨u2.heap.size, q, none⟩ = (layL.cs ⟨vo, vw, some ⟨gr, 0, none⟩, l.rd.length, cr⟩)[q]?) := by
          have e := heap_alloc_new (u2.setCell ⟨kb, 2, none⟩ (.slice (some ⟨gr, 0, none⟩) l.rd.length cr)) (.cells #[.int .i64 vo, .int .i64 vw, .slice (some ⟨gr, 0, none⟩) l.rd.length cr] 47)
          rw [hn3] at e
          exact newL3 (l := ⟨vo, vw, some ⟨gr, 0, none⟩, l.rd.length, cr⟩) e
        have HK3 : Hid (ScK ((u2.setCell ⟨kb, 2, none⟩ (.slice (some ⟨gr, 0, none⟩) l.rd.length cr)).alloc (.cells #[.int .i64 vo, .int .i64 vw, .slice (some ⟨gr, 0, none⟩) l.rd.length cr] 47)) k ⟨sg, lo', ys.length, lc', some ⟨g1, 0, none⟩, m.cs.length, c1, some ⟨g2, 0, none⟩, m.gs.length, c2, some ⟨g3, 0, none⟩, m.os.length, c3⟩) := (kr2.keep k3 (by simp only [ne_eq, Option.some.injEq]; omega)).fr k4
        have HG3 : Hid (U.grownBy ((u2.setCell ⟨kb, 2, none⟩ (.slice (some ⟨gr, 0, none⟩) l.rd.length cr)).alloc (.cells #[.int .i64 vo, .int .i64 vw, .slice (some ⟨gr, 0, none⟩) l.rd.length cr] 47)) (some k)) :=
          grown_then (grown_then (grown_then hg F2 (by simp)) k3 (fun j hj => by simp only [Option.some.injEq] at hj; left; omega)) k4 (by simp)
        have HL3 : Hid (LksR (fun b => (U.heap.size ≤ b ∧ b < wr.heap.size) ∧ some b ≠ blk lo') ((u2.setCell ⟨kb, 2, none⟩ (.slice (some ⟨gr, 0, none⟩) l.rd.length cr)).alloc (.cells #[.int .i64 vo, .int .i64 vw, .slice (some ⟨gr, 0, none⟩) l.rd.length cr] 47)) ys (m.ls.take j)) :=
          ((HL.out.fr F2).keep k3 (fun j hj q => by simp only [Option.some.injEq] at hj; omega)).fr k4
        have HOV : Hid (Reads ((u2.setCell ⟨kb, 2, none⟩ (.slice (some ⟨gr, 0, none⟩) l.rd.length cr)).alloc (.cells #[.int .i64 vo, .int .i64 vw, .slice (some ⟨gr, 0, none⟩) l.rd.length cr] 47)) (some ⟨gr, 0, none⟩) l.rd) :=
          (ov.reads.keep k3 (.inr (by simp only [blk, Option.map_some, ne_eq, Option.some.injEq]; omega))).fr k4
        have HS4 : Hid (((u2.setCell ⟨kb, 2, none⟩ (.slice (some ⟨gr, 0, none⟩) l.rd.length cr)).alloc (.cells #[.int .i64 vo, .int .i64 vw, .slice (some ⟨gr, 0, none⟩) l.rd.length cr] 47)).heap.size = u2.heap.size + 1) := by simp [Hid]
        have hbU : U.heap.size ≤ u2.heap.size + 1 := by omega
        clear kA kA2 kA3 k3 k4 F2 f2 fA hn3 hor kr kr2 ov hkb
        go_wp2_with (at_builtin; refine appGN layL _ rfl _ _ 24 _ 40 rfl Tryz.underlying24 Tryz.infoL rfl (by decide) U.heap.size (.slice lo' ys.length lc') ys ⟨vo, vw, some ⟨gr, 0, none⟩, l.rd.length, cr⟩ rfl HWN.out u2.heap.size 1 rfl HNE.out (by omega) (by rw [HS4.out]; exact hbU) ?_; intro g5 c5 w5 hv5 hg5 hat5; have kr5 := ScK.keep HK3.out hg5 (fun q => by have := (hob k q).1; omega); obtain ⟨r0, r1, r2, r3, r4⟩ := kr5.at; have rf := fun i => kr5.free i; simp only at r0 r1 r2 r3 r4)
        have hl1 : (ys ++ [(⟨vo, vw, some ⟨gr, 0, none⟩, l.rd.length, cr⟩ : Lv)]).length = ys.length + 1 := by simp
        have hg5k : g5 ≠ k := by have := (hv5.lt g5 rfl).1; omega
        rw [hl1] at hv5
        have k6 := grown_set w5 k 1 (.slice (some ⟨g5, 0, none⟩) (ys.length + 1) c5)
        have hs5 := hg5.size
        rw [HS4.out] at hs5
        have hs6 := k6.size
        have HKB2 := HKB.out
        have hbo : ∀ b, some b = (Value.slice lo' ys.length lc').ownBlock → some b = blk lo' := fun b q => by
          cases lo' with
          | none => simp [Value.ownBlock] at q
          | some a => simpa [Value.ownBlock, blk] using q
        have hg5n : ∀ b, b < u2.heap.size + 1 → some b ≠ blk lo' → b ≠ g5 := fun b hb hn q => by
          subst q
          rcases hat5 with q2 | q2
          · exact hn (hbo _ q2)
          · rw [HS4.out] at q2; omega
        have hgl : some gr ≠ blk lo' := fun q => by
          have q2 : (Value.slice lo' ys.length lc').ownBlock = some gr := by
            cases lo' with
            | none => simp [blk] at q
            | some a => simpa [Value.ownBlock, blk] using q.symm
          have := (hob gr q2).2
          omega
        go_roundw
        case rel =>
          refine ⟨j + 1, some ⟨g5, 0, none⟩, ys.length + 1, c5, ys ++ [⟨vo, vw, some ⟨gr, 0, none⟩, l.rd.length, cr⟩], by omega, by go_num, hl1.symm, ?_, ?_, ?_, ?_⟩
          · exact grown_then (grown_then HG3.out hg5 (fun j hj => .inl (hob j hj).1)) k6 (fun j hj => by simp only [Option.some.injEq] at hj; right; omega)
          · exact heap_setCell_same w5 k 1 _ _ (.slice (some ⟨g5, 0, none⟩) (ys.length + 1) c5) kr5
          · show World.ownsRow _ _ _ _ _ _ _
            rw [hl1]
            exact hv5.kept k6 (.inr (by simp only [Value.ownBlock, ne_eq, Option.some.injEq]; exact hg5k))
          · show LksR _ _ _ _
            rw [HT.out]
            refine LksR.snoc ?_ ?_
            · refine ((HL3.out.keep hg5 (fun j hj q => q.2 (hbo j hj.symm))).keep k6 (fun j hj q => by simp only [Option.some.injEq] at hj; omega)).mono (fun b q => ⟨⟨q.1.1, by omega⟩, fun q2 => ?_⟩)
              simp only [blk, Option.map_some, Option.some.injEq] at q2
              exact hg5n b (by omega) q.2 q2
            · have hLk := HLk.out
              refine ⟨hLk.o, hLk.wr, rfl, ?_, ?_, by simp, hLk.sz, hLk.io, hLk.iw⟩
              · refine (HOV.out.keep hg5 (.inr (fun q => hgl (hbo gr q)))).keep k6 (.inr (by simp only [blk, Option.map_some, ne_eq, Option.some.injEq]; omega))
              · intro b q
                simp only [blk, Option.map_some, Option.some.injEq] at q
                subst q
                refine ⟨⟨by omega, by omega⟩, fun q2 => ?_⟩
                simp only [blk, Option.map_some, Option.some.injEq] at q2
                exact hg5n gr (by omega) hgl q2
        case measure => simp [intOf]; omega
      · have hje : j = lvs.length := by omega
        have HTJ : Hid (m.ls.take j = m.ls) := List.take_of_length_le (by have := HLEN.out; omega)
        have hyl : ys.length = (m.ls.take j).length := HL.out.len
        have hyb : ys.length ≤ 16777216 := by rw [hyl]; simp; omega
        obtain ⟨z0, z1, z2, z3, z4⟩ := kz.at
        simp only at z0 z1 z2 z3 z4
        have zf := fun i => kz.free i
        have HF : Hid (ScR (fun b => W.heap.size ≤ b ∧ b < wr.heap.size) wr ⟨sg, lo', ys.length, lc', some ⟨g1, 0, none⟩, m.cs.length, c1, some ⟨g2, 0, none⟩, m.gs.length, c2, some ⟨g3, 0, none⟩, m.os.length, c3⟩ m) := by
          have hr := HR.out
          obtain ⟨r1, r2, r3⟩ := HO.out wr hg
          have hLL := HL.out
          rw [HTJ.out] at hLL
          have hWU := FU.size
          exact { g := hr.g, ig := hr.ig, lks := ⟨ys, own_readsN HW.out hyb, rfl, hLL.mono (fun b q => ⟨by omega, q.1.2⟩)⟩, chs := r1, cl := rfl, cts := r2, nl := rfl, ons := r3, ol := rfl
                  bl := fun b q => by
                    have q2 : (Value.slice lo' ys.length lc').ownBlock = some b := by
                      cases lo' with
                      | none => simp [blk] at q
                      | some a => simpa [Value.ownBlock, blk] using q
                    have := HW.out.lt b q2
                    exact ⟨by omega, this.2⟩
                  bc := fun b q => by simp only [blk, Option.map_some, Option.some.injEq] at q; omega
                  bn := fun b q => by simp only [blk, Option.map_some, Option.some.injEq] at q; omega
                  bo := fun b q => by simp only [blk, Option.map_some, Option.some.injEq] at q; omega
                  zo := fun q => by simp at q
                  sl := hr.sl, sc := hr.sc, sn := hr.sn, so := hr.so, ic := hr.ic, inn := hr.inn }
        clear hyl HW HL hje
        go_wp2_with fail
        have kf := put5 wr (A + 1) (.int .i64 sg) (.slice lo' ys.length lc') (.slice (some ⟨g1, 0, none⟩) m.cs.length c1) (.slice (some ⟨g2, 0, none⟩) m.gs.length c2) (.slice (some ⟨g3, 0, none⟩) m.os.length c3)
        refine bodyPost_ret (v := .agg #[.int .i64 sg, .slice lo' ys.length lc', .slice (some ⟨g1, 0, none⟩) m.cs.length c1, .slice (some ⟨g2, 0, none⟩) m.gs.length c2, .slice (some ⟨g3, 0, none⟩) m.os.length c3]) (by simp [results, Tryz.results72, go_sem, z0, z1, z2, z3, z4]) rfl ⟨⟨sg, lo', ys.length, lc', some ⟨g1, 0, none⟩, m.cs.length, c1, some ⟨g2, 0, none⟩, m.gs.length, c2, some ⟨g3, 0, none⟩, m.os.length, c3⟩, rfl, ?_, ?_⟩
        · have hA := HA.out
          have hks := kf.size
          exact (HF.out.keep kf (fun j hj q => by simp only [Option.some.injEq] at hj; omega)).mono (fun b q => ⟨by omega, by omega⟩)
        · have hA := HA.out
          exact (f0.trans hFr).then kf (fun j hj => by simp only [Option.some.injEq] at hj; omega)
end Go.Proofs.YtihdablgnmkjnaaGreatDoor
/-
  A range over a function whose rounds never leave: the iterator's contract is handed what a round does, and says itself what lies behind.
-/
namespace Go.Proofs.YtihdablgnmkjnaaGreatDoor
open Go.RowKit

/-- A round ends by itself. -/
def goesOn (R : World → Prop) : Exit → Act → World → Prop
  | .normal, _, W' => R W'
  | _, _, _ => False

theorem wpIn_range {F : Fence} {n : Nat} {P : Program} {α : Type} {g : Operand} {ps : Array Tmp} {assign body : Code} {Q : Exit → Act → World → Prop} {a : Act} {w : World}
    (hro : F.round = none) (h1 : 1 ≤ n) {gf : Nat} {lb : Array Value} (hg : a.eval g = .func (.func gf) #[] lb) (hFg : F.fn gf) (eg : ∀ args w, (callFunc gf args).run P w = .ok (.enter gf args) w)
    (encs : α → Array Value) (hps : ∀ x, (encs x).size = ps.size) (Pre : α → World → Prop) (Post : α → World → World → Prop) (Fin : World → Prop) (a₁ : α → Act)
    (hassign : ∀ (l : Nat) (x : α) (W : World) (K : Act → World → Prop), K (a₁ x) W →
      assign.wpIn (F.inRound l) (n - 1 - 1) P (Exit.then K (fun _ _ _ => False)) { tmps := (ps.zip (encs x)).foldl (fun t (p, v) => t.setIfInBounds p v) a.tmps, defers := [] } W)
    (hbody : ∀ (l : Nat) (x : α) (W : World), Pre x W → body.wpIn (F.inRound l) (n - 1 - 1) P (goesOn (fun W' => KeepsOthers W W' ∧ Post x W W')) (a₁ x) W)
    (hPre : ∀ (x : α) (W : World) (o o' : Obj), W.heap[w.heap.size + 1]? = some o → Pre x W → Pre x (W.putObj (w.heap.size + 1) o'))
    (hPost : ∀ (x : α) (W W3 : World) (o1 o3 : Obj), Post x (W.putObj (w.heap.size + 1) o1) W3 → Post x W (W3.putObj (w.heap.size + 1) o3))
    (hit : ∀ (W1 : World) (Rec : World → Prop), Below w.heap.size w W1 → W1.heap.size = w.heap.size + 2 → Rec W1 → (∀ A B : World, Rec A → B.heap[w.heap.size]? = A.heap[w.heap.size]? → B.heap[w.heap.size + 1]? = A.heap[w.heap.size + 1]? → Rec B) → (∀ A, Rec A → w.heap.size + 1 < A.heap.size) →
      (∀ x W, Rec W → Pre x W → YieldAt F (n - 1 - 1) P (w.heap.size + 1) (encs x) W fun e W' => e = .returned (.bool true) ∧ Rec W' ∧ Post x W W') →
      CallsIn F (n - 1) P gf (#[.func (.yield (w.heap.size + 1)) #[] #[]] ++ lb) W1 fun e W' => (∃ v, e = .returned v) ∧ Rec W' ∧ Fin W')
    (hdone : ∀ (W : World) (o : Obj), Fin W → (W.putObj (w.heap.size + 1) o).heap[w.heap.size]? = some (.deferred (some [])) → Q .normal { a with defers := { target := .collected w.heap.size, args := #[] } :: a.defers } (W.putObj (w.heap.size + 1) o)) :
    (Code.rangeFunc g ps assign body).wpIn F n P Q a w := by
  refine wpIn_rangeFunc ?_
  intro fn hfn
  rw [hro]
  obtain ⟨rec, hrec⟩ : ∃ rec : LoopState → Option Code → Loop, rec = fun st pe => { state := st, pending := pe, fn, tmps := a.tmps, params := ps, assign, body, defers := w.heap.size } := ⟨_, rfl⟩
  obtain ⟨W1, hW1⟩ : ∃ W1, (w.alloc (.deferred (some []))).alloc (.loop (rec .ready none)) = W1 := ⟨_, rfl⟩
  have hL1 : W1.heap[w.heap.size + 1]? = some (.loop (rec .ready none)) := by
    rw [← hW1]; have := World.alloc_heap_new (w.alloc (.deferred (some []))) (.loop (rec .ready none)); rwa [World.size_alloc] at this
  have hK1 : W1.heap[w.heap.size]? = some (.deferred (some [])) := by
    rw [← hW1]; exact (Below.heap_alloc _ _ _ (by simp)).trans (World.alloc_heap_new w _)
  have hb1 : Below w.heap.size w W1 := by
    rw [← hW1]; exact ((Below.refl _ w).alloc (Nat.le_refl _) _).alloc (by simp) _
  have hs1 : W1.heap.size = w.heap.size + 2 := by rw [← hW1]; simp
  refine ⟨w.heap.size + 1, [{ target := .collected w.heap.size, args := #[] }], W1, { target := .fn (.func gf) lb, args := #[.func (.yield (w.heap.size + 1)) #[] #[]] }, W1, gf,
    #[.func (.yield (w.heap.size + 1)) #[] #[]] ++ lb, W1, ?_, ?_, ?_, ?_, fun _ => h1, ?_⟩
  · rw [← hW1, hrec]; exact run_enterLoop_outer _ _ _ _ _
  · simp only [resolve, hg]
    simp [go_sem]
  · intro f' hf'; simp [Target.leads] at hf'; subst hf'; exact hFg
  · simp [invoke, go_sem, eg]
  · refine (hit W1 (fun W => W.heap[w.heap.size + 1]? = some (.loop (rec .ready none)) ∧ W.heap[w.heap.size]? = some (.deferred (some []))) hb1 hs1 ⟨hL1, hK1⟩
      (fun A B hA q1 q2 => ⟨q2.trans hA.1, q1.trans hA.2⟩) (fun A hA => (Array.getElem?_eq_some_iff.1 hA.1).1) ?_).mono ?_
    · rintro x W ⟨hl, hk⟩ hp
      have hlt : w.heap.size + 1 < W.heap.size := (Array.getElem?_eq_some_iff.1 hl).1
      have hy := run_yield (P := P) (args := encs x) hl (by rw [hrec]; exact hps x)
      rw [hrec] at hy
      refine ⟨fn, _, assign, body, hy, roundIn_of_wpIn hfn (hassign _ x W _ ⟨_, run_beginRound hl (by rw [hrec]), ?_⟩)⟩
      have hl2 : (W.putObj (w.heap.size + 1) (.loop { rec .ready none with state := .busy })).heap[w.heap.size + 1]? = some (.loop { rec .ready none with state := .busy }) := World.putObj_heap_same hlt
      have hk2 : (W.putObj (w.heap.size + 1) (.loop { rec .ready none with state := .busy })).heap[w.heap.size]? = some (.deferred (some [])) := (World.putObj_heap_other (by omega)).trans hk
      refine wpIn_mono (hbody _ x _ (hPre x W _ _ hl hp)) ?_
      rintro e a3 W3 hp3
      cases e with
      | normal =>
        obtain ⟨hk3, hpo⟩ := hp3
        have hl3 := hk3.same _ _ hl2 rfl
        have hr := run_endRound (P := P) none hl3
        rw [hrec] at hr
        have hl4 : (W3.putObj (w.heap.size + 1) (.loop (rec .ready none))).heap[w.heap.size + 1]? = some (.loop (rec .ready none)) := World.putObj_heap_same (Array.getElem?_eq_some_iff.1 hl3).1
        have hk4 : (W3.putObj (w.heap.size + 1) (.loop (rec .ready none))).heap[w.heap.size]? = some (.deferred (some [])) := (World.putObj_heap_other (by omega)).trans (hk3.same _ _ hk2 rfl)
        refine ⟨_, _, hr, rfl, ?_, ?_⟩
        · rw [hrec] at hl4 hk4 ⊢
          exact ⟨hl4, hk4⟩
        · exact hPost x W W3 _ _ hpo
      | ret => exact hp3.elim
      | exit id => exact hp3.elim
      | goto t => exact hp3.elim
      | panic ch => exact hp3.elim
      | outgrown => exact hp3.elim
    · rintro e W2 ⟨⟨v, rfl⟩, ⟨hl, hk⟩, hf⟩
      refine ⟨none, _, by have := run_endLoop (P := P) hl (by rw [hrec]; simp); rw [hrec] at this; exact this, hdone W2 _ hf ((World.putObj_heap_other (by omega)).trans hk)⟩
end Go.Proofs.YtihdablgnmkjnaaGreatDoor
/-
  Maps from numbers: a block that holds a function.
-/
namespace Go.Proofs.YtihdablgnmkjnaaGreatDoor
open Go.RowKit

/-- An element's value reads as itself. -/
def asIs (v : Value) : Option (DataW Value × List MemPlace) := some (.held v, [])
theorem keyed64 : Maps.Keyed Tryz.prog 2 := Maps.int_keyed Tryz.underlying2
/-- Block b is a map of at most n entries that holds f. -/
def MapF (w : World) (b n : Nat) (f : Int → Option Value) : Prop :=
  ∃ D : DataW Value, w.ownsMap Tryz.prog 2 asIs b n D ∧ ∀ i z, D.atKey (.int .i64 i) z = ((f i).map DataW.held).getD z

theorem lit64 {i : Int} (h : I64 i) : (Lit.int .i64 i).wf = true := by
  obtain ⟨h1, h2⟩ := h
  simp [Lit.wf, IntKind.min, IntKind.max, IntKind.signed, IntKind.bits]
  omega
theorem MapF.made (w : World) : MapF (w.alloc (.map #[] 0)) w.heap.size 0 (fun _ => none) :=
  ⟨.map [], World.ownsMap_made w _ _ _, fun _ _ => rfl⟩
theorem MapF.keep {w w' : World} {b n : Nat} {f : Int → Option Value} {row : Option Nat} (h : MapF w b n f) (k : w.grownBy w' row) (hr : some b ≠ row) : MapF w' b n f := by
  obtain ⟨D, h1, h2⟩ := h
  exact ⟨D, h1.kept k hr, h2⟩
theorem MapF.fr {w w' : World} {b n : Nat} {f : Int → Option Value} (h : MapF w b n f) (k : Fr w w') : MapF w' b n f := h.keep k (by simp)
theorem MapF.lt {w : World} {b n : Nat} {f : Int → Option Value} (h : MapF w b n f) : b < w.heap.size := by
  obtain ⟨D, h1, _⟩ := h
  exact h1.lt
theorem mapF_has {f : Int → Option Value} {D : DataW Value} (h : ∀ i z, D.atKey (.int .i64 i) z = ((f i).map DataW.held).getD z) (i : Int) : Maps.has D (.int .i64 i) = (f i).isSome := by
  cases hf : f i with
  | none => exact Maps.has_false_of_atKey fun z => by rw [h i z, hf]; rfl
  | some v => exact Maps.has_true_of_atKey (y := .held v) fun z => by rw [h i z, hf]; rfl
/-- 'v, ok := m[i]'. -/
theorem MapF.look_ok {w : World} {b n : Nat} {f : Int → Option Value} (h : MapF w b n f) {t e : TypeId} (ht : Tryz.prog.underlying t = some (.map 2 e)) {z : Value} (hz : (zeroValue e).run Tryz.prog w = .ok z w) {i : Int} (hi : I64 i) :
    (Instr.lookup t (.map (some b)) (.int .i64 i) true).run Tryz.prog w = .ok (.tuple #[(f i).getD z, .bool (f i).isSome]) w := by
  obtain ⟨D, h1, h2⟩ := h
  obtain ⟨v, ps, hrun, hv⟩ := h1.look_ok keyed64 ht hz (zd := .held z) (zp := []) rfl (Maps.keyOf_int_mk Tryz.underlying2 (lit64 hi))
  rw [mapF_has h2] at hrun
  simp only [asIs, Option.some.injEq, Prod.mk.injEq] at hv
  have hv := hv.1
  rw [h2] at hv
  have : v = (f i).getD z := by
    cases hf : f i with
    | none => rw [hf] at hv; simpa using hv
    | some u => rw [hf] at hv; simpa using hv
  rw [hrun, this]
/-- 'm[i]'. -/
theorem MapF.look {w : World} {b n : Nat} {f : Int → Option Value} (h : MapF w b n f) {t e : TypeId} (ht : Tryz.prog.underlying t = some (.map 2 e)) {z : Value} (hz : (zeroValue e).run Tryz.prog w = .ok z w) {i : Int} (hi : I64 i) :
    (Instr.lookup t (.map (some b)) (.int .i64 i) false).run Tryz.prog w = .ok ((f i).getD z) w := by
  obtain ⟨D, h1, h2⟩ := h
  obtain ⟨v, ps, hrun, hv⟩ := h1.lookup keyed64 ht hz (zd := .held z) (zp := []) rfl (Maps.keyOf_int_mk Tryz.underlying2 (lit64 hi))
  simp only [asIs, Option.some.injEq, Prod.mk.injEq] at hv
  have hv := hv.1
  rw [h2] at hv
  have : v = (f i).getD z := by
    cases hf : f i with
    | none => rw [hf] at hv; simpa using hv
    | some u => rw [hf] at hv; simpa using hv
  rw [hrun, this]
/-- f with v at i. -/
def putM (f : Int → Option Value) (i : Int) (v : Value) : Int → Option Value := fun j => if j = i then some v else f j
/-- 'm[i] = v'. -/
theorem MapF.put {w : World} {b n : Nat} {f : Int → Option Value} (h : MapF w b n f) {t e : TypeId} (ht : Tryz.prog.underlying t = some (.map 2 e)) (hn : n < maxLen) {i : Int} (hi : I64 i) (v : Value) :
    ∃ w', (Instr.mapUpdate t (.map (some b)) (.int .i64 i) v).run Tryz.prog w = .ok () w' ∧ MapF w' b (n + 1) (putM f i v) ∧ w.grownBy w' (some b) := by
  obtain ⟨D, h1, h2⟩ := h
  obtain ⟨w', hrun, h3, h4⟩ := h1.update keyed64 ht hn (Maps.keyOf_int_mk Tryz.underlying2 (lit64 hi)) (val := v) (d := .held v) (ps := []) rfl
  refine ⟨w', hrun, ⟨_, h3, fun j z => ?_⟩, h4⟩
  unfold putM
  by_cases e : j = i
  · subst e
    rw [if_pos rfl, Maps.atKey_put_same h1.isMap (keyed64.key (Maps.keyOf_int_mk Tryz.underlying2 (lit64 hi)))]
    rfl
  · rw [if_neg e, Maps.atKey_put_other (by simpa using e), h2]
/-- 'm[i] = v' at the operation. -/
theorem wp_put {w : World} {ops : Array Oper} {rest : List Oper} {o : Oper} {a : Act} {Q : Exit → Act → World → Prop} (hg : o.guard = none) (m x u : Operand) (t : TypeId) (hop : o.op = Op.mapUpdate t m x u)
    {e : TypeId} (ht : Tryz.prog.underlying t = some (.map 2 e)) (b n : Nat) (f : Int → Option Value) (i : Int) (v : Value) (hm : a.eval m = .map (some b)) (hx : a.eval x = .int .i64 i) (hu : a.eval u = v) (h : MapF w b n f) (hn : n < maxLen) (hi : I64 i)
    (hK : ∀ w', MapF w' b (n + 1) (putM f i v) → w.grownBy w' (some b) → wpList Tryz.prog ops Q rest (a.put o.dst undef) w') : wpList Tryz.prog ops Q (o :: rest) a w := by
  refine wpList_plain hg fun K' hK' => ?_
  obtain ⟨w', hrun, r1, r2⟩ := h.put ht hn hi v
  unfold Oper.wp
  simp [execOp, hop, hm, hx, hu, hrun, Result.andThen]
  exact hK' _ _ (hK w' r1 r2)
end Go.Proofs.YtihdablgnmkjnaaGreatDoor
