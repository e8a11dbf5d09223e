/-
  The program's Encoded: withEvent, Encoded.
-/
import Derived.Test.YtnekojcgbokhpaaDoorParts
import Derived.Test.YtnekojcgbokhpaaDoorEncSpec
import Derived.ArgAppend
namespace Go.Proofs.YtnekojcgbokhpaaDoor
open Go.RowKit

theorem FrB.cell {base : Nat} {w w' : World} (h : FrB base w w') {b o : Nat} {v : Value} (hc : w.cell? ⟨b, o, none⟩ = some v) (hb : b < base ∨ ¬ isB w b) : w'.cell? ⟨b, o, none⟩ = some v := by
  have hl := World.block_lt_of_cell? w _ hc
  rw [← hc]
  simp only [World.cell?]
  rw [h.block b hl hb]
theorem notB {w : World} {b : Nat} {c : Array Value} {t : TypeId} {f : Nat × Nat} (h : w.heap[b]? = some (.cells c t f)) (ht : t ≠ 5) : ¬ isB w b := by
  rintro ⟨cur, fz, e⟩
  rw [h] at e
  simp only [Option.some.injEq, Obj.cells.injEq] at e
  exact ht e.2.1
theorem Shapes.frB {base : Nat} {w w' : World} (h : Shapes w) (k : FrB base w w') (hb : 0 < base) : Shapes w' := fun n hn => by
  obtain ⟨h1, h2, h3⟩ := h n hn
  exact ⟨k.cell h1 (.inl hb), k.cell h2 (.inl hb), k.cell h3 (.inl hb)⟩
theorem Shapes.lt {w : World} (h : Shapes w) : 0 < w.heap.size := World.block_lt_of_cell? w _ (h 0 (by omega)).1
theorem EvAt.at {w : World} {b : Nat} {e : Ev} (h : EvAt w b e) (o : Nat) (ho : o < 8) : w.cell? ⟨b, o, none⟩ = some (.int .i64 (e.at o)) := by
  obtain ⟨c0, c1, c2, c3, c4, c5, c6, c7⟩ := h
  rcases (by omega : o = 0 ∨ o = 1 ∨ o = 2 ∨ o = 3 ∨ o = 4 ∨ o = 5 ∨ o = 6 ∨ o = 7) with rfl | rfl | rfl | rfl | rfl | rfl | rfl | rfl
  · exact c0
  · exact c1
  · exact c2
  · exact c3
  · exact c4
  · exact c5
  · exact c6
  · exact c7
theorem OwnP.open {w : World} {base b : Nat} {v : Value} {os : List Nat} (h : OwnP w base v (ptrs b os)) :
    ∃ g cap, v = .slice (some ⟨g, 0, none⟩) os.length cap ∧ base ≤ g ∧ g < w.heap.size ∧ ¬ isB w g ∧ ∀ t (ht : t < os.length), w.cell? ⟨g, t, none⟩ = some (.pointer (some ⟨b, os[t], none⟩)) := by
  obtain ⟨g, cap, rfl, ho⟩ := h
  have hl : (ptrs b os).length = os.length := by simp [ptrs]
  refine ⟨g, cap, by rw [hl], (ho.lt g rfl).1, (ho.lt g rfl).2, ?_, fun t ht => ?_⟩
  · rcases ho.2 with ⟨e, _⟩ | ⟨g', c', cur, e, _, h1, _⟩
    · simp at e
    · simp only [Value.slice.injEq, Option.some.injEq, Addr.mk.injEq, and_true] at e
      obtain ⟨rfl, -, rfl⟩ := e
      exact notB h1 (by decide)
  · rw [ho.cellAt t (by omega)]
    simp [ptrs, ht]
theorem app_olds {w : World} {b : Nat} {xs : List Int} (h : ∀ j, j < xs.length → w.cell? ⟨b, 0 + j, none⟩ = some (.int .u8 (xs.getD j 0))) :
    ∀ c, some (⟨b, 0, none⟩ : Addr) = some c → ∀ j u, (xs.map (Value.int .u8))[j]? = some u → w.cell? (c.add j) = some u := by
  intro c hc j u hu
  simp only [Option.some.injEq] at hc
  subst hc
  have hj : j < xs.length := by
    have := (List.getElem?_eq_some_iff.1 hu).1
    simpa using this
  rw [Addr.add_lit, h j hj, getD_at hj]
  rw [List.getElem?_map, List.getElem?_eq_getElem hj] at hu
  simpa using hu
theorem app_new {w : World} {b : Nat} {n : Int} (h : ∀ j, j < [n].length → w.cell? ⟨b, 0 + j, none⟩ = some (.int .u8 ([n].getD j 0))) :
    ∀ j u, ([.int .u8 n] : List Value)[j]? = some u → w.cell? ((⟨b, 0, none⟩ : Addr).add j) = some u := by
  intro j u hu
  cases j with
  | zero => simp at hu; subst hu; rw [Addr.add_lit]; exact h 0 (by simp)
  | succ j => simp at hu
theorem nums_take (e : Ev) (l : List Nat) (t : Nat) (h : t < l.length) : numsL e (l.take t) ++ putL (e.at l[t]) = numsL e (l.take (t + 1)) := by
  rw [numsL, numsL, List.take_succ_eq_append_getElem h, List.flatMap_append]
  simp
theorem numsL_len (e : Ev) (l : List Nat) : (numsL e l).length ≤ l.length * 6 := by
  induction l with
  | nil => simp [numsL]
  | cons x l ih =>
    have := (putL_len (e.at x)).2
    rw [numsL, List.flatMap_cons, List.length_append, List.length_cons]
    rw [numsL] at ih
    omega
theorem offs_len (k : Int) : (offs k).length ≤ 7 := by rw [← offK_all]; exact offK_len k 6

/-- 'append' of one byte to a slice that has no room. -/
theorem appFull (w : World) {ops : Array Oper} {rest : List Oper} {o : Oper} {a : Act} {Q : Exit → Act → World → Prop} (hgd : o.guard = none) (s x : Operand)
    (ho : o.op = .call { callee := .builtin .append, args := #[s, x], argTypes := #[22, 22] })
    (b : Nat) (xs : List Int) (n : Int) (hs : a.eval s = .slice (some ⟨b, 0, none⟩) xs.length xs.length) (h : ReadsB w (some ⟨b, 0, none⟩) xs) (hx0 : 0 < xs.length)
    (b1 : Nat) (hx : a.eval x = .slice (some ⟨b1, 0, none⟩) 1 1) (hm : ReadsB w (some ⟨b1, 0, none⟩) [n]) (hl : xs.length ≤ 4294960000)
    (hK : ∀ v' w', OwnBS w' w.heap.size v' (xs ++ [n]) → Fr w w' → wpList Tryd.prog ops Q rest (a.put o.dst v') w') : wpList Tryd.prog ops Q (o :: rest) a w := by
  obtain ⟨i0, hi, hz0, hz1, hz2⟩ := info_parts Tryd.info5
  obtain ⟨b1', off1, e1, hc1⟩ := hm.at_ 0 (by simp)
  simp only [Option.some.injEq, Addr.mk.injEq, and_true] at e1
  obtain ⟨rfl, rfl⟩ := e1
  obtain ⟨b2, off2, e2, hc2⟩ := h.at_ 0 hx0
  simp only [Option.some.injEq, Addr.mk.injEq, and_true] at e2
  obtain ⟨rfl, rfl⟩ := e2
  refine wpList_append_grows _ hgd s x 22 ho 5 i0 (.int .u8 0) 1 1 Tryd.underlying22 hi hz0 hz1 hz2 rfl (by decide) (some ⟨b, 0, none⟩) xs.length xs.length (xs.map (Value.int .u8)) hs (by simp) (by simp) (app_olds hc2) ⟨b1, 0, none⟩ 1 1 [.int .u8 n] hx (by simp) (app_new hc1) (by intro u hu; simp at hu; subst hu; rfl) (by omega) (by unfold maxLen; omega) (by omega) ?_
  intro v1 w4 hv1 hg1
  refine hK v1 w4 ?_ hg1
  have hv2 : w4.ownsRow w.heap.size 5 1 v1 (xs ++ [n]).length ((xs ++ [n]).map (Value.int .u8)) := by simpa using hv1
  refine shapeB_of hv2 ?_ (by simp; omega) ?_
  · rintro rfl
    rcases hv1.2 with ⟨e, e'⟩ | ⟨g, cap, cur, e, _⟩
    · omega
    · simp at e
  · intro y hy
    rcases List.mem_append.1 hy with hy | hy
    · exact h.bd y hy
    · exact hm.bd y hy

set_option maxHeartbeats 1000000 in
/-- A small number behind a slice that has no room and is not the call's own. -/
theorem withNumber_full (n : Int) (b : Nat) (xs : List Int) (w : World) (h0 : 0 ≤ n) (h1 : n < 128) (h : ReadsB w (some ⟨b, 0, none⟩) xs) (hl : xs.length ≤ 4294960000) (hx0 : 0 < xs.length) :
    Calls Tryd.prog 64 #[.slice (some ⟨b, 0, none⟩) xs.length xs.length, .int .i64 n] w fun e w' => ∃ v', e = .returned v' ∧ OwnBS w' w.heap.size v' (xs ++ putL n) ∧ Fr w w' := by
  have hp : putL n = [n] := putF_small h1
  rw [hp]
  clear hp
  have f1 := Fr.alloc w (.cells #[.int .u8 n] 5)
  have hm := readsB_one w n ⟨by omega, by omega⟩
  go_enter Tryd.func64, Tryd.ntmps64
  go_wp2_with fail
  refine wp_loop_rounds 1 ?_
  rw [rounds_succ]
  go_wp2_with (at_builtin; refine appFull _ rfl _ _ rfl b xs n rfl (h.fr f1) hx0 w.heap.size rfl hm hl ?_; intro v1 w4 hv1 hg1)
  go_ret
  exact ⟨v1, rfl, hv1.lower f1.size, f1.trans hg1⟩

set_option maxHeartbeats 2000000 in
theorem withEvent_of (e : Ev) (v : Value) (base : Nat) (xs : List Int) (w : World) (hok : evOk e = true)
    (hN : ∀ u, Fr w u → Calls Tryd.prog 64 #[v, .int .i64 e.k] u fun x w' => ∃ v', x = .returned v' ∧ OwnBS w' base v' (xs ++ putL e.k) ∧ FrB base u w')
    (hl : xs.length ≤ 4294000000) (hb : base ≤ w.heap.size) (hg : 0 < base) (hs : Shapes w) :
    Calls Tryd.prog 27 #[v, .agg #[.int .i64 e.k, .int .i64 e.g, .int .i64 e.o, .int .i64 e.w, .int .i64 e.l, .int .i64 e.s, .int .i64 e.f, .int .i64 e.t]] w fun x w' => ∃ v', x = .returned v' ∧ OwnBS w' base v' (xs ++ evL e) ∧ FrB base w w' := by
  have he := (ok_at hok).1
  have hkk : inB 1 22 e.k = true := by
    simp only [evOk, Bool.and_eq_true] at hok
    exact hok.1.1.1.1.1.1.1
  obtain ⟨n, hn, hkn⟩ := kinds hkk
  have HK : Hid (e.k = (n : Int) + 1) := hkn
  clear hkn
  have hk0 : 0 ≤ e.k ∧ e.k ≤ 65535 := he 0
  clear hok hkk
  have hE := EvB.new w e
  have f1 := Fr.alloc w (.cells #[.int .i64 e.k, .int .i64 e.g, .int .i64 e.o, .int .i64 e.w, .int .i64 e.l, .int .i64 e.s, .int .i64 e.f, .int .i64 e.t] 49)
  have hE0 := hE.at.1
  have cN := hN _ f1
  go_enter Tryd.func27, Tryd.ntmps27
  go_wp2_with fail
  refine cN.mono ?_
  rintro x w2 ⟨v2, rfl, o2, fb2⟩
  have hE2 : EvB w2 w.heap.size e := (fb2.block _ hE.lt (.inr (notB hE (by decide)))).trans hE
  have hs2 : Shapes w2 := (hs.fr f1).frB fb2 hg
  have fB := (f1.toB base).trans fb2
  clear cN hE hE0 f1
  have hk2 := hE2.at.1
  rw [HK.out] at hk2
  have cP := partsOf_any w.heap.size n hn w2 hs2 hk2
  rw [← HK.out] at cP
  have hofl := offs_len e.k
  have hofi := (offs_in (k := e.k)).1
  have HL : Hid (evL e = putL e.k ++ numsL e (offs e.k)) := rfl
  have hp6 := (putL_len e.k).2
  obtain ⟨os, hos⟩ : ∃ os, os = offs e.k := ⟨_, rfl⟩
  rw [← hos] at cP hofl hofi HL
  clear hos hk2 fb2
  go_wp2_with fail
  refine cP.mono ?_
  rintro x w3 ⟨v3, rfl, o3, f3⟩
  obtain ⟨gp, cp, rfl, -, gpl, gpn, hcp⟩ := o3.open
  have hE3 : EvB w3 w.heap.size e := hE2.keep f3 (by simp)
  have o2 := o2.fr f3
  have fB := fB.trans (f3.toB base)
  clear cP hE2 f3
  go_wp2_with fail
  go_loopw [0, 13] (fun u i wr => ∃ t : Nat, t ≤ os.length ∧ i = .int .i64 t ∧ OwnBS wr base u ((xs ++ putL e.k) ++ numsL e (os.take t)) ∧ FrB base w3 wr) (fun _ i _ => os.length - (intOf i).toNat)
  case atStart => exact ⟨0, Nat.zero_le _, rfl, by simpa [numsL] using o2, FrB.refl _ _⟩
  case round =>
    obtain ⟨t, ht, rfl, ho, hf⟩ := hrel
    by_cases hlt : t < os.length
    · have hct := hf.cell (hcp t hlt) (.inr gpn)
      have hoi := hofi _ (List.getElem_mem hlt)
      have hE4 : EvB wr w.heap.size e := (hf.block _ hE3.lt (.inr (notB hE3 (by decide)))).trans hE3
      have hcv := hE4.at.at os[t] hoi.2
      have hvr := he os[t]
      have HX : Hid (numsL e (os.take t) ++ putL (e.at os[t]) = numsL e (os.take (t + 1))) := nums_take e os t hlt
      have hnl := numsL_len e (os.take t)
      have htl : (os.take t).length ≤ 7 := by simp; omega
      obtain ⟨o, hoo⟩ : ∃ o, o = os[t] := ⟨_, rfl⟩
      rw [← hoo] at hct hcv hvr HX
      clear hoo hoi
      obtain ⟨z, hz⟩ : ∃ z, z = e.at o := ⟨_, rfl⟩
      rw [← hz] at hcv hvr HX
      clear hz
      have hle : ((xs ++ putL e.k) ++ numsL e (os.take t)).length ≤ 4294960000 := by
        rw [List.length_append, List.length_append]; omega
      have cN := withNumber_any z u0 base _ wr hvr.1 (by omega) ho hle (by have := hf.size; have := fB.size; omega)
      rw [List.append_assoc, HX.out] at cN
      go_wp2_with fail
      refine (cN).mono ?_
      rintro e w5 ⟨v5, rfl, o5, f5⟩
      go_wp2_with fail
      go_roundw
      case rel => exact ⟨t + 1, by omega, by go_num, o5, hf.trans f5⟩
      case measure => simp [intOf]; omega
    · rw [List.take_of_length_le (by omega), List.append_assoc, ← HL.out] at ho
      go_wp2_with fail
      go_ret
      exact ⟨_, rfl, ho, fB.trans hf⟩

theorem kind_small {e : Ev} (hok : evOk e = true) : 1 ≤ e.k ∧ e.k ≤ 22 := by
  simp only [evOk, Bool.and_eq_true] at hok
  exact inB_true hok.1.1.1.1.1.1.1

theorem withEvent_any (e : Ev) (v : Value) (base : Nat) (xs : List Int) (w : World) (hok : evOk e = true) (h : OwnBS w base v xs) (hl : xs.length ≤ 4294000000) (hb : base ≤ w.heap.size) (hg : 0 < base) (hs : Shapes w) :
    Calls Tryd.prog 27 #[v, .agg #[.int .i64 e.k, .int .i64 e.g, .int .i64 e.o, .int .i64 e.w, .int .i64 e.l, .int .i64 e.s, .int .i64 e.f, .int .i64 e.t]] w fun x w' => ∃ v', x = .returned v' ∧ OwnBS w' base v' (xs ++ evL e) ∧ FrB base w w' := by
  have hk := kind_small hok
  exact withEvent_of e v base xs w hok (fun u hu => withNumber_any e.k v base xs u (by omega) (by omega) (h.fr hu) (by omega) (by have := hu.size; omega)) hl hb hg hs

theorem withEvent_full (e : Ev) (b : Nat) (base : Nat) (xs : List Int) (w : World) (hok : evOk e = true) (h : ReadsB w (some ⟨b, 0, none⟩) xs) (hl : xs.length ≤ 4294000000) (hx0 : 0 < xs.length) (hb : base ≤ w.heap.size) (hg : 0 < base) (hs : Shapes w) :
    Calls Tryd.prog 27 #[.slice (some ⟨b, 0, none⟩) xs.length xs.length, .agg #[.int .i64 e.k, .int .i64 e.g, .int .i64 e.o, .int .i64 e.w, .int .i64 e.l, .int .i64 e.s, .int .i64 e.f, .int .i64 e.t]] w fun x w' => ∃ v', x = .returned v' ∧ OwnBS w' base v' (xs ++ evL e) ∧ FrB base w w' := by
  have hk := kind_small hok
  exact withEvent_of e _ base xs w hok (fun u hu => (withNumber_full e.k b xs u (by omega) (by omega) (h.fr hu) (by omega) hx0).mono (fun x w' ⟨v', hv, ho, hf⟩ => ⟨v', hv, ho.lower (by have := hu.size; omega), hf.toB base⟩)) hl hb hg hs
end Go.Proofs.YtnekojcgbokhpaaDoor
