/-
  The program's Encoded: withEvent, Encoded.
-/
import Derived.Test.YthjnhfcncinhiaaDoorPackAL
import Derived.ArgAppend
import Derived.Lib.SlBytesConst
import Derived.Test.YthjnhfcncinhiaaDoorPackAB
import Derived.Test.YthjnhfcncinhiaaDoorPackAK
namespace Go.Proofs.YthjnhfcncinhiaaDoor
open Go.RowKit

theorem FrB.cell {base : Nat} {w w' : World} (h : FrB base w w') {b o : Nat} {v : Value} (hc : w.cell? ⟨b, o, none⟩ = some v) (hb : b < base ∨ ¬ isB w b) : w'.cell? ⟨b, o, none⟩ = some v := by
  have hl := World.block_lt_of_cell? w _ hc
  rw [← hc]
  simp only [World.cell?]
  rw [h.block b hl hb]
theorem notB {w : World} {b : Nat} {c : Array Value} {t : TypeId} {f : Nat × Nat} (h : w.heap[b]? = some (.cells c t f)) (ht : t ≠ 5) : ¬ isB w b := by
  rintro ⟨cur, fz, e⟩
  rw [h] at e
  simp only [Option.some.injEq, Obj.cells.injEq] at e
  exact ht e.2.1
theorem Shapes.frB {base : Nat} {w w' : World} (h : Shapes w) (k : FrB base w w') (hb : 0 < base) : Shapes w' := fun n hn => by
  obtain ⟨h1, h2, h3⟩ := h n hn
  exact ⟨k.cell h1 (.inl hb), k.cell h2 (.inl hb), k.cell h3 (.inl hb)⟩
theorem Shapes.lt {w : World} (h : Shapes w) : 0 < w.heap.size := World.block_lt_of_cell? w _ (h 0 (by omega)).1
theorem EvAt.at {w : World} {b : Nat} {e : Ev} (h : EvAt w b e) (o : Nat) (ho : o < 8) : w.cell? ⟨b, o, none⟩ = some (.int .i64 (e.at o)) := by
  obtain ⟨c0, c1, c2, c3, c4, c5, c6, c7⟩ := h
  rcases (by omega : o = 0 ∨ o = 1 ∨ o = 2 ∨ o = 3 ∨ o = 4 ∨ o = 5 ∨ o = 6 ∨ o = 7) with rfl | rfl | rfl | rfl | rfl | rfl | rfl | rfl
  · exact c0
  · exact c1
  · exact c2
  · exact c3
  · exact c4
  · exact c5
  · exact c6
  · exact c7
theorem OwnP.open {w : World} {base b : Nat} {v : Value} {os : List Nat} (h : OwnP w base v (ptrs b os)) :
    ∃ g cap, v = .slice (some ⟨g, 0, none⟩) os.length cap ∧ base ≤ g ∧ g < w.heap.size ∧ ¬ isB w g ∧ ∀ t (ht : t < os.length), w.cell? ⟨g, t, none⟩ = some (.pointer (some ⟨b, os[t], none⟩)) := by
  obtain ⟨g, cap, rfl, ho⟩ := h
  have hl : (ptrs b os).length = os.length := by simp [ptrs]
  refine ⟨g, cap, by rw [hl], (ho.lt g rfl).1, (ho.lt g rfl).2, ?_, fun t ht => ?_⟩
  · rcases ho.2 with ⟨e, _⟩ | ⟨g', c', cur, e, _, h1, _⟩
    · simp at e
    · simp only [Value.slice.injEq, Option.some.injEq, Addr.mk.injEq, and_true] at e
      obtain ⟨rfl, -, rfl⟩ := e
      exact notB h1 (by decide)
  · rw [ho.cellAt t (by omega)]
    simp [ptrs, ht]
theorem app_olds {w : World} {b : Nat} {xs : List Int} (h : ∀ j, j < xs.length → w.cell? ⟨b, 0 + j, none⟩ = some (.int .u8 (xs.getD j 0))) :
    ∀ c, some (⟨b, 0, none⟩ : Addr) = some c → ∀ j u, (xs.map (Value.int .u8))[j]? = some u → w.cell? (c.add j) = some u := by
  intro c hc j u hu
  simp only [Option.some.injEq] at hc
  subst hc
  have hj : j < xs.length := by
    have := (List.getElem?_eq_some_iff.1 hu).1
    simpa using this
  rw [Addr.add_lit, h j hj, getD_at hj]
  rw [List.getElem?_map, List.getElem?_eq_getElem hj] at hu
  simpa using hu
theorem app_new {w : World} {b : Nat} {n : Int} (h : ∀ j, j < [n].length → w.cell? ⟨b, 0 + j, none⟩ = some (.int .u8 ([n].getD j 0))) :
    ∀ j u, ([.int .u8 n] : List Value)[j]? = some u → w.cell? ((⟨b, 0, none⟩ : Addr).add j) = some u := by
  intro j u hu
  cases j with
  | zero => simp at hu; subst hu; rw [Addr.add_lit]; exact h 0 (by simp)
  | succ j => simp at hu
theorem nums_take (e : Ev) (l : List Nat) (t : Nat) (h : t < l.length) : numsL e (l.take t) ++ putL (e.at l[t]) = numsL e (l.take (t + 1)) := by
  rw [numsL, numsL, List.take_succ_eq_append_getElem h, List.flatMap_append]
  simp
theorem numsL_len (e : Ev) (l : List Nat) : (numsL e l).length ≤ l.length * 6 := by
  induction l with
  | nil => simp [numsL]
  | cons x l ih =>
    have := (putL_len (e.at x)).2
    rw [numsL, List.flatMap_cons, List.length_append, List.length_cons]
    rw [numsL] at ih
    omega
theorem offs_len (k : Int) : (offs k).length ≤ 7 := by rw [← offK_all]; exact offK_len k 6

/-- 'append' of one byte to a slice that has no room. -/
theorem appFull (w : World) {ops : Array Oper} {rest : List Oper} {o : Oper} {a : Act} {Q : Exit → Act → World → Prop} (hgd : o.guard = none) (s x : Operand)
    (ho : o.op = .call { callee := .builtin .append, args := #[s, x], argTypes := #[22, 22] })
    (b : Nat) (xs : List Int) (n : Int) (hs : a.eval s = .slice (some ⟨b, 0, none⟩) xs.length xs.length) (h : ReadsB w (some ⟨b, 0, none⟩) xs) (hx0 : 0 < xs.length)
    (b1 : Nat) (hx : a.eval x = .slice (some ⟨b1, 0, none⟩) 1 1) (hm : ReadsB w (some ⟨b1, 0, none⟩) [n]) (hl : xs.length ≤ 4294960000)
    (hK : ∀ v' w', OwnBS w' w.heap.size v' (xs ++ [n]) → Fr w w' → wpList Tryd.prog ops Q rest (a.put o.dst v') w') : wpList Tryd.prog ops Q (o :: rest) a w := by
  obtain ⟨i0, hi, hz0, hz1, hz2⟩ := info_parts Tryd.info5
  obtain ⟨b1', off1, e1, hc1⟩ := hm.at_ 0 (by simp)
  simp only [Option.some.injEq, Addr.mk.injEq, and_true] at e1
  obtain ⟨rfl, rfl⟩ := e1
  obtain ⟨b2, off2, e2, hc2⟩ := h.at_ 0 hx0
  simp only [Option.some.injEq, Addr.mk.injEq, and_true] at e2
  obtain ⟨rfl, rfl⟩ := e2
  refine wpList_append_grows _ hgd s x 22 ho 5 i0 (.int .u8 0) 1 1 Tryd.underlying22 hi hz0 hz1 hz2 rfl (by decide) (some ⟨b, 0, none⟩) xs.length xs.length (xs.map (Value.int .u8)) hs (by simp) (by simp) (app_olds hc2) ⟨b1, 0, none⟩ 1 1 [.int .u8 n] hx (by simp) (app_new hc1) (by intro u hu; simp at hu; subst hu; rfl) (by omega) (by unfold maxLen; omega) (by omega) ?_
  intro v1 w4 hv1 hg1
  refine hK v1 w4 ?_ hg1
  have hv2 : w4.ownsRow w.heap.size 5 1 v1 (xs ++ [n]).length ((xs ++ [n]).map (Value.int .u8)) := by simpa using hv1
  refine shapeB_of hv2 ?_ (by simp; omega) ?_
  · rintro rfl
    rcases hv1.2 with ⟨e, e'⟩ | ⟨g, cap, cur, e, _⟩
    · omega
    · simp at e
  · intro y hy
    rcases List.mem_append.1 hy with hy | hy
    · exact h.bd y hy
    · exact hm.bd y hy

set_option maxHeartbeats 1000000 in
/-- A small number behind a slice that has no room and is not the call's own. -/
theorem withNumber_full (n : Int) (b : Nat) (xs : List Int) (w : World) (h0 : 0 ≤ n) (h1 : n < 128) (h : ReadsB w (some ⟨b, 0, none⟩) xs) (hl : xs.length ≤ 4294960000) (hx0 : 0 < xs.length) :
    Calls Tryd.prog 36 #[.slice (some ⟨b, 0, none⟩) xs.length xs.length, .int .i64 n] w fun e w' => ∃ v', e = .returned v' ∧ OwnBS w' w.heap.size v' (xs ++ putL n) ∧ Fr w w' := by
  have hp : putL n = [n] := putF_small h1
  rw [hp]
  clear hp
  have f1 := Fr.alloc w (.cells #[.int .u8 n] 5)
  have hm := readsB_one w n ⟨by omega, by omega⟩
  go_enter Tryd.func36, Tryd.ntmps36
  go_wp2_with fail
  refine wp_loop_rounds 1 ?_
  rw [rounds_succ]
  go_wp2_with (at_builtin; refine appFull _ rfl _ _ rfl b xs n rfl (h.fr f1) hx0 w.heap.size rfl hm hl ?_; intro v1 w4 hv1 hg1)
  go_ret
  exact ⟨v1, rfl, hv1.lower f1.size, f1.trans hg1⟩

set_option maxHeartbeats 2000000 in
theorem withEvent_of (e : Ev) (v : Value) (base : Nat) (xs : List Int) (w : World) (hok : evOk e = true)
    (hN : ∀ u, Fr w u → Calls Tryd.prog 36 #[v, .int .i64 e.k] u fun x w' => ∃ v', x = .returned v' ∧ OwnBS w' base v' (xs ++ putL e.k) ∧ FrB base u w')
    (hl : xs.length ≤ 4294000000) (hb : base ≤ w.heap.size) (hg : 0 < base) (hs : Shapes w) :
    Calls Tryd.prog 20 #[v, .agg #[.int .i64 e.k, .int .i64 e.g, .int .i64 e.o, .int .i64 e.w, .int .i64 e.l, .int .i64 e.s, .int .i64 e.f, .int .i64 e.t]] w fun x w' => ∃ v', x = .returned v' ∧ OwnBS w' base v' (xs ++ evL e) ∧ FrB base w w' := by
  have he := (ok_at hok).1
  have hkk : inB 1 22 e.k = true := by
    simp only [evOk, Bool.and_eq_true] at hok
    exact hok.1.1.1.1.1.1.1
  obtain ⟨n, hn, hkn⟩ := kinds hkk
  have HK : Hid (e.k = (n : Int) + 1) := hkn
  clear hkn
  have hk0 : 0 ≤ e.k ∧ e.k ≤ 65535 := he 0
  clear hok hkk
  have hE := EvB.new w e
  have f1 := Fr.alloc w (.cells #[.int .i64 e.k, .int .i64 e.g, .int .i64 e.o, .int .i64 e.w, .int .i64 e.l, .int .i64 e.s, .int .i64 e.f, .int .i64 e.t] 38)
  have hE0 := hE.at.1
  have cN := hN _ f1
  go_enter Tryd.func20, Tryd.ntmps20
  go_wp2_with fail
  refine cN.mono ?_
  rintro x w2 ⟨v2, rfl, o2, fb2⟩
  have hE2 : EvB w2 w.heap.size e := (fb2.block _ hE.lt (.inr (notB hE (by decide)))).trans hE
  have hs2 : Shapes w2 := (hs.fr f1).frB fb2 hg
  have fB := (f1.toB base).trans fb2
  clear cN hE hE0 f1
  have hk2 := hE2.at.1
  rw [HK.out] at hk2
  have cP := partsOf_any w.heap.size n hn w2 hs2 hk2
  rw [← HK.out] at cP
  have hofl := offs_len e.k
  have hofi := (offs_in (k := e.k)).1
  have HL : Hid (evL e = putL e.k ++ numsL e (offs e.k)) := rfl
  have hp6 := (putL_len e.k).2
  obtain ⟨os, hos⟩ : ∃ os, os = offs e.k := ⟨_, rfl⟩
  rw [← hos] at cP hofl hofi HL
  clear hos hk2 fb2
  go_wp2_with fail
  refine cP.mono ?_
  rintro x w3 ⟨v3, rfl, o3, f3⟩
  obtain ⟨gp, cp, rfl, -, gpl, gpn, hcp⟩ := o3.open
  have hE3 : EvB w3 w.heap.size e := hE2.keep f3 (by simp)
  have o2 := o2.fr f3
  have fB := fB.trans (f3.toB base)
  clear cP hE2 f3
  go_wp2_with fail
  go_loopw [0, 13] (fun u i wr => ∃ t : Nat, t ≤ os.length ∧ i = .int .i64 t ∧ OwnBS wr base u ((xs ++ putL e.k) ++ numsL e (os.take t)) ∧ FrB base w3 wr) (fun _ i _ => os.length - (intOf i).toNat)
  case atStart => exact ⟨0, Nat.zero_le _, rfl, by simpa [numsL] using o2, FrB.refl _ _⟩
  case round =>
    obtain ⟨t, ht, rfl, ho, hf⟩ := hrel
    by_cases hlt : t < os.length
    · have hct := hf.cell (hcp t hlt) (.inr gpn)
      have hoi := hofi _ (List.getElem_mem hlt)
      have hE4 : EvB wr w.heap.size e := (hf.block _ hE3.lt (.inr (notB hE3 (by decide)))).trans hE3
      have hcv := hE4.at.at os[t] hoi.2
      have hvr := he os[t]
      have HX : Hid (numsL e (os.take t) ++ putL (e.at os[t]) = numsL e (os.take (t + 1))) := nums_take e os t hlt
      have hnl := numsL_len e (os.take t)
      have htl : (os.take t).length ≤ 7 := by simp; omega
      obtain ⟨o, hoo⟩ : ∃ o, o = os[t] := ⟨_, rfl⟩
      rw [← hoo] at hct hcv hvr HX
      clear hoo hoi
      obtain ⟨z, hz⟩ : ∃ z, z = e.at o := ⟨_, rfl⟩
      rw [← hz] at hcv hvr HX
      clear hz
      have hle : ((xs ++ putL e.k) ++ numsL e (os.take t)).length ≤ 4294960000 := by
        rw [List.length_append, List.length_append]; omega
      have cN := withNumber_any z u0 base _ wr hvr.1 (by omega) ho hle (by have := hf.size; have := fB.size; omega)
      rw [List.append_assoc, HX.out] at cN
      go_wp2_with fail
      refine (cN).mono ?_
      rintro e w5 ⟨v5, rfl, o5, f5⟩
      go_wp2_with fail
      go_roundw
      case rel => exact ⟨t + 1, by omega, by go_num, o5, hf.trans f5⟩
      case measure => simp [intOf]; omega
    · rw [List.take_of_length_le (by omega), List.append_assoc, ← HL.out] at ho
      go_wp2_with fail
      go_ret
      exact ⟨_, rfl, ho, fB.trans hf⟩

theorem kind_small {e : Ev} (hok : evOk e = true) : 1 ≤ e.k ∧ e.k ≤ 22 := by
  simp only [evOk, Bool.and_eq_true] at hok
  exact inB_true hok.1.1.1.1.1.1.1

theorem withEvent_any (e : Ev) (v : Value) (base : Nat) (xs : List Int) (w : World) (hok : evOk e = true) (h : OwnBS w base v xs) (hl : xs.length ≤ 4294000000) (hb : base ≤ w.heap.size) (hg : 0 < base) (hs : Shapes w) :
    Calls Tryd.prog 20 #[v, .agg #[.int .i64 e.k, .int .i64 e.g, .int .i64 e.o, .int .i64 e.w, .int .i64 e.l, .int .i64 e.s, .int .i64 e.f, .int .i64 e.t]] w fun x w' => ∃ v', x = .returned v' ∧ OwnBS w' base v' (xs ++ evL e) ∧ FrB base w w' := by
  have hk := kind_small hok
  exact withEvent_of e v base xs w hok (fun u hu => withNumber_any e.k v base xs u (by omega) (by omega) (h.fr hu) (by omega) (by have := hu.size; omega)) hl hb hg hs

theorem withEvent_full (e : Ev) (b : Nat) (base : Nat) (xs : List Int) (w : World) (hok : evOk e = true) (h : ReadsB w (some ⟨b, 0, none⟩) xs) (hl : xs.length ≤ 4294000000) (hx0 : 0 < xs.length) (hb : base ≤ w.heap.size) (hg : 0 < base) (hs : Shapes w) :
    Calls Tryd.prog 20 #[.slice (some ⟨b, 0, none⟩) xs.length xs.length, .agg #[.int .i64 e.k, .int .i64 e.g, .int .i64 e.o, .int .i64 e.w, .int .i64 e.l, .int .i64 e.s, .int .i64 e.f, .int .i64 e.t]] w fun x w' => ∃ v', x = .returned v' ∧ OwnBS w' base v' (xs ++ evL e) ∧ FrB base w w' := by
  have hk := kind_small hok
  exact withEvent_of e _ base xs w hok (fun u hu => (withNumber_full e.k b xs u (by omega) (by omega) (h.fr hu) (by omega) hx0).mono (fun x w' ⟨v', hv, ho, hf⟩ => ⟨v', hv, ho.lower (by have := hu.size; omega), hf.toB base⟩)) hl hb hg hs
end Go.Proofs.YthjnhfcncinhiaaDoor
/-
  The program's Encoded.
-/
namespace Go.Proofs.YthjnhfcncinhiaaDoor
open Go.RowKit

/-- The three bytes of a constant: one place behind them is marked. -/
def HdM (w : World) (g : Nat) : Prop := w.heap[g]? = some (.cells #[.int .u8 82, .int .u8 50, .int .u8 49] 5 (3, 4))
theorem HdM.lt {w : World} {g : Nat} (h : HdM w g) : g < w.heap.size := (Array.getElem?_eq_some_iff.1 h).1
theorem HdM.keep {w w' : World} {g : Nat} {row : Option Nat} (h : HdM w g) (k : w.grownBy w' row) (hr : row ≠ some g) : HdM w' g := (k.block g h.lt (fun q => hr q.symm)).trans h
theorem HdM.fr {w w' : World} {g : Nat} (h : HdM w g) (k : Fr w w') : HdM w' g := h.keep k (by simp)
theorem HdM.reads {w : World} {g : Nat} (h : HdM w g) : ReadsB w (some ⟨g, 0, none⟩) [82, 50, 49] := by
  refine ⟨by simp, head_u8, fun i _ => ⟨g, 0, rfl, fun j hj => ?_⟩⟩
  rw [cell_of_row _ _ _ _ _ _ h]
  simp at hj
  rcases (by omega : j = 0 ∨ j = 1 ∨ j = 2) with rfl | rfl | rfl <;> rfl

/-- What Encoded answers: a slice of its own; of no events the constant's. -/
def EncR (es : List Ev) (w w' : World) (v : Value) : Prop :=
  OwnBS w' w.heap.size v (encA es) ∨ (es = [] ∧ ∃ g, v = .slice (some ⟨g, 0, none⟩) 3 3 ∧ w.heap.size ≤ g ∧ HdM w' g)

set_option maxHeartbeats 2000000 in
theorem implEnc_any (ao : Option Addr) (n cap : Nat) (es : List Ev) (w : World) (hn : es.length = n) (h : ReadsE w ao es) (hs : Shapes w) :
    Calls Tryd.prog 7 #[.slice ao n cap] w fun e w' => ∃ v, e = .returned (.tuple #[v, .bool (encB es)]) ∧ EncR es w w' v ∧ Fr w w' := by
  subst hn
  have hl := h.len
  have hg := hs.lt
  by_cases h3 : es.length ≤ 300
  · have HO : Hid (encB es = okL es) := by
      show _ = _
      rw [encB, okL]; simp [h3]
    have kc := fun (w : World) (C : Array Value) (n c : Nat) => Lib.run_convert_bytes_const (P := Tryd.prog) w 22 5 C n c Tryd.underlying22 Tryd.underlying5
    go_enter Tryd.func7, Tryd.ntmps7
    go_wp2_with fail
    clear kc
    go_loopw [4, 15] (fun u i wr => ∃ k : Nat, k ≤ es.length ∧ i = .int .i64 k ∧ ((k = 0 ∧ u = .slice (some ⟨w.heap.size, 0, none⟩) 3 3 ∧ HdM wr w.heap.size) ∨ (0 < k ∧ OwnBS wr w.heap.size u ([82, 50, 49] ++ (es.take k).flatMap evL))) ∧ Hid (okL (es.take k) = true) ∧ Fr w wr) (fun _ i _ => es.length - (intOf i).toNat)
    case atStart => exact ⟨0, Nat.zero_le _, rfl, .inl ⟨rfl, rfl, heap_alloc_new w _⟩, rfl, Fr.alloc _ _⟩
    case round =>
      obtain ⟨k, hk, rfl, ho, HK, hf⟩ := hrel
      have hs0 := hf.size
      by_cases hlt : k < es.length
      · obtain ⟨b, off, rfl, hc⟩ := (h.fr hf).at_ k hlt
        obtain ⟨c0, c1, c2, c3, c4, c5, c6, c7⟩ := hc k hlt
        have HS : Hid (([82, 50, 49] ++ (es.take k).flatMap evL) ++ evL es[k] = [82, 50, 49] ++ (es.take (k + 1)).flatMap evL) := enc_step es k hlt
        have HT : Hid (evOk es[k] = true → okL (es.take (k + 1)) = true) := okL_take es k hlt HK.out
        have HF : Hid (evOk es[k] = false → okL es = false) := okL_not es k hlt
        have hl1 := evs_len (es.take k)
        have hl2 : (es.take k).length ≤ 300 := by simp; omega
        obtain ⟨e, he⟩ : ∃ e, e = es[k] := ⟨_, rfl⟩
        rw [← he] at c0 c1 c2 c3 c4 c5 c6 c7 HS HT HF
        clear hc he
        have fE := Fr.alloc wr (.cells #[.int .i64 e.k, .int .i64 e.g, .int .i64 e.o, .int .i64 e.w, .int .i64 e.l, .int .i64 e.s, .int .i64 e.f, .int .i64 e.t] 38)
        have hB := EvB.new wr e
        have cO := implOk_any e _ (hs.fr (hf.trans fE))
        cases hx : evOk e
        · rw [hx] at cO
          have HE : Hid (encB es = false) := by
            show _ = _
            rw [HO.out, HF.out hx]
          clear hx hB
          go_wp2_with fail
          refine cO.mono ?_
          rintro x w5 ⟨rfl, f5⟩
          go_wp2_with fail
          go_ret2
          have f6 := (hf.trans fE).trans f5
          refine ⟨.slice (some ⟨w5.heap.size, 0, none⟩) 0 0, ?_, ?_, f6.trans (Fr.alloc w5 _)⟩
          · rw [HE.out]; rfl
          · refine .inl ?_
            rw [encA, HE.out]
            exact (ownB_new w5).lower f6.size
        · rw [hx] at cO
          have HT2 : Hid (okL (es.take (k + 1)) = true) := HT.out hx
          have cW : ∀ w5, Fr wr w5 → Calls Tryd.prog 20 #[u4, .agg #[.int .i64 e.k, .int .i64 e.g, .int .i64 e.o, .int .i64 e.w, .int .i64 e.l, .int .i64 e.s, .int .i64 e.f, .int .i64 e.t]] w5 fun x w' => ∃ v', x = .returned v' ∧ OwnBS w' w.heap.size v' ([82, 50, 49] ++ (es.take (k + 1)).flatMap evL) ∧ FrB w.heap.size w5 w' := by
            intro w5 f5
            rw [← HS.out]
            have hsz := f5.size
            rcases ho with ⟨rfl, rfl, hd⟩ | ⟨hk0, ho⟩
            · have := withEvent_full e w.heap.size w.heap.size [82, 50, 49] w5 hx (hd.fr f5).reads (by simp) (by simp) (by omega) hg (hs.fr (hf.trans f5))
              simpa using this
            · exact withEvent_any e u4 w.heap.size _ w5 hx (ho.fr f5) (by rw [List.length_append]; have : ([82, 50, 49] : List Int).length = 3 := rfl; omega) (by omega) hg (hs.fr (hf.trans f5))
          clear hx ho HS HT HF
          go_wp2_with fail
          refine cO.mono ?_
          rintro x w5 ⟨rfl, f5⟩
          have f6 := fE.trans f5
          have hB5 := (hB.keep f5 (by simp)).at
          obtain ⟨d0, d1, d2, d3, d4, d5, d6, d7⟩ := hB5
          go_wp2_with fail
          refine (cW w5 f6).mono ?_
          rintro x w6 ⟨v6, rfl, o6, fb6⟩
          go_wp2_with fail
          go_roundw
          case rel => exact ⟨k + 1, by omega, by go_num, .inr ⟨by omega, o6⟩, HT2, (hf.trans f6).thenB fb6 (Nat.le_refl _)⟩
          case measure => simp [intOf]; omega
      · have HE : Hid (encB es = true) := by
          show _ = _
          rw [HO.out]
          have := HK.out
          rwa [List.take_of_length_le (by omega)] at this
        have HR : Hid (EncR es w wr u4) := by
          rcases ho with ⟨rfl, rfl, hd⟩ | ⟨hk0, ho⟩
          · exact .inr ⟨List.eq_nil_of_length_eq_zero (by omega), w.heap.size, rfl, Nat.le_refl _, hd⟩
          · rw [List.take_of_length_le (by omega)] at ho
            refine .inl ?_
            rw [encA, HE.out]
            exact ho
        clear ho
        go_wp2_with fail
        go_ret2
        refine ⟨u4, ?_, HR.out, hf⟩
        rw [HE.out]; rfl
  · have HE : Hid (encB es = false) := by
      show _ = _
      rw [encB]; simp [h3]
    go_enter Tryd.func7, Tryd.ntmps7
    go_wp2_with fail
    go_ret2
    refine ⟨.slice (some ⟨w.heap.size, 0, none⟩) 0 0, ?_, ?_, Fr.alloc w _⟩
    · rw [HE.out]; rfl
    · refine .inl ?_
      rw [encA, HE.out]
      exact ownB_new w
end Go.Proofs.YthjnhfcncinhiaaDoor
/-
  What the program's Encoded answers, under the laws' marks.
-/
namespace Go.Proofs.YthjnhfcncinhiaaDoor
open Go.RowKit

/-- A slice of bytes of one's own, or the constant's three. -/
def Mk (w : World) (g n cap : Nat) (J : List Int) : Prop := (n = J.length ∧ OwnB w 0 (.slice (some ⟨g, 0, none⟩) n cap) J) ∨ (n = 3 ∧ cap = 3 ∧ J = [82, 50, 49] ∧ HdM w g)

theorem Mk.reads {w : World} {g n cap : Nat} {J : List Int} (h : Mk w g n cap J) : ReadsB w (some ⟨g, 0, none⟩) J ∧ J.length = n := by
  rcases h with ⟨rfl, h⟩ | ⟨rfl, rfl, rfl, h⟩
  · exact ⟨h.reads, rfl⟩
  · exact ⟨h.reads, rfl⟩
theorem Mk.keep {w w' : World} {g n cap : Nat} {J : List Int} {row : Option Nat} (h : Mk w g n cap J) (k : w.grownBy w' row) (hr : row ≠ some g) : Mk w' g n cap J := by
  rcases h with ⟨rfl, h⟩ | ⟨rfl, rfl, rfl, h⟩
  · exact .inl ⟨rfl, h.keep k (.inr (by simpa [Value.ownBlock] using Ne.symm hr))⟩
  · exact .inr ⟨rfl, rfl, rfl, h.keep k hr⟩
theorem Mk.fr {w w' : World} {g n cap : Nat} {J : List Int} (h : Mk w g n cap J) (k : Fr w w') : Mk w' g n cap J := h.keep k (by simp)
theorem EncR.mk {es : List Ev} {w w' : World} {v : Value} (h : EncR es w w' v) : ∃ g n cap, v = .slice (some ⟨g, 0, none⟩) n cap ∧ w.heap.size ≤ g ∧ g < w'.heap.size ∧ Mk w' g n cap (encA es) := by
  rcases h with ⟨g, cap, rfl, h⟩ | ⟨rfl, g, rfl, hg, h⟩
  · exact ⟨g, _, cap, rfl, (ownB_lt h).1, (ownB_lt h).2, .inl ⟨rfl, h.lower (Nat.zero_le _)⟩⟩
  · exact ⟨g, 3, 3, rfl, hg, h.lt, .inr ⟨rfl, rfl, rfl, h⟩⟩

end Go.Proofs.YthjnhfcncinhiaaDoor
/-
  The program's reader: number.
-/
namespace Go.Proofs.YthjnhfcncinhiaaDoor
open Go.RowKit

/-- What number answers: the number and nil, the reader at its end; or 0 and a fault at the place where it began. -/
def NumC (bs : List Int) (i : Int) (r : Nat) (v : Value) (y : Addr) (w : World) (e : Ending) (w' : World) : Prop :=
  w.grownBy w' (some r) ∧
  ((∃ m q, rdV bs i = (m, q, true) ∧ e = .returned (.tuple #[.int .i64 m, .nilIface]) ∧ Rdr w' r v q) ∨
   (rdV bs i = (0, i, false) ∧ ∃ b j, e = .returned (.tuple #[.int .i64 0, .iface 78 (.pointer (some ⟨b, 0, none⟩))]) ∧ Flt w' b i (.iface 135 (.pointer (some y))) ∧ w.heap.size ≤ b ∧ Rdr w' r v j))

theorem RS.unit2 {bs : List Int} {s f p : Nat} {u acc : Int} (h : RS bs s (f + 1) p u acc) : u = 2 ^ ((5 - f) * 7) := by
  rw [h.unit, Nat.mul_comm, Int.pow_mul]
  congr 1
  omega

theorem or_nat (a x k : Nat) (ha : a < 2 ^ k) (hx : x ≤ 127) (hk : k ≤ 35) : bits .or .i64 (a : Int) ((x * 2 ^ k : Nat) : Int) = ((a + x * 2 ^ k : Nat) : Int) := by
  have h2 : 2 ^ k ≤ 2 ^ 35 := Nat.pow_le_pow_right (by omega) hk
  have h3 : x * 2 ^ k ≤ 127 * 2 ^ 35 := Nat.mul_le_mul hx h2
  have e1 : (BitVec.ofInt 64 (a : Int)).toNat = a := by rw [BitVec.toNat_ofInt]; omega
  have e2 : (BitVec.ofInt 64 ((x * 2 ^ k : Nat) : Int)).toNat = x * 2 ^ k := by rw [BitVec.toNat_ofInt]; omega
  have key : (BitVec.ofInt 64 (a : Int) ||| BitVec.ofInt 64 ((x * 2 ^ k : Nat) : Int)).toNat = a + x * 2 ^ k := by
    rw [BitVec.toNat_or, e1, e2, Nat.or_comm, ← Nat.shiftLeft_eq, ← Nat.shiftLeft_add_eq_or_of_lt ha, Nat.add_comm]
  show IntKind.i64.wrap ((BitVec.ofInt 64 (a : Int) ||| BitVec.ofInt 64 ((x * 2 ^ k : Nat) : Int)).toNat : Nat) = _
  rw [key, IntKind.wrap_i64]
  omega
theorem or_step {A U x : Int} {f : Nat} (h0 : 0 ≤ A) (h1 : A < U) (hU : U = 2 ^ ((5 - f) * 7)) (x0 : 0 ≤ x) (x1 : x ≤ 127) : bits .or .i64 A (wrap64 (x * 2 ^ ((5 - f) * 7))) = A + x * U := by
  obtain ⟨a, rfl⟩ : ∃ a : Nat, A = (a : Int) := ⟨A.toNat, by omega⟩
  obtain ⟨y, rfl⟩ : ∃ y : Nat, x = (y : Int) := ⟨x.toNat, by omega⟩
  have hk : (5 - f) * 7 ≤ 35 := by omega
  generalize (5 - f) * 7 = k at hU hk
  have eU : U = ((2 ^ k : Nat) : Int) := by rw [hU]; simp
  have e : (y : Int) * 2 ^ k = ((y * 2 ^ k : Nat) : Int) := by simp
  have h2 : 2 ^ k ≤ 2 ^ 35 := Nat.pow_le_pow_right (by omega) hk
  have h3 : y * 2 ^ k ≤ 127 * 2 ^ 35 := Nat.mul_le_mul (by omega) h2
  have ew : wrap64 ((y * 2 ^ k : Nat) : Int) = ((y * 2 ^ k : Nat) : Int) := by unfold wrap64; omega
  rw [e, ew, or_nat a y k (by omega) (by omega) hk, hU]
  simp

set_option maxHeartbeats 1000000 in
theorem number_any (r : Nat) (ao : Option Addr) (n cap : Nat) (bs : List Int) (i : Int) (y : Addr) (w : World) (hn : bs.length = n) (hi : I64 i) (h : ReadsB w ao bs) (hb : blk ao ≠ some r)
    (hr : Rdr w r (.slice ao n cap) i) (hy : w.cell? ⟨3, 0, none⟩ = some (.iface 135 (.pointer (some y)))) (hyr : r ≠ 3) :
    Calls Tryd.prog 58 #[.pointer (some ⟨r, 0, none⟩)] w (NumC bs i r (.slice ao n cap) y w) := by
  subst hn
  have hl := h.len
  have c1 := hr.c1
  by_cases hio : i < 0 ∨ (bs.length : Int) ≤ i
  · have HE : Hid (rdV bs i = (0, i, false)) := rdV_out hio
    have cm := more_any r ao bs.length cap i w hr
    rw [inB_not (by omega)] at cm
    clear hio
    go_enter Tryd.func58, Tryd.ntmps58
    go_wp2_with fail
    refine wp_loop_rounds 1 ?_
    rw [rounds_succ]
    go_wp2_with fail
    refine (cm).mono ?_
    rintro e w1 ⟨rfl, nq, rfl⟩
    have c2 : (w.drewN nq).cell? ⟨3, 0, none⟩ = some (.iface 135 (.pointer (some y))) := hy
    go_wp2_with fail
    go_region
    all_goals (try go_wp2)
    all_goals (
      go_ret2
      have f : Fr w ((w.drewN (nq + 1)).alloc (.cells #[.int .i64 i, .iface 135 (.pointer (some y))] 80)) := (Fr.drewN _ _).trans (Fr.alloc _ _)
      exact ⟨f.row _, .inr ⟨HE.out, w.heap.size, i, rfl, Flt.new (w.drewN (nq + 1)) _ _, Nat.le_refl _, hr.fr f⟩⟩)
  · obtain ⟨s, rfl⟩ : ∃ s : Nat, i = (s : Int) := ⟨i.toNat, by omega⟩
    have hsl : s < bs.length := by omega
    clear hio
    go_enter Tryd.func58, Tryd.ntmps58
    go_wp2_with fail
    go_loopw [5, 6] (fun a k wr => ∃ (f p : Nat) (U A : Int), a = .int .i64 A ∧ k = .int .i64 (6 - (f : Int)) ∧ f ≤ 6 ∧ s ≤ p ∧ p ≤ bs.length ∧ Hid (RS bs s f p U A) ∧ Rdr wr r (.slice ao bs.length cap) (p : Int) ∧ w.grownBy wr (some r)) (fun _ k _ => 6 - (intOf k).toNat)
    case atStart => exact ⟨6, s, 1, 0, rfl, rfl, by omega, Nat.le_refl _, by omega, RS.start bs s, hr, (Fr.refl w).row _⟩
    case round =>
      obtain ⟨f, p, U, A, rfl, rfl, hf6, hsp, hpl, HR, hrp, hg⟩ := hrel
      have hfp := HR.out.fp
      have hu := HR.out.unit_in
      have ha0 := HR.out.acc0
      have ha1 := HR.out.acc1
      have cm := more_any r ao bs.length cap p wr hrp
      have hyw := hg.cell hy (by simpa using Ne.symm hyr)
      have hrd := h.keep hg (.inr hb)
      by_cases hf : f = 0
      · subst hf
        have HE : Hid (rdV bs s = (0, (s : Int), false)) := rdV_none (HR.out.stop (.inl rfl))
        clear HR cm c1 hr
        go_wp2_with fail
        go_region
        all_goals (try go_wp2)
        all_goals (
          go_ret2
          have k : w.grownBy ((wr.drewN 1).alloc (.cells #[.int .i64 s, .iface 135 (.pointer (some y))] 80)) (some r) := grown_trans' hg (((Fr.drewN _ _).trans (Fr.alloc _ _)).row _)
          exact ⟨k, .inr ⟨HE.out, wr.heap.size, p, rfl, Flt.new (wr.drewN 1) _ _, hg.size, hrp.fr ((Fr.drewN _ _).trans (Fr.alloc _ _))⟩⟩)
      · obtain ⟨f', rfl⟩ : ∃ f', f = f' + 1 := ⟨f - 1, by omega⟩
        by_cases hlt : p < bs.length
        · rw [inB_mk (by omega) (by omega)] at cm
          obtain ⟨b, off, rfl, hc⟩ := hrd.at_ p hlt
          have hcp := hc p hlt
          rw [getD_at hlt] at hcp
          have hbp : bs[p]? = some bs[p] := List.getElem?_eq_getElem hlt
          have hby := hrd.bd _ (List.getElem_mem hlt)
          obtain ⟨z, hz⟩ : ∃ z, z = bs[p] := ⟨_, rfl⟩
          rw [← hz] at hcp hbp hby
          obtain ⟨z0, z1⟩ := hby
          have hu2 := hu.2.2 (by omega)
          have HU : Hid (U = 2 ^ ((5 - f') * 7)) := HR.out.unit2
          have r0 := hrp.c0
          have r1 := hrp.c1
          have rf := hrp.free 1
          have hset : ∀ k, Rdr ((wr.drewN k).setCell ⟨r, 1, none⟩ (.int .i64 ((p : Int) + 1))) r _ ((p : Int) + 1) := fun k => (hrp.fr (Fr.drewN wr k)).set ((p : Int) + 1)
          have hgs : ∀ k, w.grownBy ((wr.drewN k).setCell ⟨r, 1, none⟩ (.int .i64 ((p : Int) + 1))) (some r) := fun k => grown_trans' (grown_trans' hg ((Fr.drewN wr k).row _)) (grown_setCell _ r 1 _)
          have hy2 : ∀ k, ((wr.drewN k).setCell ⟨r, 1, none⟩ (.int .i64 ((p : Int) + 1))).cell? ⟨3, 0, none⟩ = some (.iface 135 (.pointer (some y))) := fun k => (hgs k).cell hy (by simpa using Ne.symm hyr)
          by_cases h128 : 128 ≤ z
          · have HM : Hid (RS bs s f' (p + 1) (U * 128) (A + (z - 128) * U)) := HR.out.more hbp h128 z1
            clear hc hz HR hbp hu c1 hr
            go_wp2_with fail
            refine (cm).mono ?_
            rintro e w1 ⟨rfl, nq, rfl⟩
            have c0 : (wr.drewN nq).cell? ⟨r, 0, none⟩ = _ := r0
            have c1 : (wr.drewN nq).cell? ⟨r, 1, none⟩ = _ := r1
            have c2 : (wr.drewN nq).cell? ⟨b, off + p, none⟩ = _ := hcp
            have c3 : (wr.drewN nq).frozen? ⟨r, 1, none⟩ = _ := rf
            go_wp2_with fail
            go_quiet (fail)
            rename_i nd
            go_wp2_with fail
            refine ⟨⟨f', p + 1, U * 128, A + (z - 128) * U, ?_, ?_, by omega, by omega, by omega, HM, ?_, ?_⟩, ?_⟩
            · rw [or_step ha0 ha1 HU.out (by omega) (by omega)]
            · congr 1; omega
            · exact hset _
            · exact hgs _
            · simp only [intOf]; omega
          · have HL := HR.out.last hbp (by omega)
            by_cases h0 : z = 0 ∧ s < p
            · rw [if_pos h0] at HL
              have HE : Hid (rdV bs s = (0, (s : Int), false)) := rdV_none HL
              obtain ⟨rfl, hsp'⟩ := h0
              clear hc hz HR hbp hu c1 hr HL
              go_wp2_with fail
              refine (cm).mono ?_
              rintro e w1 ⟨rfl, nqa, rfl⟩
              have c0 : (wr.drewN nqa).cell? ⟨r, 0, none⟩ = _ := r0
              have c1 : (wr.drewN nqa).cell? ⟨r, 1, none⟩ = _ := r1
              have c2 : (wr.drewN nqa).cell? ⟨b, off + p, none⟩ = _ := hcp
              have c3 : (wr.drewN nqa).frozen? ⟨r, 1, none⟩ = _ := rf
              go_wp2_with fail
              go_quiet (fail)
              obtain ⟨nqb, rfl⟩ : ∃ nqb, nqb = nq := ⟨_, rfl⟩
              go_wp2_with fail
              go_region
              all_goals (try go_wp2)
              all_goals (
                go_ret2
                have es : ((wr.drewN (nqa + nqb)).setCell ⟨r, 1, none⟩ (.int .i64 ((p : Int) + 1))).heap.size = wr.heap.size := by simp
                have hF := Flt.new ((wr.drewN (nqa + nqb)).setCell ⟨r, 1, none⟩ (.int .i64 ((p : Int) + 1))) (.iface 135 (.pointer (some y))) s
                rw [es] at hF
                have k2 := (Fr.alloc ((wr.drewN (nqa + nqb)).setCell ⟨r, 1, none⟩ (.int .i64 ((p : Int) + 1))) (.cells #[.int .i64 s, .iface 135 (.pointer (some y))] 80)).trans (Fr.drew _)
                exact ⟨grown_trans' (hgs _) (k2.row _), .inr ⟨HE.out, wr.heap.size, _, rfl, hF, hg.size, (hset _).fr k2⟩⟩)
            · rw [if_neg h0] at HL
              have HE : Hid (rdV bs s = (A + z * U, (p : Int) + 1, true)) := by
                show _ = _
                rw [rdV_some HL]
                rfl
              by_cases hz0 : z = 0
              · have hsp' : s = p := by omega
                have hf5 : f' = 5 := by omega
                have HX : Hid (bits .or .i64 A (wrap64 (z * 2 ^ ((5 - f') * 7))) = A + z * U) := or_step ha0 ha1 HU.out (by omega) (by omega)
                subst hz0 hsp' hf5
                clear hc hz HR hbp hu c1 hr HL h0
                go_wp2_with fail
                refine (cm).mono ?_
                rintro e w1 ⟨rfl, nq, rfl⟩
                have c0 : (wr.drewN nq).cell? ⟨r, 0, none⟩ = _ := r0
                have c1 : (wr.drewN nq).cell? ⟨r, 1, none⟩ = _ := r1
                have c2 : (wr.drewN nq).cell? ⟨b, off + s, none⟩ = _ := hcp
                have c3 : (wr.drewN nq).frozen? ⟨r, 1, none⟩ = _ := rf
                go_wp2_with fail
                go_quiet (fail)
                go_wp2_with fail
                go_ret2
                have HX : bits .or .i64 A 0 = A := by
                  have := HX.out
                  simpa [wrap64] using this
                have HE : rdV bs s = (A, (s : Int) + 1, true) := by
                  have := HE.out
                  simpa using this
                refine ⟨hgs _, .inl ⟨A, (s : Int) + 1, HE, ?_, hset _⟩⟩
                conv => rhs; rw [← HX]
                rfl
              · have HX : Hid (bits .or .i64 A (wrap64 (z * 2 ^ ((5 - f') * 7))) = A + z * U) := or_step ha0 ha1 HU.out (by omega) (by omega)
                clear hc hz HR hbp hu c1 hr HL h0
                go_wp2_with fail
                refine (cm).mono ?_
                rintro e w1 ⟨rfl, nq, rfl⟩
                have c0 : (wr.drewN nq).cell? ⟨r, 0, none⟩ = _ := r0
                have c1 : (wr.drewN nq).cell? ⟨r, 1, none⟩ = _ := r1
                have c2 : (wr.drewN nq).cell? ⟨b, off + p, none⟩ = _ := hcp
                have c3 : (wr.drewN nq).frozen? ⟨r, 1, none⟩ = _ := rf
                go_wp2_with fail
                go_quiet (fail)
                go_wp2_with fail
                go_ret2
                refine ⟨hgs _, .inl ⟨A + z * U, (p : Int) + 1, HE.out, ?_, hset _⟩⟩
                rw [← HX.out]
                rfl
        · rw [inB_not (by omega)] at cm
          have HE : Hid (rdV bs s = (0, (s : Int), false)) := rdV_none (HR.out.stop (.inr (by omega)))
          clear HR c1 hr
          go_wp2_with fail
          refine (cm).mono ?_
          rintro e w1 ⟨rfl, nq, rfl⟩
          have c2 : (wr.drewN nq).cell? ⟨3, 0, none⟩ = some (.iface 135 (.pointer (some y))) := hyw
          go_wp2_with fail
          go_region
          all_goals (try go_wp2)
          all_goals (
            go_ret2
            have f : Fr wr ((wr.drewN (nq + 1)).alloc (.cells #[.int .i64 s, .iface 135 (.pointer (some y))] 80)) := (Fr.drewN _ _).trans (Fr.alloc _ _)
            exact ⟨grown_trans' hg (f.row _), .inr ⟨HE.out, wr.heap.size, p, rfl, Flt.new (wr.drewN (nq + 1)) _ _, hg.size, hrp.fr f⟩⟩)
end Go.Proofs.YthjnhfcncinhiaaDoor
/-
  The program's reader: event.
-/
namespace Go.Proofs.YthjnhfcncinhiaaDoor
open Go.RowKit
set_option linter.unusedVariables false

theorem gthen {a b c : World} {g : Nat} {row : Option Nat} (h : a.grownBy b (some g)) (k : b.grownBy c row) (hr : ∀ j, row = some j → a.heap.size ≤ j ∨ j = g) : a.grownBy c (some g) :=
  ⟨k.os.trans h.os, k.tape.trans h.tape, k.output.trans h.output, Nat.le_trans h.size k.size,
    fun i hi hne => (k.block i (Nat.lt_of_lt_of_le hi h.size) (fun e => by rcases hr i e.symm with q | q; omega; exact hne (by rw [q]))).trans (h.block i hi hne)⟩
theorem gnone {a r : Nat} : ∀ j, (none : Option Nat) = some j → a ≤ j ∨ j = r := fun _ h => by cases h

/-- A reader at work: at the place p of the bytes bs. -/
structure RdrS (w : World) (r : Nat) (ao : Option Addr) (n cap : Nat) (bs : List Int) (p : Int) : Prop where
  rd : Rdr w r (.slice ao n cap) p
  bs : ReadsB w ao bs
  lt : ∀ j, blk ao = some j → j < r
theorem RdrS.ne {w : World} {r : Nat} {ao : Option Addr} {n cap : Nat} {bs : List Int} {p : Int} (h : RdrS w r ao n cap bs p) : blk ao ≠ some r := fun q => by have := h.lt _ q; omega
theorem RdrS.far {w : World} {r : Nat} {ao : Option Addr} {n cap : Nat} {bs : List Int} {p : Int} (h : RdrS w r ao n cap bs p) {g : Nat} (hg : r < g) : blk ao ≠ some g := fun q => by have := h.lt _ q; omega
theorem RdrS.keep {w w' : World} {r : Nat} {ao : Option Addr} {n cap : Nat} {bs : List Int} {p : Int} {row : Option Nat} (h : RdrS w r ao n cap bs p) (k : w.grownBy w' row) (hr : row ≠ some r) (hb : row = none ∨ blk ao ≠ row) : RdrS w' r ao n cap bs p :=
  ⟨h.rd.keep k hr, h.bs.keep k hb, h.lt⟩
theorem RdrS.fr {w w' : World} {r : Nat} {ao : Option Addr} {n cap : Nat} {bs : List Int} {p : Int} (h : RdrS w r ao n cap bs p) (k : Fr w w') : RdrS w' r ao n cap bs p := h.keep k (by simp) (.inl rfl)
theorem RdrS.went {w w' : World} {r : Nat} {ao : Option Addr} {n cap : Nat} {bs : List Int} {p q : Int} (h : RdrS w r ao n cap bs p) (k : w.grownBy w' (some r)) (hr : Rdr w' r (.slice ao n cap) q) : RdrS w' r ao n cap bs q :=
  ⟨hr, h.bs.keep k (.inr h.ne), h.lt⟩

theorem number_ok {r : Nat} {ao : Option Addr} {cap : Nat} {bs : List Int} {p q : Nat} {m : Int} {y : Addr} {w : World} (h : RdrS w r ao bs.length cap bs (p : Int)) (hp : p ≤ bs.length) (hy : w.cell? ⟨3, 0, none⟩ = some (.iface 135 (.pointer (some y)))) (hyr : r ≠ 3) (hr : rdN bs p = some (m, q)) :
    Calls Tryd.prog 58 #[.pointer (some ⟨r, 0, none⟩)] w fun e w' => e = .returned (.tuple #[.int .i64 m, .nilIface]) ∧ RdrS w' r ao bs.length cap bs (q : Int) ∧ w.grownBy w' (some r) := by
  have hl := h.bs.len
  refine (number_any r ao bs.length cap bs p y w rfl ⟨by omega, by omega⟩ h.bs h.ne h.rd hy hyr).mono fun e w' ⟨hg, H⟩ => ?_
  rw [rdV_some hr] at H
  rcases H with ⟨m', q', hE, rfl, hr1⟩ | ⟨hE, -⟩
  · simp only [Prod.mk.injEq, and_true] at hE
    obtain ⟨rfl, rfl⟩ := hE
    exact ⟨rfl, h.went hg hr1, hg⟩
  · simp at hE
theorem number_no {r : Nat} {ao : Option Addr} {cap : Nat} {bs : List Int} {p : Nat} {y : Addr} {w : World} (h : RdrS w r ao bs.length cap bs (p : Int)) (hp : p ≤ bs.length) (hy : w.cell? ⟨3, 0, none⟩ = some (.iface 135 (.pointer (some y)))) (hyr : r ≠ 3) (hr : rdN bs p = none) :
    Calls Tryd.prog 58 #[.pointer (some ⟨r, 0, none⟩)] w fun e w' => ∃ b j, e = .returned (.tuple #[.int .i64 0, .iface 78 (.pointer (some ⟨b, 0, none⟩))]) ∧ Flt w' b (p : Int) (.iface 135 (.pointer (some y))) ∧ w.heap.size ≤ b ∧ RdrS w' r ao bs.length cap bs j ∧ w.grownBy w' (some r) := by
  have hl := h.bs.len
  refine (number_any r ao bs.length cap bs p y w rfl ⟨by omega, by omega⟩ h.bs h.ne h.rd hy hyr).mono fun e w' ⟨hg, H⟩ => ?_
  rw [rdV_none hr] at H
  rcases H with ⟨m', q', hE, rfl, hr1⟩ | ⟨hE, b, j, rfl, hF, hb, hr1⟩
  · simp at hE
  · exact ⟨b, j, rfl, hF, hb, h.went hg hr1, hg⟩

/-- What event answers. -/
def EvtC (bs : List Int) (p r : Nat) (ao : Option Addr) (cap : Nat) (en ee : Addr) (w : World) (x : Ending) (w' : World) : Prop :=
  w.grownBy w' (some r) ∧
  ((∃ e q, rdEv bs p = .ok (e, q) ∧ x = .returned (.tuple #[.agg #[.int .i64 e.k, .int .i64 e.g, .int .i64 e.o, .int .i64 e.w, .int .i64 e.l, .int .i64 e.s, .int .i64 e.f, .int .i64 e.t], .nilIface]) ∧ RdrS w' r ao bs.length cap bs (q : Int)) ∨
   (∃ c y b i j, rdEv bs p = .error c ∧ ((c = 2 ∧ y = en) ∨ (c = 3 ∧ y = ee)) ∧ x = .returned (.tuple #[.agg #[.int .i64 0, .int .i64 0, .int .i64 0, .int .i64 0, .int .i64 0, .int .i64 0, .int .i64 0, .int .i64 0], .iface 78 (.pointer (some ⟨b, 0, none⟩))]) ∧ Flt w' b i (.iface 135 (.pointer (some y))) ∧ w.heap.size ≤ b ∧ RdrS w' r ao bs.length cap bs j))

theorem rdSeq_step {bs : List Int} {os : List Nat} {t : Nat} (h : t < os.length) {p q : Nat} {n : Int} (hr : rdN bs p = some (n, q)) (a : Ev) : rdSeq bs (os.drop t) p a = rdSeq bs (os.drop (t + 1)) q (a.put os[t] n) := by
  rw [List.drop_eq_getElem_cons h, rdSeq, hr]
theorem rdSeq_stop {bs : List Int} {os : List Nat} {t : Nat} (h : t < os.length) {p : Nat} (hr : rdN bs p = none) (a : Ev) : rdSeq bs (os.drop t) p a = none := by
  rw [List.drop_eq_getElem_cons h, rdSeq, hr]
theorem EvB.putAt {w : World} {b : Nat} {e : Ev} (h : EvB w b e) (o : Nat) (ho : o < 8) (x : Int) : EvB (w.setCell ⟨b, o, none⟩ (.int .i64 x)) b (e.put o x) := by
  rcases (by omega : o = 0 ∨ o = 1 ∨ o = 2 ∨ o = 3 ∨ o = 4 ∨ o = 5 ∨ o = 6 ∨ o = 7) with rfl | rfl | rfl | rfl | rfl | rfl | rfl | rfl
  · exact h.setK x
  · exact h.setG x
  · exact h.setO x
  · exact h.setW x
  · exact h.setL x
  · exact h.setS x
  · exact h.setF x
  · exact h.setT x

/-- The result set to nothing. -/
def S8 (w : World) (rb : Nat) : World := (((((((w.setCell ⟨rb, 0, none⟩ (.int .i64 0)).setCell ⟨rb, 1, none⟩ (.int .i64 0)).setCell ⟨rb, 2, none⟩ (.int .i64 0)).setCell ⟨rb, 3, none⟩ (.int .i64 0)).setCell ⟨rb, 4, none⟩ (.int .i64 0)).setCell ⟨rb, 5, none⟩ (.int .i64 0)).setCell ⟨rb, 6, none⟩ (.int .i64 0)).setCell ⟨rb, 7, none⟩ (.int .i64 0)
theorem S8.ev {w : World} {rb : Nat} {e0 : Ev} (h : EvB w rb e0) : EvB (S8 w rb) rb ⟨0, 0, 0, 0, 0, 0, 0, 0⟩ := h.set8 ⟨0, 0, 0, 0, 0, 0, 0, 0⟩
theorem S8.grown (w : World) (rb : Nat) : w.grownBy (S8 w rb) (some rb) := grown_st8 w rb _ _ _ _ _ _ _ _

/-- A fault and nothing are answered, in either order. -/
theorem fault_ok {bs : List Int} {p r rb b : Nat} {ao : Option Addr} {cap : Nat} {en ee : Addr} {w w1 W : World} {e0 : Ev} {j : Int} (h : EvB w1 rb e0) (hrb : w.heap.size ≤ rb) (hrl : r < w.heap.size) (k : w.grownBy w1 (some r)) (hR : RdrS w1 r ao bs.length cap bs j) (hE : rdEv bs p = .error 3)
    (hW : (W = (S8 (w1.alloc (.cells #[.int .i64 (p : Int), .iface 135 (.pointer (some ee))] 80)) rb).drew ∧ b = w1.heap.size) ∨ (W = ((S8 w1 rb).alloc (.cells #[.int .i64 (p : Int), .iface 135 (.pointer (some ee))] 80)).drew ∧ b = w1.heap.size)) :
    EvB W rb ⟨0, 0, 0, 0, 0, 0, 0, 0⟩ ∧
    EvtC bs p r ao cap en ee w (.returned (.tuple #[.agg #[.int .i64 0, .int .i64 0, .int .i64 0, .int .i64 0, .int .i64 0, .int .i64 0, .int .i64 0, .int .i64 0], .iface 78 (.pointer (some ⟨b, 0, none⟩))])) W := by
  have hl := h.lt
  have hs := k.size
  rcases hW with ⟨rfl, rfl⟩ | ⟨rfl, rfl⟩
  · have fF := Fr.alloc w1 (.cells #[.int .i64 (p : Int), .iface 135 (.pointer (some ee))] 80)
    have gz := S8.grown (w1.alloc (.cells #[.int .i64 (p : Int), .iface 135 (.pointer (some ee))] 80)) rb
    have fD := Fr.drew (S8 (w1.alloc (.cells #[.int .i64 (p : Int), .iface 135 (.pointer (some ee))] 80)) rb)
    have hN := ((Flt.new w1 (.iface 135 (.pointer (some ee))) (p : Int)).keep gz (by simp; omega)).keep fD (by simp)
    refine ⟨(S8.ev (h.keep fF (by simp))).keep fD (by simp), gthen (gthen (gthen k fF gnone) gz (fun i hi => .inl (by simp only [Option.some.injEq] at hi; omega))) fD gnone, .inr ⟨3, ee, w1.heap.size, p, j, hE, .inr ⟨rfl, rfl⟩, rfl, hN, by omega, ?_⟩⟩
    exact ((hR.fr fF).keep gz (by simp; omega) (.inr (hR.far (by omega)))).fr fD
  · have gz := S8.grown w1 rb
    have hsz : (S8 w1 rb).heap.size = w1.heap.size := by simp [S8]
    have fF := Fr.alloc (S8 w1 rb) (.cells #[.int .i64 (p : Int), .iface 135 (.pointer (some ee))] 80)
    have fD := Fr.drew ((S8 w1 rb).alloc (.cells #[.int .i64 (p : Int), .iface 135 (.pointer (some ee))] 80))
    have hN := (Flt.new (S8 w1 rb) (.iface 135 (.pointer (some ee))) (p : Int)).keep fD (by simp)
    rw [hsz] at hN
    refine ⟨((S8.ev h).keep fF (by simp)).keep fD (by simp), gthen (gthen (gthen k gz (fun i hi => .inl (by simp only [Option.some.injEq] at hi; omega))) fF gnone) fD gnone, .inr ⟨3, ee, w1.heap.size, p, j, hE, .inr ⟨rfl, rfl⟩, rfl, hN, by omega, ?_⟩⟩
    exact ((hR.keep gz (by simp; omega) (.inr (hR.far (by omega)))).fr fF).fr fD

set_option maxRecDepth 20000 in
set_option maxHeartbeats 1000000 in
theorem event_none (r : Nat) (ao : Option Addr) (cap : Nat) (bs : List Int) (p : Nat) (en ee : Addr) (w : World) (hp : p ≤ bs.length) (hR : RdrS w r ao bs.length cap bs (p : Int))
    (hn : w.cell? ⟨3, 0, none⟩ = some (.iface 135 (.pointer (some en)))) (he : w.cell? ⟨4, 0, none⟩ = some (.iface 135 (.pointer (some ee)))) (hrn : r ≠ 3) (hre : r ≠ 4) (hrs : r ≠ 0) (hs : Shapes w) (hr : rdN bs p = none) :
    Calls Tryd.prog 44 #[.pointer (some ⟨r, 0, none⟩)] w (EvtC bs p r ao cap en ee w) := by
  have hu := hR.bs.bd
  have hrl := hR.rd.lt
  have f0 := Fr.alloc w (.cells #[.int .i64 0, .int .i64 0, .int .i64 0, .int .i64 0, .int .i64 0, .int .i64 0, .int .i64 0, .int .i64 0] 38)
  have hz := EvB.new w ⟨0, 0, 0, 0, 0, 0, 0, 0⟩
  have hR0 := hR.fr f0
  have r1 := hR0.rd.c1
  have hel : 4 < w.heap.size := World.block_lt_of_cell? w _ he
  have hnl : 3 < w.heap.size := World.block_lt_of_cell? w _ hn
  have c1 := number_no hR0 hp (f0.cell hn) hrn hr
  have HE : Hid (rdEv bs p = .error 2) := rdEv_no hr
  clear hr
  go_enter Tryd.func44, Tryd.ntmps44
  go_wp2_with fail
  refine c1.mono ?_
  rintro x w1 ⟨b, j, rfl, hF, hb, hR1, k1⟩
  have hz1 := hz.keep k1 (by simp; omega)
  have hb' : w.heap.size + 1 ≤ b := by simpa using hb
  obtain ⟨b0, b1, b2, b3, b4, b5, b6, b7⟩ := hz1.at
  have z := hz1.free
  have hz2 := hz1.set8 ⟨0, 0, 0, 0, 0, 0, 0, 0⟩
  have gz := grown_st8 w1 w.heap.size (.int .i64 0) (.int .i64 0) (.int .i64 0) (.int .i64 0) (.int .i64 0) (.int .i64 0) (.int .i64 0) (.int .i64 0)
  clear c1 hz r1 hb
  go_wp2_with fail
  obtain ⟨d0, d1, d2, d3, d4, d5, d6, d7⟩ := hz2.at
  have kk : w.grownBy _ (some r) := gthen (gthen (f0.row (some r)) k1 (fun j hj => .inr (by simpa using hj.symm))) gz (fun j hj => .inl (by simp only [Option.some.injEq] at hj; omega))
  exact bodyPost_ret (v := .tuple #[.agg #[.int .i64 0, .int .i64 0, .int .i64 0, .int .i64 0, .int .i64 0, .int .i64 0, .int .i64 0, .int .i64 0], .iface 78 (.pointer (some ⟨b, 0, none⟩))]) (by simp [results, Tryd.results44, go_sem, d0, d1, d2, d3, d4, d5, d6, d7]) rfl
    ⟨kk, .inr ⟨2, en, b, p, j, HE.out, .inl ⟨rfl, rfl⟩, rfl, hF.keep gz (by simp; omega), by omega, hR1.keep gz (by simp; omega) (.inr (hR.far hrl))⟩⟩

set_option maxRecDepth 20000 in
set_option maxHeartbeats 1000000 in
theorem event_kind (r : Nat) (ao : Option Addr) (cap : Nat) (bs : List Int) (p : Nat) (en ee : Addr) (w : World) (hp : p ≤ bs.length) (hR : RdrS w r ao bs.length cap bs (p : Int))
    (hn : w.cell? ⟨3, 0, none⟩ = some (.iface 135 (.pointer (some en)))) (he : w.cell? ⟨4, 0, none⟩ = some (.iface 135 (.pointer (some ee)))) (hrn : r ≠ 3) (hre : r ≠ 4) (hrs : r ≠ 0) (hs : Shapes w) (k : Int) (q : Nat) (hr : rdN bs p = some (k, q)) (hk : inB 1 22 k = false) :
    Calls Tryd.prog 44 #[.pointer (some ⟨r, 0, none⟩)] w (EvtC bs p r ao cap en ee w) := by
  have hu := hR.bs.bd
  have hrl := hR.rd.lt
  have f0 := Fr.alloc w (.cells #[.int .i64 0, .int .i64 0, .int .i64 0, .int .i64 0, .int .i64 0, .int .i64 0, .int .i64 0, .int .i64 0] 38)
  have hz := EvB.new w ⟨0, 0, 0, 0, 0, 0, 0, 0⟩
  have hR0 := hR.fr f0
  have r1 := hR0.rd.c1
  have hel : 4 < w.heap.size := World.block_lt_of_cell? w _ he
  have hnl : 3 < w.heap.size := World.block_lt_of_cell? w _ hn
  have c1 := number_ok hR0 hp (f0.cell hn) hrn hr
  have hq := (rdN_lt hu hr).2
  have HR : Hid (rdN bs p = some (k, q)) := hr
  have cK := fun w => kindIn_any k w
  clear hr
  rw [hk] at cK
  have HE : Hid (rdEv bs p = .error 3) := rdEv_kind HR.out hk
  clear hk HR
  go_enter Tryd.func44, Tryd.ntmps44
  go_wp2_with fail
  refine c1.mono ?_
  rintro x w1 ⟨rfl, hR1, k1⟩
  go_wp2_with fail
  refine (cK _).mono ?_
  rintro e w2 ⟨rfl, rfl⟩
  have hz1 := hz.keep k1 (by simp; omega)
  have he1 := k1.cell (f0.cell he) (by simp; omega)
  obtain ⟨b0, b1, b2, b3, b4, b5, b6, b7⟩ := hz1.at
  have z := hz1.free
  have fF := Fr.alloc w2 (.cells #[.int .i64 (p : Int), .iface 135 (.pointer (some ee))] 80)
  have hzF := hz1.keep fF (by simp)
  obtain ⟨v0, v1, v2, v3, v4, v5, v6, v7⟩ := hzF.at
  have zF := hzF.free
  have gz := grown_st8 w2 w.heap.size (.int .i64 0) (.int .i64 0) (.int .i64 0) (.int .i64 0) (.int .i64 0) (.int .i64 0) (.int .i64 0) (.int .i64 0)
  have he2 := gz.cell he1 (by simp; omega)
  clear c1 cK hz r1
  go_wp2_with fail
  go_region
  · go_wp2_with fail
    obtain ⟨hzX, hX⟩ := fault_ok (W := (S8 (w2.alloc (.cells #[.int .i64 (p : Int), .iface 135 (.pointer (some ee))] 80)) w.heap.size).drew) (ee := ee) (en := en) hz1 (Nat.le_refl _) hrl (gthen (f0.row (some r)) k1 (fun j hj => .inr (by simpa using hj.symm))) hR1 HE.out (.inl ⟨rfl, rfl⟩)
    obtain ⟨d0, d1, d2, d3, d4, d5, d6, d7⟩ := hzX.at
    simp only [S8] at d0 d1 d2 d3 d4 d5 d6 d7
    exact bodyPost_ret (v := .tuple #[.agg #[.int .i64 0, .int .i64 0, .int .i64 0, .int .i64 0, .int .i64 0, .int .i64 0, .int .i64 0, .int .i64 0], .iface 78 (.pointer (some ⟨w2.heap.size, 0, none⟩))]) (by simp [results, Tryd.results44, go_sem, d0, d1, d2, d3, d4, d5, d6, d7]) rfl hX
  · go_wp2_with fail
    obtain ⟨hzX, hX⟩ := fault_ok (W := ((S8 w2 w.heap.size).alloc (.cells #[.int .i64 (p : Int), .iface 135 (.pointer (some ee))] 80)).drew) (ee := ee) (en := en) hz1 (Nat.le_refl _) hrl (gthen (f0.row (some r)) k1 (fun j hj => .inr (by simpa using hj.symm))) hR1 HE.out (.inr ⟨rfl, rfl⟩)
    obtain ⟨d0, d1, d2, d3, d4, d5, d6, d7⟩ := hzX.at
    simp only [S8] at d0 d1 d2 d3 d4 d5 d6 d7
    exact bodyPost_ret (v := .tuple #[.agg #[.int .i64 0, .int .i64 0, .int .i64 0, .int .i64 0, .int .i64 0, .int .i64 0, .int .i64 0, .int .i64 0], .iface 78 (.pointer (some ⟨w2.heap.size, 0, none⟩))]) (by simp [results, Tryd.results44, go_sem, d0, d1, d2, d3, d4, d5, d6, d7]) rfl hX

end Go.Proofs.YthjnhfcncinhiaaDoor
