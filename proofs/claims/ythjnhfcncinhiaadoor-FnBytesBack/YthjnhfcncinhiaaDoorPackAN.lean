/-
  The program's reader: event, where the Kind is one.
-/
import Derived.Test.YthjnhfcncinhiaaDoorPackAM
import Derived.Test.YthjnhfcncinhiaaDoorPackAK
import Derived.Test.YthjnhfcncinhiaaDoorPackAB
import Derived.Laws.BytesArg
import Derived.Test.YthjnhfcncinhiaaDoorPackAA
namespace Go.Proofs.YthjnhfcncinhiaaDoor
open Go.RowKit
set_option linter.unusedVariables false

set_option maxRecDepth 20000 in
set_option maxHeartbeats 1000000 in
theorem event_true (r : Nat) (ao : Option Addr) (cap : Nat) (bs : List Int) (p : Nat) (en ee : Addr) (w : World) (hp : p ≤ bs.length) (hR : RdrS w r ao bs.length cap bs (p : Int))
    (hn : w.cell? ⟨3, 0, none⟩ = some (.iface 135 (.pointer (some en)))) (he : w.cell? ⟨4, 0, none⟩ = some (.iface 135 (.pointer (some ee)))) (hrn : r ≠ 3) (hre : r ≠ 4) (hrs : r ≠ 0) (hs : Shapes w) (k : Int) (q : Nat) (hr : rdN bs p = some (k, q)) (hk : inB 1 22 k = true) :
    Calls Tryd.prog 44 #[.pointer (some ⟨r, 0, none⟩)] w (EvtC bs p r ao cap en ee w) := by
  have hu := hR.bs.bd
  have hrl := hR.rd.lt
  have f0 := Fr.alloc w (.cells #[.int .i64 0, .int .i64 0, .int .i64 0, .int .i64 0, .int .i64 0, .int .i64 0, .int .i64 0, .int .i64 0] 38)
  have hz := EvB.new w ⟨0, 0, 0, 0, 0, 0, 0, 0⟩
  have hR0 := hR.fr f0
  have r1 := hR0.rd.c1
  have hel : 4 < w.heap.size := World.block_lt_of_cell? w _ he
  have hnl : 3 < w.heap.size := World.block_lt_of_cell? w _ hn
  have c1 := number_ok hR0 hp (f0.cell hn) hrn hr
  have hq := (rdN_lt hu hr).2
  have HR : Hid (rdN bs p = some (k, q)) := hr
  have cK := fun w => kindIn_any k w
  clear hr
  rw [hk] at cK
  have HK : Hid (inB 1 22 k = true) := hk
  obtain ⟨n, hn22, hkn⟩ := kinds hk
  have HKN : Hid (k = (n : Int) + 1) := hkn
  have hofi := (offs_in (k := k)).1
  have hofl := offs_len k
  clear hk hkn
  obtain ⟨os, hos⟩ : ∃ os, os = offs k := ⟨_, rfl⟩
  have HOS : Hid (os = offs k) := hos
  rw [← hos] at hofi hofl
  clear hos
  go_enter Tryd.func44, Tryd.ntmps44
  go_wp2_with fail
  refine c1.mono ?_
  rintro x w1 ⟨rfl, hR1, k1⟩
  go_wp2_with fail
  refine (cK _).mono ?_
  rintro e w2 ⟨rfl, rfl⟩
  have hz1 := hz.keep k1 (by simp; omega)
  have k2 := gthen (f0.row (some r)) k1 (fun j hj => .inr (by simpa using hj.symm))
  have s2 := k2.size
  have hzl := hz1.lt
  have fE := Fr.alloc w2 (.cells #[.int .i64 k, .int .i64 0, .int .i64 0, .int .i64 0, .int .i64 0, .int .i64 0, .int .i64 0, .int .i64 0] 38)
  have hE1 := EvB.new w2 (ev0 k)
  have hEk := hE1.at.1
  have cP := partsOf_any w2.heap.size n hn22 _ ((hs.keep k2 (by simpa using hrs)).fr fE) (by rw [← HKN.out]; exact hEk)
  rw [← HKN.out, ← HOS.out] at cP
  clear c1 cK hz r1 hEk
  go_wp2_with fail
  refine cP.mono ?_
  rintro x w3 ⟨v3, rfl, o3, f3⟩
  obtain ⟨gp, cp, rfl, gpb, gpl, -, hcp⟩ := o3.open
  have hE3 : EvB w3 w2.heap.size (ev0 k) := hE1.keep f3 (by simp)
  have hz3 := (hz1.keep fE (by simp)).keep f3 (by simp)
  have hR3 := (hR1.fr fE).fr f3
  have k3 := gthen (gthen k2 fE gnone) f3 gnone
  have es1 : (w2.alloc (.cells #[.int .i64 k, .int .i64 0, .int .i64 0, .int .i64 0, .int .i64 0, .int .i64 0, .int .i64 0, .int .i64 0] 38)).heap.size = w2.heap.size + 1 := by simp
  rw [es1] at gpb
  obtain ⟨eb, heb⟩ : ∃ eb, eb = w2.heap.size := ⟨_, rfl⟩
  rw [← heb] at hE3 gpb hcp hzl s2
  simp only [← heb]
  clear cP hE1 fE f3 o3 es1 hz1 hR1 k1 k2 heb
  have HQ : Hid (rdSeq bs (os.drop 0) q (ev0 k) = rdSeq bs os q (ev0 k)) := rfl
  have hnw : ∀ wr, w.grownBy wr (some r) → wr.cell? ⟨3, 0, none⟩ = some (.iface 135 (.pointer (some en))) := fun wr kk => kk.cell hn (by simp; omega)
  go_wp2_with fail
  go_loopw [36] (fun i wr => ∃ (t pt : Nat) (e : Ev), t ≤ os.length ∧ i = .int .i64 (t : Int) ∧ pt ≤ bs.length ∧ RdrS wr r ao bs.length cap bs (pt : Int) ∧ EvB wr eb e ∧ EvB wr w.heap.size ⟨0, 0, 0, 0, 0, 0, 0, 0⟩ ∧ (∀ t (ht : t < os.length), wr.cell? ⟨gp, t, none⟩ = some (.pointer (some ⟨eb, os[t], none⟩))) ∧ Hid (rdSeq bs (os.drop t) pt e = rdSeq bs os q (ev0 k)) ∧ w.grownBy wr (some r)) (fun i _ => os.length - (intOf i).toNat)
  case atStart => exact ⟨0, q, ev0 k, Nat.zero_le _, rfl, hq, hR3, hE3, hz3, hcp, HQ, k3⟩
  case round =>
    obtain ⟨t, pt, e, ht, rfl, hpt, hRt, hEt, hzt, hct, HT, kt⟩ := hrel
    clear hR3 hE3 hz3 hcp HQ k3
    have st := kt.size
    have lE := hEt.lt
    have lZ := hzt.lt
    by_cases hlt : t < os.length
    · have hc := hct t hlt
      have ho := hofi _ (List.getElem_mem hlt)
      have hen := hnw wr kt
      cases hr2 : rdN bs pt with
      | none =>
        have c2 := number_no hRt hpt hen hrn hr2
        have HE : Hid (rdEv bs p = .error 2) := by
          refine rdEv_seq HR.out HK.out ?_
          rw [← HOS.out, ← HT.out]
          exact rdSeq_stop hlt hr2 e
        obtain ⟨o, hoo⟩ : ∃ o, o = os[t] := ⟨_, rfl⟩
        rw [← hoo] at hc ho
        clear hoo hr2 HT hct
        go_wp2_with fail
        refine c2.mono ?_
        rintro x w5 ⟨b, j, rfl, hF, hb, hR5, k5⟩
        have hE5 := hEt.keep k5 (by simp; omega)
        have hz5 := hzt.keep k5 (by simp; omega)
        have ce := hE5.at.at o ho.2
        have zE := hE5.free o
        have gE := grown_st w5 eb o (.int .i64 0)
        have hz6 := hz5.keep gE (by simp; omega)
        obtain ⟨b0, b1, b2, b3, b4, b5, b6, b7⟩ := hz6.at
        have z := hz6.free
        have gz := S8.grown (w5.setCell ⟨eb, o, none⟩ (.int .i64 0)) w.heap.size
        have hz7 := S8.ev hz6
        have hbl := hF.lt
        clear c2
        go_wp2_with fail
        obtain ⟨d0, d1, d2, d3, d4, d5, d6, d7⟩ := hz7.at
        simp only [S8] at d0 d1 d2 d3 d4 d5 d6 d7
        have kk := gthen (gthen (gthen kt k5 (fun j hj => .inr (by simpa using hj.symm))) gE (fun j hj => .inl (by simp only [Option.some.injEq] at hj; omega))) gz (fun j hj => .inl (by simp only [Option.some.injEq] at hj; omega))
        have hFF := (hF.keep gE (by simp; omega)).keep gz (by simp; omega)
        have hRR := (hR5.keep gE (by simp; omega) (.inr (hR.far (by omega)))).keep gz (by simp; omega) (.inr (hR.far hrl))
        exact bodyPost_ret (v := .tuple #[.agg #[.int .i64 0, .int .i64 0, .int .i64 0, .int .i64 0, .int .i64 0, .int .i64 0, .int .i64 0, .int .i64 0], .iface 78 (.pointer (some ⟨b, 0, none⟩))]) (by simp [results, Tryd.results44, go_sem, d0, d1, d2, d3, d4, d5, d6, d7]) rfl
          ⟨kk, .inr ⟨2, en, b, pt, j, HE.out, .inl ⟨rfl, rfl⟩, rfl, hFF, by omega, hRR⟩⟩
      | some mq =>
        obtain ⟨m, pn⟩ := mq
        have c2 := number_ok hRt hpt hen hrn hr2
        have hpn := (rdN_lt hu hr2).2
        have HN : Hid (rdSeq bs (os.drop (t + 1)) pn (e.put os[t] m) = rdSeq bs os q (ev0 k)) := by
          show _ = _
          rw [← HT.out, rdSeq_step hlt hr2]
        obtain ⟨o, hoo⟩ : ∃ o, o = os[t] := ⟨_, rfl⟩
        rw [← hoo] at hc ho HN
        have HCT := (show Hid _ from hct)
        clear hoo hr2 HT hct
        go_wp2_with fail
        refine c2.mono ?_
        rintro x w5 ⟨rfl, hR5, k5⟩
        have hE5 := hEt.keep k5 (by simp; omega)
        have hz5 := hzt.keep k5 (by simp; omega)
        have ce := hE5.at.at o ho.2
        have zE := hE5.free o
        have gE := grown_st w5 eb o (.int .i64 m)
        have hE6 := hE5.putAt o ho.2 m
        have hz6 := hz5.keep gE (by simp; omega)
        have hct5 : ∀ t (ht : t < os.length), (w5.setCell ⟨eb, o, none⟩ (.int .i64 m)).cell? ⟨gp, t, none⟩ = some (.pointer (some ⟨eb, os[t], none⟩)) := fun t ht => gE.cell (k5.cell (HCT.out t ht) (by simp; omega)) (by simp; omega)
        have hR6 := hR5.keep gE (by simp; omega) (.inr (hR.far (by omega)))
        have k6 := gthen (gthen kt k5 (fun j hj => .inr (by simpa using hj.symm))) gE (fun j hj => .inl (by simp only [Option.some.injEq] at hj; omega))
        have HB := (show Hid _ from hct5)
        clear c2 hct5
        go_wp2_with fail
        go_roundw
        case rel => exact ⟨t + 1, pn, _, by omega, by go_num, hpn, hR6, hE6, hz6, HB.out, HN, k6⟩
        case measure => simp [intOf]; omega
    · have HV : Hid (rdEv bs p = if evOk e then .ok (e, pt) else .error 3) := by
        refine rdEv_fin HR.out HK.out ?_
        rw [← HOS.out, ← HT.out, List.drop_eq_nil_of_le (by omega)]
        rfl
      have cO := implOk_any e wr (hs.keep kt (by simpa using hrs))
      have hee := kt.cell he (by simp; omega)
      obtain ⟨x0, x1, x2, x3, x4, x5, x6, x7⟩ := hEt.at
      clear HT hct hnw
      cases ho : evOk e with
      | false =>
        rw [ho] at cO
        have HE : Hid (rdEv bs p = .error 3) := by
          have := HV.out
          rw [ho] at this
          show _ = _
          simpa using this
        clear HV ho
        go_wp2_with fail
        refine cO.mono ?_
        rintro x w5 ⟨rfl, f5⟩
        have hz5 := hzt.keep f5 (by simp)
        have hR5 := hRt.fr f5
        have k5 := gthen kt f5 gnone
        have he1 := f5.cell hee
        obtain ⟨b0, b1, b2, b3, b4, b5, b6, b7⟩ := hz5.at
        have z := hz5.free
        have fF := Fr.alloc w5 (.cells #[.int .i64 (p : Int), .iface 135 (.pointer (some ee))] 80)
        have hzF := hz5.keep fF (by simp)
        obtain ⟨v0, v1, v2, v3, v4, v5, v6, v7⟩ := hzF.at
        have zF := hzF.free
        have gz := grown_st8 w5 w.heap.size (.int .i64 0) (.int .i64 0) (.int .i64 0) (.int .i64 0) (.int .i64 0) (.int .i64 0) (.int .i64 0) (.int .i64 0)
        have he2 := gz.cell he1 (by simp; omega)
        clear cO x0 x1 x2 x3 x4 x5 x6 x7 hEt hzt hRt kt
        go_wp2_with fail
        go_region
        · go_wp2_with fail
          obtain ⟨hzX, hX⟩ := fault_ok (W := (S8 (w5.alloc (.cells #[.int .i64 (p : Int), .iface 135 (.pointer (some ee))] 80)) w.heap.size).drew) (ee := ee) (en := en) hz5 (Nat.le_refl _) hrl k5 hR5 HE.out (.inl ⟨rfl, rfl⟩)
          obtain ⟨d0, d1, d2, d3, d4, d5, d6, d7⟩ := hzX.at
          simp only [S8] at d0 d1 d2 d3 d4 d5 d6 d7
          exact bodyPost_ret (v := .tuple #[.agg #[.int .i64 0, .int .i64 0, .int .i64 0, .int .i64 0, .int .i64 0, .int .i64 0, .int .i64 0, .int .i64 0], .iface 78 (.pointer (some ⟨w5.heap.size, 0, none⟩))]) (by simp [results, Tryd.results44, go_sem, d0, d1, d2, d3, d4, d5, d6, d7]) rfl hX
        · go_wp2_with fail
          obtain ⟨hzX, hX⟩ := fault_ok (W := ((S8 w5 w.heap.size).alloc (.cells #[.int .i64 (p : Int), .iface 135 (.pointer (some ee))] 80)).drew) (ee := ee) (en := en) hz5 (Nat.le_refl _) hrl k5 hR5 HE.out (.inr ⟨rfl, rfl⟩)
          obtain ⟨d0, d1, d2, d3, d4, d5, d6, d7⟩ := hzX.at
          simp only [S8] at d0 d1 d2 d3 d4 d5 d6 d7
          exact bodyPost_ret (v := .tuple #[.agg #[.int .i64 0, .int .i64 0, .int .i64 0, .int .i64 0, .int .i64 0, .int .i64 0, .int .i64 0, .int .i64 0], .iface 78 (.pointer (some ⟨w5.heap.size, 0, none⟩))]) (by simp [results, Tryd.results44, go_sem, d0, d1, d2, d3, d4, d5, d6, d7]) rfl hX
      | true =>
        rw [ho] at cO
        have HE : Hid (rdEv bs p = .ok (e, pt)) := by
          have := HV.out
          rw [ho] at this
          show _ = _
          simpa using this
        clear HV ho
        go_wp2_with fail
        refine cO.mono ?_
        rintro x w5 ⟨rfl, f5⟩
        have hz5 := hzt.keep f5 (by simp)
        have hE5 := hEt.keep f5 (by simp)
        have hR5 := hRt.fr f5
        have k5 := gthen kt f5 gnone
        obtain ⟨b0, b1, b2, b3, b4, b5, b6, b7⟩ := hz5.at
        have z := hz5.free
        obtain ⟨v0, v1, v2, v3, v4, v5, v6, v7⟩ := hE5.at
        have gz := grown_st8 w5 w.heap.size (.int .i64 e.k) (.int .i64 e.g) (.int .i64 e.o) (.int .i64 e.w) (.int .i64 e.l) (.int .i64 e.s) (.int .i64 e.f) (.int .i64 e.t)
        have hz6 := hz5.set8 e
        clear cO x0 x1 x2 x3 x4 x5 x6 x7 hEt hzt hRt kt
        go_wp2_with fail
        obtain ⟨d0, d1, d2, d3, d4, d5, d6, d7⟩ := hz6.at
        have kk := gthen k5 gz (fun j hj => .inl (by simp only [Option.some.injEq] at hj; omega))
        exact bodyPost_ret (v := .tuple #[.agg #[.int .i64 e.k, .int .i64 e.g, .int .i64 e.o, .int .i64 e.w, .int .i64 e.l, .int .i64 e.s, .int .i64 e.f, .int .i64 e.t], .nilIface]) (by simp [results, Tryd.results44, go_sem, d0, d1, d2, d3, d4, d5, d6, d7]) rfl
          ⟨kk, .inl ⟨e, pt, HE.out, rfl, hR5.keep gz (by simp; omega) (.inr (hR.far hrl))⟩⟩

theorem event_any (r : Nat) (ao : Option Addr) (cap : Nat) (bs : List Int) (p : Nat) (en ee : Addr) (w : World) (hp : p ≤ bs.length) (hR : RdrS w r ao bs.length cap bs (p : Int))
    (hn : w.cell? ⟨3, 0, none⟩ = some (.iface 135 (.pointer (some en)))) (he : w.cell? ⟨4, 0, none⟩ = some (.iface 135 (.pointer (some ee)))) (hrn : r ≠ 3) (hre : r ≠ 4) (hrs : r ≠ 0) (hs : Shapes w) :
    Calls Tryd.prog 44 #[.pointer (some ⟨r, 0, none⟩)] w (EvtC bs p r ao cap en ee w) := by
  cases hr : rdN bs p with
  | none => exact event_none r ao cap bs p en ee w hp hR hn he hrn hre hrs hs hr
  | some kq =>
    obtain ⟨k, q⟩ := kq
    cases hk : inB 1 22 k with
    | false => exact event_kind r ao cap bs p en ee w hp hR hn he hrn hre hrs hs k q hr hk
    | true => exact event_true r ao cap bs p en ee w hp hR hn he hrn hre hrs hs k q hr hk
end Go.Proofs.YthjnhfcncinhiaaDoor
/-
  Decoded, by the specification.
-/
namespace Go.Proofs.YthjnhfcncinhiaaDoor
open Go.RowKit

/-- The decoding so far. -/
def DS3 (bs : List Int) (es : List Ev) (p : Nat) : Prop := decG bs (300 - es.length) p es = decL bs ∧ es.length ≤ 300
theorem DS3.start {bs : List Int} (h : hdB bs = true) : DS3 bs [] 3 := ⟨by rw [decL, if_pos h]; rfl, by simp⟩
theorem DS3.many {bs : List Int} {es : List Ev} {p : Nat} (h : DS3 bs es p) (hl : es.length = 300) (hp : p < bs.length) : decL bs = (es, 4) := by
  rw [← h.1, hl, decG, if_pos hp]
theorem DS3.fin {bs : List Int} {es : List Ev} {p : Nat} (h : DS3 bs es p) (hp : ¬ p < bs.length) : decL bs = (es, 0) := by
  rw [← h.1]
  cases 300 - es.length with
  | zero => rw [decG, if_neg hp]
  | succ f => rw [decG, if_neg hp]
theorem DS3.err {bs : List Int} {es : List Ev} {p : Nat} {c : Int} (h : DS3 bs es p) (hl : es.length ≠ 300) (hp : p < bs.length) (hr : rdEv bs p = .error c) : decL bs = (es, c) := by
  have := h.2
  obtain ⟨f, hf⟩ : ∃ f, 300 - es.length = f + 1 := ⟨299 - es.length, by omega⟩
  rw [← h.1, hf, decG, if_pos hp, hr]
theorem DS3.step {bs : List Int} {es : List Ev} {p q : Nat} {e : Ev} (h : DS3 bs es p) (hl : es.length ≠ 300) (hp : p < bs.length) (hr : rdEv bs p = .ok (e, q)) : DS3 bs (es ++ [e]) q := by
  have := h.2
  refine ⟨?_, by simp; omega⟩
  obtain ⟨f, hf⟩ : ∃ f, 300 - es.length = f + 1 := ⟨299 - es.length, by omega⟩
  rw [← h.1, hf, decG, if_pos hp, hr]
  simp only []
  congr 1
  simp
  omega
theorem rdEv_le {bs : List Int} (hu : ∀ x ∈ bs, U8 x) {p q : Nat} {e : Ev} (hp : p ≤ bs.length) (h : rdEv bs p = .ok (e, q)) : p < q ∧ q ≤ bs.length := by
  obtain ⟨-, hq, hd⟩ := rdEv_ok hu h
  have := evL_len e
  have hl := congrArg List.length hd
  simp at hl
  omega
theorem hd_no {bs : List Int} (h : bs.length < 3 ∨ bs[0]? ≠ some 82 ∨ bs[1]? ≠ some 50 ∨ bs[2]? ≠ some 49) : hdB bs = false := by
  rw [hdB, decide_eq_false_iff_not]
  intro he
  have h0 : bs[0]? = some 82 := by have := congrArg (fun l => l[0]?) he; simpa using this
  have h1 : bs[1]? = some 50 := by have := congrArg (fun l => l[1]?) he; simpa using this
  have h2 : bs[2]? = some 49 := by have := congrArg (fun l => l[2]?) he; simpa using this
  have hl := congrArg List.length he
  simp at hl
  rcases h with h | h | h | h
  · omega
  · exact h h0
  · exact h h1
  · exact h h2
theorem hd_yes {bs : List Int} (h0 : bs[0]? = some 82) (h1 : bs[1]? = some 50) (h2 : bs[2]? = some 49) : hdB bs = true := by
  match bs, h0, h1, h2 with
  | a :: b :: c :: l, h0, h1, h2 =>
    simp at h0 h1 h2
    subst h0 h1 h2
    simp [hdB]
theorem decL_no {bs : List Int} (h : hdB bs = false) : decL bs = ([], 1) := by rw [decL, h]; rfl

/-- What Decoded answers. -/
def DecC (bs : List Int) (w : World) (x : Ending) (w' : World) : Prop :=
  ∃ v, x = .returned (.tuple #[v, .int .i64 (decL bs).2]) ∧ OwnE w' w.heap.size v (decL bs).1 ∧ Fr w w'
theorem DecC.mk {bs : List Int} {w w' : World} {v : Value} {es : List Ev} {c : Int} (h : decL bs = (es, c)) (ho : OwnE w' w.heap.size v es) (hf : Fr w w') : DecC bs w (.returned (.tuple #[v, .int .i64 c])) w' := by
  refine ⟨v, by rw [h], by rw [h]; exact ho, hf⟩

set_option maxHeartbeats 4000000 in
theorem specDec_any (ao : Option Addr) (n cap : Nat) (bs : List Int) (w : World) (hn : bs.length = n) (h : ReadsB w ao bs) :
    Calls Tryd.prog 12 #[.slice ao n cap] w (DecC bs w) := by
  subst hn
  have hl := h.len
  have hu := h.bd
  have hE := ownE_new w
  have f0 := Fr.alloc w (.cells #[] 38)
  by_cases h3 : bs.length < 3
  · have HD : Hid (decL bs = ([], 1)) := decL_no (hd_no (.inl h3))
    go_enter Tryd.func12, Tryd.ntmps12
    go_wp2_with fail
    go_ret2
    exact DecC.mk HD.out hE f0
  · obtain ⟨b, off, rfl, hc⟩ := (h.fr f0).at_ 0 (by omega)
    have c0 := hc 0 (by omega)
    have c1 := hc 1 (by omega)
    have c2 := hc 2 (by omega)
    rw [getD_at (by omega)] at c0 c1 c2
    have g0 : bs[0]? = some bs[0] := List.getElem?_eq_getElem (by omega)
    have g1 : bs[1]? = some bs[1] := List.getElem?_eq_getElem (by omega)
    have g2 : bs[2]? = some bs[2] := List.getElem?_eq_getElem (by omega)
    obtain ⟨y0, hy0⟩ : ∃ y, y = bs[0] := ⟨_, rfl⟩
    obtain ⟨y1, hy1⟩ : ∃ y, y = bs[1] := ⟨_, rfl⟩
    obtain ⟨y2, hy2⟩ : ∃ y, y = bs[2] := ⟨_, rfl⟩
    rw [← hy0] at c0 g0
    rw [← hy1] at c1 g1
    rw [← hy2] at c2 g2
    rw [Nat.add_zero] at c0
    clear hy0 hy1 hy2 hc
    by_cases hd : y0 = 82 ∧ y1 = 50 ∧ y2 = 49
    · obtain ⟨rfl, rfl, rfl⟩ := hd
      have HS : Hid (DS3 bs [] 3) := DS3.start (hd_yes g0 g1 g2)
      clear g0 g1 g2
      go_enter Tryd.func12, Tryd.ntmps12
      go_wp2_with fail
      clear c0 c1 c2
      go_loopw [4, 5] (fun u i wr => ∃ (es : List Ev) (p : Nat), i = .int .i64 (p : Int) ∧ p ≤ bs.length ∧ OwnE wr w.heap.size u es ∧ Hid (DS3 bs es p) ∧ Fr w wr) (fun _ i _ => bs.length - (intOf i).toNat)
      case atStart => exact ⟨[], 3, rfl, by omega, hE, HS, f0⟩
      case round =>
        obtain ⟨es, p, rfl, hp, ho, HD, hf⟩ := hrel
        clear hE f0 HS
        have hs0 := hf.size
        have he3 := HD.out.2
        obtain ⟨ge, ce, rfl, hoe, hle⟩ := ho
        have ho : OwnE wr w.heap.size (.slice (some ⟨ge, 0, none⟩) es.length ce) es := ⟨ge, ce, rfl, hoe, hle⟩
        clear hoe
        by_cases hlt : p < bs.length
        · by_cases hm : es.length = 300
          · have HE : Hid (decL bs = (es, 4)) := HD.out.many hm hlt
            have hb : ((es.length : Int) == 300) = true := by simp; omega
            clear hm
            go_wp2_with fail
            go_ret2
            exact DecC.mk HE.out ho hf
          · have hb : ((es.length : Int) == 300) = false := by simp; omega
            have cL := l3Read_any (some ⟨b, off, none⟩) bs.length cap bs p wr rfl hp (h.fr hf)
            have HM : Hid (es.length ≠ 300) := hm
            clear hm
            go_wp2_with fail
            refine cL.mono ?_
            rintro x w2 ⟨f2, ⟨e, q, hr, rfl⟩ | ⟨c, y, hr, hcc, rfl⟩⟩
            · have HN : Hid (DS3 bs (es ++ [e]) q) := HD.out.step HM.out hlt hr
              have hq := rdEv_le hu hp hr
              clear hr cL HD
              have ho := ho.fr f2
              have hf := hf.trans f2
              have fe := Fr.alloc w2 (.cells #[.int .i64 e.k, .int .i64 e.g, .int .i64 e.o, .int .i64 e.w, .int .i64 e.l, .int .i64 e.s, .int .i64 e.f, .int .i64 e.t] 38)
              have hC := evC_new (w2.alloc (.cells #[.int .i64 e.k, .int .i64 e.g, .int .i64 e.o, .int .i64 e.w, .int .i64 e.l, .int .i64 e.s, .int .i64 e.f, .int .i64 e.t] 38)) e
              have hs2 := hf.size
              have es1 : (w2.alloc (.cells #[.int .i64 e.k, .int .i64 e.g, .int .i64 e.o, .int .i64 e.w, .int .i64 e.l, .int .i64 e.s, .int .i64 e.f, .int .i64 e.t] 38)).heap.size = w2.heap.size + 1 := by simp
              rw [es1] at hC
              have HC := (show Hid _ from hC)
              have HFE := (show Hid _ from fe.trans (Fr.alloc _ (.cells #[.int .i64 e.k, .int .i64 e.g, .int .i64 e.o, .int .i64 e.w, .int .i64 e.l, .int .i64 e.s, .int .i64 e.f, .int .i64 e.t] 38)))
              clear fe hC es1
              go_wp2_with (at_builtin; refine appE _ rfl _ _ rfl w.heap.size _ es e rfl (ho.fr HFE.out) (w2.heap.size + 1) 1 rfl HC.out (by omega) (by simp; omega) ?_; intro v6 w6 hv6 hg6 hat6)
              go_roundw
              case rel => exact ⟨es ++ [e], q, rfl, hq.2, hv6, HN, (hf.trans HFE.out).then hg6 ho.blk⟩
              case measure => simp [intOf]; omega
            · have HE : Hid (decL bs = (es, c)) := HD.out.err HM.out hlt hr
              clear hr cL HD
              rcases hcc with rfl | rfl
              · go_wp2_with fail
                go_ret2
                exact DecC.mk HE.out (ho.fr (f2.trans (Fr.alloc _ _))) (hf.trans (f2.trans (Fr.alloc _ _)))
              · go_wp2_with fail
                go_ret2
                exact DecC.mk HE.out (ho.fr (f2.trans (Fr.alloc _ _))) (hf.trans (f2.trans (Fr.alloc _ _)))
        · have HE : Hid (decL bs = (es, 0)) := HD.out.fin hlt
          go_wp2_with fail
          go_ret2
          exact DecC.mk HE.out ho hf
    · have HD : Hid (decL bs = ([], 1)) := by
        refine decL_no (hd_no (.inr ?_))
        rw [g0, g1, g2]
        simp only [ne_eq, Option.some.injEq]
        omega
      clear g0 g1 g2
      by_cases d0 : y0 = 82
      · subst d0
        by_cases d1 : y1 = 50
        · subst d1
          have b2 : (y2 != 49) = true := by simp; intro q; exact hd ⟨rfl, rfl, q⟩
          clear hd
          go_enter Tryd.func12, Tryd.ntmps12
          go_wp2_with fail
          go_ret2
          exact DecC.mk HD.out hE f0
        · have b1 : (y1 != 50) = true := by simpa using d1
          clear hd d1
          go_enter Tryd.func12, Tryd.ntmps12
          go_wp2_with fail
          go_ret2
          exact DecC.mk HD.out hE f0
      · have b0 : (y0 != 82) = true := by simpa using d0
        clear hd d0
        go_enter Tryd.func12, Tryd.ntmps12
        go_wp2_with fail
        go_ret2
        exact DecC.mk HD.out hE f0
end Go.Proofs.YthjnhfcncinhiaaDoor
/-
  The program's reader: header.
-/
namespace Go.Proofs.YthjnhfcncinhiaaDoor
open Go.RowKit

/-- What header answers. -/
def HdrC (bs : List Int) (r : Nat) (v : Value) (y : Addr) (w : World) (e : Ending) (w' : World) : Prop :=
  w.grownBy w' (some r) ∧
  ((hdB bs = true ∧ e = .returned .nilIface ∧ Rdr w' r v 3) ∨
   (hdB bs = false ∧ ∃ b i j, e = .returned (.iface 78 (.pointer (some ⟨b, 0, none⟩))) ∧ Flt w' b i (.iface 135 (.pointer (some y))) ∧ w.heap.size ≤ b ∧ Rdr w' r v j))

theorem str_head (a b c : Int) (ha : U8 a) (hb : U8 b) (hc : U8 c) : ((strOfNums [a, b, c]).toList == [82, 50, 49]) = decide (a = 82 ∧ b = 50 ∧ c = 49) := by
  obtain ⟨a0, a1⟩ := ha
  obtain ⟨b0, b1⟩ := hb
  obtain ⟨c0, c1⟩ := hc
  rw [ByteArray.toList_eq, Bool.eq_iff_iff, beq_iff_eq, decide_eq_true_eq, strOfNums_data]
  constructor
  · intro h
    have h1 := congrArg (fun l => l.map UInt8.toNat) h
    simp at h1
    omega
  · rintro ⟨rfl, rfl, rfl⟩
    rfl

set_option maxRecDepth 20000 in
set_option maxHeartbeats 1000000 in
theorem header_any (r : Nat) (ao : Option Addr) (n cap : Nat) (bs : List Int) (y : Addr) (w : World) (hn : bs.length = n) (h : ReadsB w ao bs) (hcap3 : 3 ≤ bs.length → 3 ≤ cap)
    (hr : Rdr w r (.slice ao n cap) 0) (hy : w.cell? ⟨2, 0, none⟩ = some (.iface 135 (.pointer (some y)))) :
    Calls Tryd.prog 42 #[.pointer (some ⟨r, 0, none⟩)] w (HdrC bs r (.slice ao n cap) y w) := by
  subst hn
  have c0 := hr.c0
  have c1 := hr.c1
  by_cases h3 : bs.length < 3
  · have HD : Hid (hdB bs = false) := hd_no (.inl h3)
    go_enter Tryd.func42, Tryd.ntmps42
    go_wp2_with fail
    go_ret
    exact ⟨(Fr.alloc w _).row _, .inr ⟨HD.out, w.heap.size, 0, 0, rfl, Flt.new w _ _, Nat.le_refl _, hr.fr (Fr.alloc w _)⟩⟩
  · obtain ⟨b, off, rfl, hc⟩ := h.at_ 0 (by omega)
    have a0 := hc 0 (by omega)
    have a1 := hc 1 (by omega)
    have a2 := hc 2 (by omega)
    rw [getD_at (by omega)] at a0 a1 a2
    have g0 : bs[0]? = some bs[0] := List.getElem?_eq_getElem (by omega)
    have g1 : bs[1]? = some bs[1] := List.getElem?_eq_getElem (by omega)
    have g2 : bs[2]? = some bs[2] := List.getElem?_eq_getElem (by omega)
    have u0 := h.bd _ (List.getElem_mem (show 0 < bs.length by omega))
    have u1 := h.bd _ (List.getElem_mem (show 1 < bs.length by omega))
    have u2 := h.bd _ (List.getElem_mem (show 2 < bs.length by omega))
    obtain ⟨y0, hy0⟩ : ∃ y, y = bs[0] := ⟨_, rfl⟩
    obtain ⟨y1, hy1⟩ : ∃ y, y = bs[1] := ⟨_, rfl⟩
    obtain ⟨y2, hy2⟩ : ∃ y, y = bs[2] := ⟨_, rfl⟩
    rw [← hy0] at a0 g0 u0
    rw [← hy1] at a1 g1 u1
    rw [← hy2] at a2 g2 u2
    rw [Nat.add_zero] at a0
    clear hy0 hy1 hy2
    have kc := run_convert_bytes_arg (P := Tryd.prog) w 22 5 Tryd.underlying22 Tryd.underlying5 b off 3 cap [y0, y1, y2] rfl (by
      intro i hi
      rcases (by omega : i = 0 ∨ i = 1 ∨ i = 2) with rfl | rfl | rfl
      · exact a0
      · exact a1
      · exact a2) 9 Tryd.underlying9
    have hs := str_head y0 y1 y2 u0 u1 u2
    have hcap : 3 ≤ cap := hcap3 (by omega)
    obtain ⟨S, hS⟩ : ∃ S, S = strOfNums [y0, y1, y2] := ⟨_, rfl⟩
    rw [← hS] at kc hs
    clear hS hc a0 a1 a2 h u0 u1 u2
    by_cases hd : y0 = 82 ∧ y1 = 50 ∧ y2 = 49
    · have HS : Hid (hdB bs = true) := by
        obtain ⟨rfl, rfl, rfl⟩ := hd
        exact hd_yes g0 g1 g2
      have hb : (S.toList == [82, 50, 49]) = true := by rw [hs]; exact decide_eq_true hd
      have rf := hr.free 1
      have hset := hr.set 3
      clear hd hs g0 g1 g2
      go_enter Tryd.func42, Tryd.ntmps42
      go_wp2_with fail
      go_ret
      exact ⟨grown_setCell w r 1 _, .inl ⟨HS.out, rfl, hset⟩⟩
    · have HD : Hid (hdB bs = false) := by
        refine hd_no (.inr ?_)
        rw [g0, g1, g2]
        simp only [ne_eq, Option.some.injEq]
        omega
      have hb : (S.toList == [82, 50, 49]) = false := by rw [hs]; exact decide_eq_false hd
      clear hd hs g0 g1 g2
      go_enter Tryd.func42, Tryd.ntmps42
      go_wp2_with fail
      go_ret
      exact ⟨(Fr.alloc w _).row _, .inr ⟨HD.out, w.heap.size, 0, 0, rfl, Flt.new w _ _, Nat.le_refl _, hr.fr (Fr.alloc w _)⟩⟩
end Go.Proofs.YthjnhfcncinhiaaDoor
/-
  The program's Decoded: events, Decoded.
-/
namespace Go.Proofs.YthjnhfcncinhiaaDoor
open Go.RowKit
set_option linter.unusedVariables false

/-- What events answers: the events and nil, or those ahead of a fault and it. -/
def EvsC (bs : List Int) (r : Nat) (eh en ee em : Addr) (w : World) (x : Ending) (w' : World) : Prop :=
  w.grownBy w' (some r) ∧ ∃ v, OwnE w' w.heap.size v (decL bs).1 ∧
  (((decL bs).2 = 0 ∧ x = .returned (.tuple #[v, .nilIface])) ∨
   (∃ y b i, isCode eh en ee em y (decL bs).2 ∧ x = .returned (.tuple #[v, .iface 78 (.pointer (some ⟨b, 0, none⟩))]) ∧ Flt w' b i (.iface 135 (.pointer (some y)))))
theorem EvsC.mk0 {bs : List Int} {r : Nat} {eh en ee em : Addr} {w w' : World} {v : Value} {es : List Ev} (h : decL bs = (es, 0)) (k : w.grownBy w' (some r)) (ho : OwnE w' w.heap.size v es) : EvsC bs r eh en ee em w (.returned (.tuple #[v, .nilIface])) w' :=
  ⟨k, v, by rw [h]; exact ho, .inl ⟨by rw [h], rfl⟩⟩
theorem EvsC.mk1 {bs : List Int} {r : Nat} {eh en ee em y : Addr} {w w' : World} {v : Value} {es : List Ev} {c i : Int} {b : Nat} (h : decL bs = (es, c)) (k : w.grownBy w' (some r)) (ho : OwnE w' w.heap.size v es) (hc : isCode eh en ee em y c) (hF : Flt w' b i (.iface 135 (.pointer (some y)))) : EvsC bs r eh en ee em w (.returned (.tuple #[v, .iface 78 (.pointer (some ⟨b, 0, none⟩))])) w' :=
  ⟨k, v, by rw [h]; exact ho, .inr ⟨y, b, i, by rw [h]; exact hc, rfl, hF⟩⟩

/-- How long a slice is, for a loop's measure. -/
def lenE : Value → Nat | .slice _ n _ => n | _ => 0

set_option maxRecDepth 20000 in
set_option maxHeartbeats 2000000 in
theorem events_any (r : Nat) (ao : Option Addr) (cap : Nat) (bs : List Int) (eh en ee em : Addr) (w : World) (hR : RdrS w r ao bs.length cap bs 0) (hcap : 3 ≤ bs.length → 3 ≤ cap)
    (hv : ErrV eh en ee em w) (hrn : 1 < r ∧ 2 < r ∧ 3 < r ∧ 4 < r ∧ 0 < r) (hs : Shapes w) :
    Calls Tryd.prog 23 #[.pointer (some ⟨r, 0, none⟩)] w (EvsC bs r eh en ee em w) := by
  obtain ⟨rm, rh, rn, re, rs⟩ := hrn
  have hu := hR.bs.bd
  have hbl := hR.bs.len
  have hrl := hR.rd.lt
  have hE := ownE_new w
  have f0 := Fr.alloc w (.cells #[] 38)
  have hR0 := hR.fr f0
  have cH := header_any r ao bs.length cap bs eh _ rfl hR0.bs hcap hR0.rd (f0.cell hv.ch)
  go_enter Tryd.func23, Tryd.ntmps23
  go_wp2_with fail
  refine cH.mono ?_
  rintro x w1 ⟨k1, ⟨hd, rfl, hr1⟩ | ⟨hd, b, i, j, rfl, hF, hb, hr1⟩⟩
  · have HS : Hid (DS3 bs [] 3) := DS3.start hd
    have hlen : 3 ≤ bs.length := by
      have h3 : bs.take 3 = [82, 50, 49] := by simpa [hdB] using hd
      have := congrArg List.length h3
      simp at this
      omega
    have hR1 := hR0.went k1 hr1
    have hE1 := hE.keep k1 (by simp [Value.ownBlock]; omega)
    have k01 := gthen (f0.row (some r)) k1 (fun j hj => .inr (by simpa using hj.symm))
    clear hd cH hE k1 hR0 hr1
    go_wp2_with fail
    go_loopw [4] (fun u wr => ∃ (es : List Ev) (p : Nat), p ≤ bs.length ∧ RdrS wr r ao bs.length cap bs (p : Int) ∧ OwnE wr w.heap.size u es ∧ Hid (DS3 bs es p) ∧ w.grownBy wr (some r)) (fun u _ => 300 - lenE u)
    case atStart => exact ⟨[], 3, hlen, hR1, hE1, HS, k01⟩
    case round =>
      obtain ⟨es, p, hp, hRp, ho, HD, kp⟩ := hrel
      clear hR1 hE1 HS k01
      have sp := kp.size
      have he3 := HD.out.2
      have cM := more_any r ao bs.length cap p wr hRp.rd
      have ho' := ho
      obtain ⟨ge, ce, rfl, hoe, hle⟩ := ho
      have hgl := hoe.lt ge rfl
      clear hoe
      by_cases hlt : p < bs.length
      · rw [inB_mk (by omega) (by omega)] at cM
        by_cases hm : es.length = 300
        · have HE : Hid (decL bs = (es, 4)) := HD.out.many hm hlt
          have hb : ((es.length : Int) == 300) = true := by simp; omega
          have cem := kp.cell hv.cm (by simp; omega)
          have r1 := hRp.rd.c1
          clear hm
          go_wp2_with fail
          refine (cM).mono ?_
          rintro e w2 ⟨rfl, nq, rfl⟩
          have c1 : (wr.drewN nq).cell? ⟨r, 1, none⟩ = _ := r1
          have c2 : (wr.drewN nq).cell? ⟨1, 0, none⟩ = _ := cem
          have fF := Fr.alloc wr (.cells #[.int .i64 (p : Int), .iface 135 (.pointer (some em))] 80)
          have c3 := fF.cell r1
          go_wp2_with fail
          go_region
          all_goals (
            go_wp2_with fail
            go_ret2
            have fX : Fr wr ((wr.drewN (nq + 1)).alloc (.cells #[.int .i64 (p : Int), .iface 135 (.pointer (some em))] 80)) := (Fr.drewN wr (nq + 1)).trans (Fr.alloc _ _)
            exact EvsC.mk1 HE.out (gthen kp fX gnone) (ho'.fr fX) (.inr (.inr (.inr ⟨rfl, rfl⟩))) (Flt.new (wr.drewN (nq + 1)) _ _))
        · have hb : ((es.length : Int) == 300) = false := by simp; omega
          have HM : Hid (es.length ≠ 300) := hm
          clear hm
          go_wp2_with fail
          refine (cM).mono ?_
          rintro e w2 ⟨rfl, nq, rfl⟩
          have fd := Fr.drewN wr nq
          have kd := gthen kp fd gnone
          have cE := event_any r ao cap bs p en ee (wr.drewN nq) hp (hRp.fr fd) (kd.cell hv.cn (by simp; omega)) (kd.cell hv.ce (by simp; omega)) (by omega) (by omega) (by omega) (hs.keep kd (by simp; omega))
          have ho'' := ho'.fr fd
          clear cM
          go_wp2_with fail
          refine cE.mono ?_
          rintro x w3 ⟨k3, ⟨e, q, hr, rfl, hR3⟩ | ⟨c, y, b, i, j, hr, hcc, rfl, hF, hb2, hR3⟩⟩
          · have HN : Hid (DS3 bs (es ++ [e]) q) := HD.out.step HM.out hlt hr
            have hq := rdEv_le hu hp hr
            have ho3 := ho''.keep k3 (by simp [Value.ownBlock]; omega)
            have kk3 := gthen kd k3 (fun j hj => .inr (by simpa using hj.symm))
            have s3 := kk3.size
            have hes := HM.out
            have hes2 : es.length < 300 := by omega
            clear hr cE HD hes
            have fe := Fr.alloc w3 (.cells #[.int .i64 e.k, .int .i64 e.g, .int .i64 e.o, .int .i64 e.w, .int .i64 e.l, .int .i64 e.s, .int .i64 e.f, .int .i64 e.t] 38)
            have hC := evC_new (w3.alloc (.cells #[.int .i64 e.k, .int .i64 e.g, .int .i64 e.o, .int .i64 e.w, .int .i64 e.l, .int .i64 e.s, .int .i64 e.f, .int .i64 e.t] 38)) e
            have es1 : (w3.alloc (.cells #[.int .i64 e.k, .int .i64 e.g, .int .i64 e.o, .int .i64 e.w, .int .i64 e.l, .int .i64 e.s, .int .i64 e.f, .int .i64 e.t] 38)).heap.size = w3.heap.size + 1 := by simp
            rw [es1] at hC
            have HC := (show Hid _ from hC)
            have HFE := (show Hid _ from fe.trans (Fr.alloc _ (.cells #[.int .i64 e.k, .int .i64 e.g, .int .i64 e.o, .int .i64 e.w, .int .i64 e.l, .int .i64 e.s, .int .i64 e.f, .int .i64 e.t] 38)))
            clear fe hC es1
            go_wp2_with (at_builtin; refine appE _ rfl _ _ rfl w.heap.size _ es e rfl (ho3.fr HFE.out) (w3.heap.size + 1) 1 rfl HC.out (by omega) (by simp; omega) ?_; intro v6 w6 hv6 hg6 hat6)
            have hbk := ho3.blk
            go_roundw
            case rel =>
              have hnr : (Value.slice (some ⟨ge, 0, none⟩) es.length ce).ownBlock ≠ some r := by simp [Value.ownBlock]; omega
              exact ⟨es ++ [e], q, hq.2, (hR3.fr HFE.out).keep hg6 hnr (.inr (fun qq => by have := hR.lt _ qq; have := hbk _ rfl; simp only at *; omega)), hv6, HN, gthen (gthen kk3 HFE.out gnone) hg6 (fun j hj => .inl (hbk j hj))⟩
            case measure =>
              obtain ⟨g7, c7, rfl, -⟩ := hv6
              simp [lenE]
              omega
          · have HE : Hid (decL bs = (es, c)) := HD.out.err HM.out hlt hr
            have hcd : isCode eh en ee em y c := by
              rcases hcc with ⟨rfl, rfl⟩ | ⟨rfl, rfl⟩
              · exact .inr (.inl ⟨rfl, rfl⟩)
              · exact .inr (.inr (.inl ⟨rfl, rfl⟩))
            have ho3 := ho''.keep k3 (by simp [Value.ownBlock]; omega)
            have kk3 := gthen kd k3 (fun j hj => .inr (by simpa using hj.symm))
            clear hr cE HD hcc
            go_wp2_with fail
            go_ret2
            have fz := Fr.alloc w3 (.cells #[.int .i64 0, .int .i64 0, .int .i64 0, .int .i64 0, .int .i64 0, .int .i64 0, .int .i64 0, .int .i64 0] 38)
            exact EvsC.mk1 HE.out (gthen kk3 fz gnone) (ho3.fr fz) hcd (hF.keep fz (by simp))
      · rw [inB_not (by omega)] at cM
        have HE : Hid (decL bs = (es, 0)) := HD.out.fin hlt
        go_wp2_with fail
        refine (cM).mono ?_
        rintro e w2 ⟨rfl, nq, rfl⟩
        go_wp2_with fail
        go_ret2
        exact EvsC.mk0 HE.out (gthen kp (Fr.drewN wr nq) gnone) (ho'.fr (Fr.drewN wr nq))
  · have HE : Hid (decL bs = ([], 1)) := decL_no hd
    have hE1 := hE.keep k1 (by simp [Value.ownBlock]; omega)
    have k01 := gthen (f0.row (some r)) k1 (fun j hj => .inr (by simpa using hj.symm))
    clear hd cH
    go_wp2_with fail
    go_ret2
    exact EvsC.mk1 HE.out k01 hE1 (.inl ⟨rfl, rfl⟩) hF

set_option maxHeartbeats 1000000 in
theorem implDec_any (ao : Option Addr) (n cap : Nat) (bs : List Int) (eh en ee em : Addr) (w : World) (hn : bs.length = n) (h : ReadsB w ao bs) (hab : ∀ j, blk ao = some j → j < w.heap.size) (hcap : 3 ≤ bs.length → 3 ≤ cap) (hv : ErrV eh en ee em w) (hs : Shapes w) :
    Calls Tryd.prog 9 #[.slice ao n cap] w (DecC bs w) := by
  subst hn
  have hrd := Rdr.new w (.slice ao bs.length cap) 0
  have f0 := Fr.alloc w (.cells #[.slice ao bs.length cap, .int .i64 0] 47)
  have gm : 1 < w.heap.size := World.block_lt_of_cell? w _ hv.cm
  have gh : 2 < w.heap.size := World.block_lt_of_cell? w _ hv.ch
  have gn : 3 < w.heap.size := World.block_lt_of_cell? w _ hv.cn
  have ge : 4 < w.heap.size := World.block_lt_of_cell? w _ hv.ce
  have gs := hs.lt
  have cE := events_any w.heap.size ao cap bs eh en ee em _ ⟨hrd, h.fr f0, hab⟩ hcap (hv.fr f0) ⟨gm, gh, gn, ge, gs⟩ (hs.fr f0)
  go_enter Tryd.func9, Tryd.ntmps9
  go_wp2_with fail
  refine cE.mono ?_
  rintro x w1 ⟨k1, v, ho, ⟨hc, rfl⟩ | ⟨y, b, i, hc, rfl, hF⟩⟩
  · have f1 : Fr w w1 := f0.then k1 (fun j hj => by simp only [Option.some.injEq] at hj; omega)
    have HC : Hid ((decL bs).2 = 0) := hc
    clear hc cE hrd
    go_wp2_with fail
    refine (code_nil _).mono ?_
    rintro e w2 ⟨rfl, rfl⟩
    go_wp2_with fail
    go_ret2
    refine ⟨v, ?_, ho.lower f0.size, f1⟩
    rw [HC.out]
    rfl
  · have f1 : Fr w w1 := f0.then k1 (fun j hj => by simp only [Option.some.injEq] at hj; omega)
    have cC := code_any eh en ee em y b i _ w1 (hv.fr f1) hF hc
    obtain ⟨C, hC⟩ : ∃ C, C = (decL bs).2 := ⟨_, rfl⟩
    rw [← hC] at cC
    have HC : Hid (C = (decL bs).2) := hC
    clear hC hc cE hrd
    go_wp2_with fail
    refine (cC).mono ?_
    rintro e w2 ⟨rfl, rfl⟩
    go_wp2_with fail
    go_ret2
    refine ⟨v, ?_, ho.lower f0.size, f1⟩
    rw [← HC.out]
    rfl
end Go.Proofs.YthjnhfcncinhiaaDoor
/-
  The walk of the laws' likeBytes, of two like lists of bytes.
-/
namespace Go.Proofs.YthjnhfcncinhiaaDoor
open Go.RowKit

theorem readsB_conv {w : World} {b off n cap : Nat} {xs : List Int} (hn : xs.length = n) (h : ReadsB w (some ⟨b, off, none⟩) xs) : (convert 22 9 (.slice (some ⟨b, off, none⟩) n cap)).run Tryd.prog w = .ok (.string (strOfNums xs)) w := by
  refine run_convert_bytes_arg (P := Tryd.prog) w 22 5 Tryd.underlying22 Tryd.underlying5 b off n cap xs hn (fun i hi => ?_) _ Tryd.underlying9
  obtain ⟨b', o', e, hc⟩ := h.at_ i (by omega)
  simp only [Option.some.injEq, Addr.mk.injEq, and_true] at e
  obtain ⟨rfl, rfl⟩ := e
  exact hc i (by omega)

set_option maxHeartbeats 400000 in
theorem likeB_same (b off b' off' n c d : Nat) (xs : List Int) (w : World) (hn : xs.length = n) (h : ReadsB w (some ⟨b, off, none⟩) xs) (h' : ReadsB w (some ⟨b', off', none⟩) xs) :
    Calls Tryd.prog 13 #[.slice (some ⟨b, off, none⟩) n c, .slice (some ⟨b', off', none⟩) n d] w fun e w' => e = .returned (.bool true) ∧ w' = w := by
  have k1 := readsB_conv (cap := c) hn h
  have k2 := readsB_conv (cap := d) hn h'
  go_enter Tryd.func13, Tryd.ntmps13
  go_wp2_with fail
  go_ret
  exact ⟨rfl, rfl⟩
end Go.Proofs.YthjnhfcncinhiaaDoor
