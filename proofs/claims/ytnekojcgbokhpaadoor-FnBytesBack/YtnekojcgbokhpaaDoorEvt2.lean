/-
  The program's reader: event, where the Kind is one.
-/
import Derived.Test.YtnekojcgbokhpaaDoorEvt
namespace Go.Proofs.YtnekojcgbokhpaaDoor
open Go.RowKit
set_option linter.unusedVariables false

set_option maxRecDepth 20000 in
set_option maxHeartbeats 1000000 in
theorem event_true (r : Nat) (ao : Option Addr) (cap : Nat) (bs : List Int) (p : Nat) (en ee : Addr) (w : World) (hp : p ≤ bs.length) (hR : RdrS w r ao bs.length cap bs (p : Int))
    (hn : w.cell? ⟨3, 0, none⟩ = some (.iface 195 (.pointer (some en)))) (he : w.cell? ⟨4, 0, none⟩ = some (.iface 195 (.pointer (some ee)))) (hrn : r ≠ 3) (hre : r ≠ 4) (hrs : r ≠ 0) (hs : Shapes w) (k : Int) (q : Nat) (hr : rdN bs p = some (k, q)) (hk : inB 1 22 k = true) :
    Calls Tryd.prog 71 #[.pointer (some ⟨r, 0, none⟩)] w (EvtC bs p r ao cap en ee w) := by
  have hu := hR.bs.bd
  have hrl := hR.rd.lt
  have f0 := Fr.alloc w (.cells #[.int .i64 0, .int .i64 0, .int .i64 0, .int .i64 0, .int .i64 0, .int .i64 0, .int .i64 0, .int .i64 0] 49)
  have hz := EvB.new w ⟨0, 0, 0, 0, 0, 0, 0, 0⟩
  have hR0 := hR.fr f0
  have r1 := hR0.rd.c1
  have hel : 4 < w.heap.size := World.block_lt_of_cell? w _ he
  have hnl : 3 < w.heap.size := World.block_lt_of_cell? w _ hn
  have c1 := number_ok hR0 hp (f0.cell hn) hrn hr
  have hq := (rdN_lt hu hr).2
  have HR : Hid (rdN bs p = some (k, q)) := hr
  have cK := fun w => kindIn_any k w
  clear hr
  rw [hk] at cK
  have HK : Hid (inB 1 22 k = true) := hk
  obtain ⟨n, hn22, hkn⟩ := kinds hk
  have HKN : Hid (k = (n : Int) + 1) := hkn
  have hofi := (offs_in (k := k)).1
  have hofl := offs_len k
  clear hk hkn
  obtain ⟨os, hos⟩ : ∃ os, os = offs k := ⟨_, rfl⟩
  have HOS : Hid (os = offs k) := hos
  rw [← hos] at hofi hofl
  clear hos
  go_enter Tryd.func71, Tryd.ntmps71
  go_wp2_with fail
  refine c1.mono ?_
  rintro x w1 ⟨rfl, hR1, k1⟩
  go_wp2_with fail
  refine (cK _).mono ?_
  rintro e w2 ⟨rfl, rfl⟩
  have hz1 := hz.keep k1 (by simp; omega)
  have k2 := gthen (f0.row (some r)) k1 (fun j hj => .inr (by simpa using hj.symm))
  have s2 := k2.size
  have hzl := hz1.lt
  have fE := Fr.alloc w2 (.cells #[.int .i64 k, .int .i64 0, .int .i64 0, .int .i64 0, .int .i64 0, .int .i64 0, .int .i64 0, .int .i64 0] 49)
  have hE1 := EvB.new w2 (ev0 k)
  have hEk := hE1.at.1
  have cP := partsOf_any w2.heap.size n hn22 _ ((hs.keep k2 (by simpa using hrs)).fr fE) (by rw [← HKN.out]; exact hEk)
  rw [← HKN.out, ← HOS.out] at cP
  clear c1 cK hz r1 hEk
  go_wp2_with fail
  refine cP.mono ?_
  rintro x w3 ⟨v3, rfl, o3, f3⟩
  obtain ⟨gp, cp, rfl, gpb, gpl, -, hcp⟩ := o3.open
  have hE3 : EvB w3 w2.heap.size (ev0 k) := hE1.keep f3 (by simp)
  have hz3 := (hz1.keep fE (by simp)).keep f3 (by simp)
  have hR3 := (hR1.fr fE).fr f3
  have k3 := gthen (gthen k2 fE gnone) f3 gnone
  have es1 : (w2.alloc (.cells #[.int .i64 k, .int .i64 0, .int .i64 0, .int .i64 0, .int .i64 0, .int .i64 0, .int .i64 0, .int .i64 0] 49)).heap.size = w2.heap.size + 1 := by simp
  rw [es1] at gpb
  obtain ⟨eb, heb⟩ : ∃ eb, eb = w2.heap.size := ⟨_, rfl⟩
  rw [← heb] at hE3 gpb hcp hzl s2
  simp only [← heb]
  clear cP hE1 fE f3 o3 es1 hz1 hR1 k1 k2 heb
  have HQ : Hid (rdSeq bs (os.drop 0) q (ev0 k) = rdSeq bs os q (ev0 k)) := rfl
  have hnw : ∀ wr, w.grownBy wr (some r) → wr.cell? ⟨3, 0, none⟩ = some (.iface 195 (.pointer (some en))) := fun wr kk => kk.cell hn (by simp; omega)
  go_wp2_with fail
  go_loopw [36] (fun i wr => ∃ (t pt : Nat) (e : Ev), t ≤ os.length ∧ i = .int .i64 (t : Int) ∧ pt ≤ bs.length ∧ RdrS wr r ao bs.length cap bs (pt : Int) ∧ EvB wr eb e ∧ EvB wr w.heap.size ⟨0, 0, 0, 0, 0, 0, 0, 0⟩ ∧ (∀ t (ht : t < os.length), wr.cell? ⟨gp, t, none⟩ = some (.pointer (some ⟨eb, os[t], none⟩))) ∧ Hid (rdSeq bs (os.drop t) pt e = rdSeq bs os q (ev0 k)) ∧ w.grownBy wr (some r)) (fun i _ => os.length - (intOf i).toNat)
  case atStart => exact ⟨0, q, ev0 k, Nat.zero_le _, rfl, hq, hR3, hE3, hz3, hcp, HQ, k3⟩
  case round =>
    obtain ⟨t, pt, e, ht, rfl, hpt, hRt, hEt, hzt, hct, HT, kt⟩ := hrel
    clear hR3 hE3 hz3 hcp HQ k3
    have st := kt.size
    have lE := hEt.lt
    have lZ := hzt.lt
    by_cases hlt : t < os.length
    · have hc := hct t hlt
      have ho := hofi _ (List.getElem_mem hlt)
      have hen := hnw wr kt
      cases hr2 : rdN bs pt with
      | none =>
        have c2 := number_no hRt hpt hen hrn hr2
        have HE : Hid (rdEv bs p = .error 2) := by
          refine rdEv_seq HR.out HK.out ?_
          rw [← HOS.out, ← HT.out]
          exact rdSeq_stop hlt hr2 e
        obtain ⟨o, hoo⟩ : ∃ o, o = os[t] := ⟨_, rfl⟩
        rw [← hoo] at hc ho
        clear hoo hr2 HT hct
        go_wp2_with fail
        refine c2.mono ?_
        rintro x w5 ⟨b, j, rfl, hF, hb, hR5, k5⟩
        have hE5 := hEt.keep k5 (by simp; omega)
        have hz5 := hzt.keep k5 (by simp; omega)
        have ce := hE5.at.at o ho.2
        have zE := hE5.free o
        have gE := grown_st w5 eb o (.int .i64 0)
        have hz6 := hz5.keep gE (by simp; omega)
        obtain ⟨b0, b1, b2, b3, b4, b5, b6, b7⟩ := hz6.at
        have z := hz6.free
        have gz := S8.grown (w5.setCell ⟨eb, o, none⟩ (.int .i64 0)) w.heap.size
        have hz7 := S8.ev hz6
        have hbl := hF.lt
        clear c2
        go_wp2_with fail
        obtain ⟨d0, d1, d2, d3, d4, d5, d6, d7⟩ := hz7.at
        simp only [S8] at d0 d1 d2 d3 d4 d5 d6 d7
        have kk := gthen (gthen (gthen kt k5 (fun j hj => .inr (by simpa using hj.symm))) gE (fun j hj => .inl (by simp only [Option.some.injEq] at hj; omega))) gz (fun j hj => .inl (by simp only [Option.some.injEq] at hj; omega))
        have hFF := (hF.keep gE (by simp; omega)).keep gz (by simp; omega)
        have hRR := (hR5.keep gE (by simp; omega) (.inr (hR.far (by omega)))).keep gz (by simp; omega) (.inr (hR.far hrl))
        exact bodyPost_ret (v := .tuple #[.agg #[.int .i64 0, .int .i64 0, .int .i64 0, .int .i64 0, .int .i64 0, .int .i64 0, .int .i64 0, .int .i64 0], .iface 113 (.pointer (some ⟨b, 0, none⟩))]) (by simp [results, Tryd.results71, go_sem, d0, d1, d2, d3, d4, d5, d6, d7]) rfl
          ⟨kk, .inr ⟨2, en, b, pt, j, HE.out, .inl ⟨rfl, rfl⟩, rfl, hFF, by omega, hRR⟩⟩
      | some mq =>
        obtain ⟨m, pn⟩ := mq
        have c2 := number_ok hRt hpt hen hrn hr2
        have hpn := (rdN_lt hu hr2).2
        have HN : Hid (rdSeq bs (os.drop (t + 1)) pn (e.put os[t] m) = rdSeq bs os q (ev0 k)) := by
          show _ = _
          rw [← HT.out, rdSeq_step hlt hr2]
        obtain ⟨o, hoo⟩ : ∃ o, o = os[t] := ⟨_, rfl⟩
        rw [← hoo] at hc ho HN
        have HCT := (show Hid _ from hct)
        clear hoo hr2 HT hct
        go_wp2_with fail
        refine c2.mono ?_
        rintro x w5 ⟨rfl, hR5, k5⟩
        have hE5 := hEt.keep k5 (by simp; omega)
        have hz5 := hzt.keep k5 (by simp; omega)
        have ce := hE5.at.at o ho.2
        have zE := hE5.free o
        have gE := grown_st w5 eb o (.int .i64 m)
        have hE6 := hE5.putAt o ho.2 m
        have hz6 := hz5.keep gE (by simp; omega)
        have hct5 : ∀ t (ht : t < os.length), (w5.setCell ⟨eb, o, none⟩ (.int .i64 m)).cell? ⟨gp, t, none⟩ = some (.pointer (some ⟨eb, os[t], none⟩)) := fun t ht => gE.cell (k5.cell (HCT.out t ht) (by simp; omega)) (by simp; omega)
        have hR6 := hR5.keep gE (by simp; omega) (.inr (hR.far (by omega)))
        have k6 := gthen (gthen kt k5 (fun j hj => .inr (by simpa using hj.symm))) gE (fun j hj => .inl (by simp only [Option.some.injEq] at hj; omega))
        have HB := (show Hid _ from hct5)
        clear c2 hct5
        go_wp2_with fail
        go_roundw
        case rel => exact ⟨t + 1, pn, _, by omega, by go_num, hpn, hR6, hE6, hz6, HB.out, HN, k6⟩
        case measure => simp [intOf]; omega
    · have HV : Hid (rdEv bs p = if evOk e then .ok (e, pt) else .error 3) := by
        refine rdEv_fin HR.out HK.out ?_
        rw [← HOS.out, ← HT.out, List.drop_eq_nil_of_le (by omega)]
        rfl
      have cO := implOk_any e wr (hs.keep kt (by simpa using hrs))
      have hee := kt.cell he (by simp; omega)
      obtain ⟨x0, x1, x2, x3, x4, x5, x6, x7⟩ := hEt.at
      clear HT hct hnw
      cases ho : evOk e with
      | false =>
        rw [ho] at cO
        have HE : Hid (rdEv bs p = .error 3) := by
          have := HV.out
          rw [ho] at this
          show _ = _
          simpa using this
        clear HV ho
        go_wp2_with fail
        refine cO.mono ?_
        rintro x w5 ⟨rfl, f5⟩
        have hz5 := hzt.keep f5 (by simp)
        have hR5 := hRt.fr f5
        have k5 := gthen kt f5 gnone
        have he1 := f5.cell hee
        obtain ⟨b0, b1, b2, b3, b4, b5, b6, b7⟩ := hz5.at
        have z := hz5.free
        have fF := Fr.alloc w5 (.cells #[.int .i64 (p : Int), .iface 195 (.pointer (some ee))] 115)
        have hzF := hz5.keep fF (by simp)
        obtain ⟨v0, v1, v2, v3, v4, v5, v6, v7⟩ := hzF.at
        have zF := hzF.free
        have gz := grown_st8 w5 w.heap.size (.int .i64 0) (.int .i64 0) (.int .i64 0) (.int .i64 0) (.int .i64 0) (.int .i64 0) (.int .i64 0) (.int .i64 0)
        have he2 := gz.cell he1 (by simp; omega)
        clear cO x0 x1 x2 x3 x4 x5 x6 x7 hEt hzt hRt kt
        go_wp2_with fail
        go_region
        · go_wp2_with fail
          obtain ⟨hzX, hX⟩ := fault_ok (W := (S8 (w5.alloc (.cells #[.int .i64 (p : Int), .iface 195 (.pointer (some ee))] 115)) w.heap.size).drew) (ee := ee) (en := en) hz5 (Nat.le_refl _) hrl k5 hR5 HE.out (.inl ⟨rfl, rfl⟩)
          obtain ⟨d0, d1, d2, d3, d4, d5, d6, d7⟩ := hzX.at
          simp only [S8] at d0 d1 d2 d3 d4 d5 d6 d7
          exact bodyPost_ret (v := .tuple #[.agg #[.int .i64 0, .int .i64 0, .int .i64 0, .int .i64 0, .int .i64 0, .int .i64 0, .int .i64 0, .int .i64 0], .iface 113 (.pointer (some ⟨w5.heap.size, 0, none⟩))]) (by simp [results, Tryd.results71, go_sem, d0, d1, d2, d3, d4, d5, d6, d7]) rfl hX
        · go_wp2_with fail
          obtain ⟨hzX, hX⟩ := fault_ok (W := ((S8 w5 w.heap.size).alloc (.cells #[.int .i64 (p : Int), .iface 195 (.pointer (some ee))] 115)).drew) (ee := ee) (en := en) hz5 (Nat.le_refl _) hrl k5 hR5 HE.out (.inr ⟨rfl, rfl⟩)
          obtain ⟨d0, d1, d2, d3, d4, d5, d6, d7⟩ := hzX.at
          simp only [S8] at d0 d1 d2 d3 d4 d5 d6 d7
          exact bodyPost_ret (v := .tuple #[.agg #[.int .i64 0, .int .i64 0, .int .i64 0, .int .i64 0, .int .i64 0, .int .i64 0, .int .i64 0, .int .i64 0], .iface 113 (.pointer (some ⟨w5.heap.size, 0, none⟩))]) (by simp [results, Tryd.results71, go_sem, d0, d1, d2, d3, d4, d5, d6, d7]) rfl hX
      | true =>
        rw [ho] at cO
        have HE : Hid (rdEv bs p = .ok (e, pt)) := by
          have := HV.out
          rw [ho] at this
          show _ = _
          simpa using this
        clear HV ho
        go_wp2_with fail
        refine cO.mono ?_
        rintro x w5 ⟨rfl, f5⟩
        have hz5 := hzt.keep f5 (by simp)
        have hE5 := hEt.keep f5 (by simp)
        have hR5 := hRt.fr f5
        have k5 := gthen kt f5 gnone
        obtain ⟨b0, b1, b2, b3, b4, b5, b6, b7⟩ := hz5.at
        have z := hz5.free
        obtain ⟨v0, v1, v2, v3, v4, v5, v6, v7⟩ := hE5.at
        have gz := grown_st8 w5 w.heap.size (.int .i64 e.k) (.int .i64 e.g) (.int .i64 e.o) (.int .i64 e.w) (.int .i64 e.l) (.int .i64 e.s) (.int .i64 e.f) (.int .i64 e.t)
        have hz6 := hz5.set8 e
        clear cO x0 x1 x2 x3 x4 x5 x6 x7 hEt hzt hRt kt
        go_wp2_with fail
        obtain ⟨d0, d1, d2, d3, d4, d5, d6, d7⟩ := hz6.at
        have kk := gthen k5 gz (fun j hj => .inl (by simp only [Option.some.injEq] at hj; omega))
        exact bodyPost_ret (v := .tuple #[.agg #[.int .i64 e.k, .int .i64 e.g, .int .i64 e.o, .int .i64 e.w, .int .i64 e.l, .int .i64 e.s, .int .i64 e.f, .int .i64 e.t], .nilIface]) (by simp [results, Tryd.results71, go_sem, d0, d1, d2, d3, d4, d5, d6, d7]) rfl
          ⟨kk, .inl ⟨e, pt, HE.out, rfl, hR5.keep gz (by simp; omega) (.inr (hR.far hrl))⟩⟩

theorem event_any (r : Nat) (ao : Option Addr) (cap : Nat) (bs : List Int) (p : Nat) (en ee : Addr) (w : World) (hp : p ≤ bs.length) (hR : RdrS w r ao bs.length cap bs (p : Int))
    (hn : w.cell? ⟨3, 0, none⟩ = some (.iface 195 (.pointer (some en)))) (he : w.cell? ⟨4, 0, none⟩ = some (.iface 195 (.pointer (some ee)))) (hrn : r ≠ 3) (hre : r ≠ 4) (hrs : r ≠ 0) (hs : Shapes w) :
    Calls Tryd.prog 71 #[.pointer (some ⟨r, 0, none⟩)] w (EvtC bs p r ao cap en ee w) := by
  cases hr : rdN bs p with
  | none => exact event_none r ao cap bs p en ee w hp hR hn he hrn hre hrs hs hr
  | some kq =>
    obtain ⟨k, q⟩ := kq
    cases hk : inB 1 22 k with
    | false => exact event_kind r ao cap bs p en ee w hp hR hn he hrn hre hrs hs k q hr hk
    | true => exact event_true r ao cap bs p en ee w hp hR hn he hrn hre hrs hs k q hr hk
end Go.Proofs.YtnekojcgbokhpaaDoor
