/-
  The program's Decoded: events, Decoded.
-/
import Derived.Test.YtnekojcgbokhpaaDoorEvt2
import Derived.Test.YtnekojcgbokhpaaDoorHdr
import Derived.Test.YtnekojcgbokhpaaDoorEvsApp
namespace Go.Proofs.YtnekojcgbokhpaaDoor
open Go.RowKit
set_option linter.unusedVariables false

/-- What events answers: the events and nil, or those ahead of a fault and it. -/
def EvsC (bs : List Int) (r : Nat) (eh en ee em : Addr) (w : World) (x : Ending) (w' : World) : Prop :=
  w.grownBy w' (some r) ∧ ∃ v, OwnE w' w.heap.size v (decL bs).1 ∧
  (((decL bs).2 = 0 ∧ x = .returned (.tuple #[v, .nilIface])) ∨
   (∃ y b i, isCode eh en ee em y (decL bs).2 ∧ x = .returned (.tuple #[v, .iface 113 (.pointer (some ⟨b, 0, none⟩))]) ∧ Flt w' b i (.iface 195 (.pointer (some y)))))
theorem EvsC.mk0 {bs : List Int} {r : Nat} {eh en ee em : Addr} {w w' : World} {v : Value} {es : List Ev} (h : decL bs = (es, 0)) (k : w.grownBy w' (some r)) (ho : OwnE w' w.heap.size v es) : EvsC bs r eh en ee em w (.returned (.tuple #[v, .nilIface])) w' :=
  ⟨k, v, by rw [h]; exact ho, .inl ⟨by rw [h], rfl⟩⟩
theorem EvsC.mk1 {bs : List Int} {r : Nat} {eh en ee em y : Addr} {w w' : World} {v : Value} {es : List Ev} {c i : Int} {b : Nat} (h : decL bs = (es, c)) (k : w.grownBy w' (some r)) (ho : OwnE w' w.heap.size v es) (hc : isCode eh en ee em y c) (hF : Flt w' b i (.iface 195 (.pointer (some y)))) : EvsC bs r eh en ee em w (.returned (.tuple #[v, .iface 113 (.pointer (some ⟨b, 0, none⟩))])) w' :=
  ⟨k, v, by rw [h]; exact ho, .inr ⟨y, b, i, by rw [h]; exact hc, rfl, hF⟩⟩

/-- How long a slice is, for a loop's measure. -/
def lenE : Value → Nat | .slice _ n _ => n | _ => 0

set_option maxRecDepth 20000 in
set_option maxHeartbeats 2000000 in
theorem events_any (r : Nat) (ao : Option Addr) (cap : Nat) (bs : List Int) (eh en ee em : Addr) (w : World) (hR : RdrS w r ao bs.length cap bs 0) (hcap : 3 ≤ bs.length → 3 ≤ cap)
    (hv : ErrV eh en ee em w) (hrn : 1 < r ∧ 2 < r ∧ 3 < r ∧ 4 < r ∧ 0 < r) (hs : Shapes w) :
    Calls Tryd.prog 30 #[.pointer (some ⟨r, 0, none⟩)] w (EvsC bs r eh en ee em w) := by
  obtain ⟨rm, rh, rn, re, rs⟩ := hrn
  have hu := hR.bs.bd
  have hbl := hR.bs.len
  have hrl := hR.rd.lt
  have hE := ownE_new w
  have f0 := Fr.alloc w (.cells #[] 49)
  have hR0 := hR.fr f0
  have cH := header_any r ao bs.length cap bs eh _ rfl hR0.bs hcap hR0.rd (f0.cell hv.ch)
  go_enter Tryd.func30, Tryd.ntmps30
  go_wp2_with fail
  refine cH.mono ?_
  rintro x w1 ⟨k1, ⟨hd, rfl, hr1⟩ | ⟨hd, b, i, j, rfl, hF, hb, hr1⟩⟩
  · have HS : Hid (DS3 bs [] 3) := DS3.start hd
    have hlen : 3 ≤ bs.length := by
      have h3 : bs.take 3 = [82, 50, 49] := by simpa [hdB] using hd
      have := congrArg List.length h3
      simp at this
      omega
    have hR1 := hR0.went k1 hr1
    have hE1 := hE.keep k1 (by simp [Value.ownBlock]; omega)
    have k01 := gthen (f0.row (some r)) k1 (fun j hj => .inr (by simpa using hj.symm))
    clear hd cH hE k1 hR0 hr1
    go_wp2_with fail
    go_loopw [4] (fun u wr => ∃ (es : List Ev) (p : Nat), p ≤ bs.length ∧ RdrS wr r ao bs.length cap bs (p : Int) ∧ OwnE wr w.heap.size u es ∧ Hid (DS3 bs es p) ∧ w.grownBy wr (some r)) (fun u _ => 300 - lenE u)
    case atStart => exact ⟨[], 3, hlen, hR1, hE1, HS, k01⟩
    case round =>
      obtain ⟨es, p, hp, hRp, ho, HD, kp⟩ := hrel
      clear hR1 hE1 HS k01
      have sp := kp.size
      have he3 := HD.out.2
      have cM := more_any r ao bs.length cap p wr hRp.rd
      have ho' := ho
      obtain ⟨ge, ce, rfl, hoe, hle⟩ := ho
      have hgl := hoe.lt ge rfl
      clear hoe
      by_cases hlt : p < bs.length
      · rw [inB_mk (by omega) (by omega)] at cM
        by_cases hm : es.length = 300
        · have HE : Hid (decL bs = (es, 4)) := HD.out.many hm hlt
          have hb : ((es.length : Int) == 300) = true := by simp; omega
          have cem := kp.cell hv.cm (by simp; omega)
          have r1 := hRp.rd.c1
          clear hm
          go_wp2_with fail
          refine (cM).mono ?_
          rintro e w2 ⟨rfl, nq, rfl⟩
          have c1 : (wr.drewN nq).cell? ⟨r, 1, none⟩ = _ := r1
          have c2 : (wr.drewN nq).cell? ⟨1, 0, none⟩ = _ := cem
          have fF := Fr.alloc wr (.cells #[.int .i64 (p : Int), .iface 195 (.pointer (some em))] 115)
          have c3 := fF.cell r1
          go_wp2_with fail
          go_region
          all_goals (
            go_wp2_with fail
            go_ret2
            have fX : Fr wr ((wr.drewN (nq + 1)).alloc (.cells #[.int .i64 (p : Int), .iface 195 (.pointer (some em))] 115)) := (Fr.drewN wr (nq + 1)).trans (Fr.alloc _ _)
            exact EvsC.mk1 HE.out (gthen kp fX gnone) (ho'.fr fX) (.inr (.inr (.inr ⟨rfl, rfl⟩))) (Flt.new (wr.drewN (nq + 1)) _ _))
        · have hb : ((es.length : Int) == 300) = false := by simp; omega
          have HM : Hid (es.length ≠ 300) := hm
          clear hm
          go_wp2_with fail
          refine (cM).mono ?_
          rintro e w2 ⟨rfl, nq, rfl⟩
          have fd := Fr.drewN wr nq
          have kd := gthen kp fd gnone
          have cE := event_any r ao cap bs p en ee (wr.drewN nq) hp (hRp.fr fd) (kd.cell hv.cn (by simp; omega)) (kd.cell hv.ce (by simp; omega)) (by omega) (by omega) (by omega) (hs.keep kd (by simp; omega))
          have ho'' := ho'.fr fd
          clear cM
          go_wp2_with fail
          refine cE.mono ?_
          rintro x w3 ⟨k3, ⟨e, q, hr, rfl, hR3⟩ | ⟨c, y, b, i, j, hr, hcc, rfl, hF, hb2, hR3⟩⟩
          · have HN : Hid (DS3 bs (es ++ [e]) q) := HD.out.step HM.out hlt hr
            have hq := rdEv_le hu hp hr
            have ho3 := ho''.keep k3 (by simp [Value.ownBlock]; omega)
            have kk3 := gthen kd k3 (fun j hj => .inr (by simpa using hj.symm))
            have s3 := kk3.size
            have hes := HM.out
            have hes2 : es.length < 300 := by omega
            clear hr cE HD hes
            have fe := Fr.alloc w3 (.cells #[.int .i64 e.k, .int .i64 e.g, .int .i64 e.o, .int .i64 e.w, .int .i64 e.l, .int .i64 e.s, .int .i64 e.f, .int .i64 e.t] 49)
            have hC := evC_new (w3.alloc (.cells #[.int .i64 e.k, .int .i64 e.g, .int .i64 e.o, .int .i64 e.w, .int .i64 e.l, .int .i64 e.s, .int .i64 e.f, .int .i64 e.t] 49)) e
            have es1 : (w3.alloc (.cells #[.int .i64 e.k, .int .i64 e.g, .int .i64 e.o, .int .i64 e.w, .int .i64 e.l, .int .i64 e.s, .int .i64 e.f, .int .i64 e.t] 49)).heap.size = w3.heap.size + 1 := by simp
            rw [es1] at hC
            have HC := (show Hid _ from hC)
            have HFE := (show Hid _ from fe.trans (Fr.alloc _ (.cells #[.int .i64 e.k, .int .i64 e.g, .int .i64 e.o, .int .i64 e.w, .int .i64 e.l, .int .i64 e.s, .int .i64 e.f, .int .i64 e.t] 49)))
            clear fe hC es1
            go_wp2_with (at_builtin; refine appE _ rfl _ _ rfl w.heap.size _ es e rfl (ho3.fr HFE.out) (w3.heap.size + 1) 1 rfl HC.out (by omega) (by simp; omega) ?_; intro v6 w6 hv6 hg6 hat6)
            have hbk := ho3.blk
            go_roundw
            case rel =>
              have hnr : (Value.slice (some ⟨ge, 0, none⟩) es.length ce).ownBlock ≠ some r := by simp [Value.ownBlock]; omega
              exact ⟨es ++ [e], q, hq.2, (hR3.fr HFE.out).keep hg6 hnr (.inr (fun qq => by have := hR.lt _ qq; have := hbk _ rfl; simp only at *; omega)), hv6, HN, gthen (gthen kk3 HFE.out gnone) hg6 (fun j hj => .inl (hbk j hj))⟩
            case measure =>
              obtain ⟨g7, c7, rfl, -⟩ := hv6
              simp [lenE]
              omega
          · have HE : Hid (decL bs = (es, c)) := HD.out.err HM.out hlt hr
            have hcd : isCode eh en ee em y c := by
              rcases hcc with ⟨rfl, rfl⟩ | ⟨rfl, rfl⟩
              · exact .inr (.inl ⟨rfl, rfl⟩)
              · exact .inr (.inr (.inl ⟨rfl, rfl⟩))
            have ho3 := ho''.keep k3 (by simp [Value.ownBlock]; omega)
            have kk3 := gthen kd k3 (fun j hj => .inr (by simpa using hj.symm))
            clear hr cE HD hcc
            go_wp2_with fail
            go_ret2
            have fz := Fr.alloc w3 (.cells #[.int .i64 0, .int .i64 0, .int .i64 0, .int .i64 0, .int .i64 0, .int .i64 0, .int .i64 0, .int .i64 0] 49)
            exact EvsC.mk1 HE.out (gthen kk3 fz gnone) (ho3.fr fz) hcd (hF.keep fz (by simp))
      · rw [inB_not (by omega)] at cM
        have HE : Hid (decL bs = (es, 0)) := HD.out.fin hlt
        go_wp2_with fail
        refine (cM).mono ?_
        rintro e w2 ⟨rfl, nq, rfl⟩
        go_wp2_with fail
        go_ret2
        exact EvsC.mk0 HE.out (gthen kp (Fr.drewN wr nq) gnone) (ho'.fr (Fr.drewN wr nq))
  · have HE : Hid (decL bs = ([], 1)) := decL_no hd
    have hE1 := hE.keep k1 (by simp [Value.ownBlock]; omega)
    have k01 := gthen (f0.row (some r)) k1 (fun j hj => .inr (by simpa using hj.symm))
    clear hd cH
    go_wp2_with fail
    go_ret2
    exact EvsC.mk1 HE.out k01 hE1 (.inl ⟨rfl, rfl⟩) hF

set_option maxHeartbeats 1000000 in
theorem implDec_any (ao : Option Addr) (n cap : Nat) (bs : List Int) (eh en ee em : Addr) (w : World) (hn : bs.length = n) (h : ReadsB w ao bs) (hab : ∀ j, blk ao = some j → j < w.heap.size) (hcap : 3 ≤ bs.length → 3 ≤ cap) (hv : ErrV eh en ee em w) (hs : Shapes w) :
    Calls Tryd.prog 10 #[.slice ao n cap] w (DecC bs w) := by
  subst hn
  have hrd := Rdr.new w (.slice ao bs.length cap) 0
  have f0 := Fr.alloc w (.cells #[.slice ao bs.length cap, .int .i64 0] 65)
  have gm : 1 < w.heap.size := World.block_lt_of_cell? w _ hv.cm
  have gh : 2 < w.heap.size := World.block_lt_of_cell? w _ hv.ch
  have gn : 3 < w.heap.size := World.block_lt_of_cell? w _ hv.cn
  have ge : 4 < w.heap.size := World.block_lt_of_cell? w _ hv.ce
  have gs := hs.lt
  have cE := events_any w.heap.size ao cap bs eh en ee em _ ⟨hrd, h.fr f0, hab⟩ hcap (hv.fr f0) ⟨gm, gh, gn, ge, gs⟩ (hs.fr f0)
  go_enter Tryd.func10, Tryd.ntmps10
  go_wp2_with fail
  refine cE.mono ?_
  rintro x w1 ⟨k1, v, ho, ⟨hc, rfl⟩ | ⟨y, b, i, hc, rfl, hF⟩⟩
  · have f1 : Fr w w1 := f0.then k1 (fun j hj => by simp only [Option.some.injEq] at hj; omega)
    have HC : Hid ((decL bs).2 = 0) := hc
    clear hc cE hrd
    go_wp2_with fail
    refine (code_nil _).mono ?_
    rintro e w2 ⟨rfl, rfl⟩
    go_wp2_with fail
    go_ret2
    refine ⟨v, ?_, ho.lower f0.size, f1⟩
    rw [HC.out]
    rfl
  · have f1 : Fr w w1 := f0.then k1 (fun j hj => by simp only [Option.some.injEq] at hj; omega)
    have cC := code_any eh en ee em y b i _ w1 (hv.fr f1) hF hc
    obtain ⟨C, hC⟩ : ∃ C, C = (decL bs).2 := ⟨_, rfl⟩
    rw [← hC] at cC
    have HC : Hid (C = (decL bs).2) := hC
    clear hC hc cE hrd
    go_wp2_with fail
    refine (cC).mono ?_
    rintro e w2 ⟨rfl, rfl⟩
    go_wp2_with fail
    go_ret2
    refine ⟨v, ?_, ho.lower f0.size, f1⟩
    rw [← HC.out]
    rfl
end Go.Proofs.YtnekojcgbokhpaaDoor
