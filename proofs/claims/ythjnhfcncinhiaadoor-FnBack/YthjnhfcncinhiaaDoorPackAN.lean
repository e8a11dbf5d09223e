/-
  The program's reader: header.
-/
import Derived.Test.YthjnhfcncinhiaaDoorPackAB
import Derived.Test.YthjnhfcncinhiaaDoorPackAM
import Derived.Laws.BytesArg
import Derived.Test.YthjnhfcncinhiaaDoorPackAK
import Derived.Test.YthjnhfcncinhiaaDoorPackAJ
import Derived.Test.YthjnhfcncinhiaaDoorPackAA
namespace Go.Proofs.YthjnhfcncinhiaaDoor
open Go.RowKit

/-- What header answers. -/
def HdrC (bs : List Int) (r : Nat) (v : Value) (y : Addr) (w : World) (e : Ending) (w' : World) : Prop :=
  w.grownBy w' (some r) ∧
  ((hdB bs = true ∧ e = .returned .nilIface ∧ Rdr w' r v 3) ∨
   (hdB bs = false ∧ ∃ b i j, e = .returned (.iface 78 (.pointer (some ⟨b, 0, none⟩))) ∧ Flt w' b i (.iface 135 (.pointer (some y))) ∧ w.heap.size ≤ b ∧ Rdr w' r v j))

theorem str_head (a b c : Int) (ha : U8 a) (hb : U8 b) (hc : U8 c) : ((strOfNums [a, b, c]).toList == [82, 50, 49]) = decide (a = 82 ∧ b = 50 ∧ c = 49) := by
  obtain ⟨a0, a1⟩ := ha
  obtain ⟨b0, b1⟩ := hb
  obtain ⟨c0, c1⟩ := hc
  rw [ByteArray.toList_eq, Bool.eq_iff_iff, beq_iff_eq, decide_eq_true_eq, strOfNums_data]
  constructor
  · intro h
    have h1 := congrArg (fun l => l.map UInt8.toNat) h
    simp at h1
    omega
  · rintro ⟨rfl, rfl, rfl⟩
    rfl

set_option maxRecDepth 20000 in
set_option maxHeartbeats 1000000 in
theorem header_any (r : Nat) (ao : Option Addr) (n cap : Nat) (bs : List Int) (y : Addr) (w : World) (hn : bs.length = n) (h : ReadsB w ao bs) (hcap3 : 3 ≤ bs.length → 3 ≤ cap)
    (hr : Rdr w r (.slice ao n cap) 0) (hy : w.cell? ⟨2, 0, none⟩ = some (.iface 135 (.pointer (some y)))) :
    Calls Tryd.prog 42 #[.pointer (some ⟨r, 0, none⟩)] w (HdrC bs r (.slice ao n cap) y w) := by
  subst hn
  have c0 := hr.c0
  have c1 := hr.c1
  by_cases h3 : bs.length < 3
  · have HD : Hid (hdB bs = false) := hd_no (.inl h3)
    go_enter Tryd.func42, Tryd.ntmps42
    go_wp2_with fail
    go_ret
    exact ⟨(Fr.alloc w _).row _, .inr ⟨HD.out, w.heap.size, 0, 0, rfl, Flt.new w _ _, Nat.le_refl _, hr.fr (Fr.alloc w _)⟩⟩
  · obtain ⟨b, off, rfl, hc⟩ := h.at_ 0 (by omega)
    have a0 := hc 0 (by omega)
    have a1 := hc 1 (by omega)
    have a2 := hc 2 (by omega)
    rw [getD_at (by omega)] at a0 a1 a2
    have g0 : bs[0]? = some bs[0] := List.getElem?_eq_getElem (by omega)
    have g1 : bs[1]? = some bs[1] := List.getElem?_eq_getElem (by omega)
    have g2 : bs[2]? = some bs[2] := List.getElem?_eq_getElem (by omega)
    have u0 := h.bd _ (List.getElem_mem (show 0 < bs.length by omega))
    have u1 := h.bd _ (List.getElem_mem (show 1 < bs.length by omega))
    have u2 := h.bd _ (List.getElem_mem (show 2 < bs.length by omega))
    obtain ⟨y0, hy0⟩ : ∃ y, y = bs[0] := ⟨_, rfl⟩
    obtain ⟨y1, hy1⟩ : ∃ y, y = bs[1] := ⟨_, rfl⟩
    obtain ⟨y2, hy2⟩ : ∃ y, y = bs[2] := ⟨_, rfl⟩
    rw [← hy0] at a0 g0 u0
    rw [← hy1] at a1 g1 u1
    rw [← hy2] at a2 g2 u2
    rw [Nat.add_zero] at a0
    clear hy0 hy1 hy2
    have kc := run_convert_bytes_arg (P := Tryd.prog) w 22 5 Tryd.underlying22 Tryd.underlying5 b off 3 cap [y0, y1, y2] rfl (by
      intro i hi
      rcases (by omega : i = 0 ∨ i = 1 ∨ i = 2) with rfl | rfl | rfl
      · exact a0
      · exact a1
      · exact a2) 9 Tryd.underlying9
    have hs := str_head y0 y1 y2 u0 u1 u2
    have hcap : 3 ≤ cap := hcap3 (by omega)
    obtain ⟨S, hS⟩ : ∃ S, S = strOfNums [y0, y1, y2] := ⟨_, rfl⟩
    rw [← hS] at kc hs
    clear hS hc a0 a1 a2 h u0 u1 u2
    by_cases hd : y0 = 82 ∧ y1 = 50 ∧ y2 = 49
    · have HS : Hid (hdB bs = true) := by
        obtain ⟨rfl, rfl, rfl⟩ := hd
        exact hd_yes g0 g1 g2
      have hb : (S.toList == [82, 50, 49]) = true := by rw [hs]; exact decide_eq_true hd
      have rf := hr.free 1
      have hset := hr.set 3
      clear hd hs g0 g1 g2
      go_enter Tryd.func42, Tryd.ntmps42
      go_wp2_with fail
      go_ret
      exact ⟨grown_setCell w r 1 _, .inl ⟨HS.out, rfl, hset⟩⟩
    · have HD : Hid (hdB bs = false) := by
        refine hd_no (.inr ?_)
        rw [g0, g1, g2]
        simp only [ne_eq, Option.some.injEq]
        omega
      have hb : (S.toList == [82, 50, 49]) = false := by rw [hs]; exact decide_eq_false hd
      clear hd hs g0 g1 g2
      go_enter Tryd.func42, Tryd.ntmps42
      go_wp2_with fail
      go_ret
      exact ⟨(Fr.alloc w _).row _, .inr ⟨HD.out, w.heap.size, 0, 0, rfl, Flt.new w _ _, Nat.le_refl _, hr.fr (Fr.alloc w _)⟩⟩
end Go.Proofs.YthjnhfcncinhiaaDoor
/-
  The program's Decoded: events, Decoded.
-/
namespace Go.Proofs.YthjnhfcncinhiaaDoor
open Go.RowKit
set_option linter.unusedVariables false

/-- What events answers: the events and nil, or those ahead of a fault and it. -/
def EvsC (bs : List Int) (r : Nat) (eh en ee em : Addr) (w : World) (x : Ending) (w' : World) : Prop :=
  w.grownBy w' (some r) ∧ ∃ v, OwnE w' w.heap.size v (decL bs).1 ∧
  (((decL bs).2 = 0 ∧ x = .returned (.tuple #[v, .nilIface])) ∨
   (∃ y b i, isCode eh en ee em y (decL bs).2 ∧ x = .returned (.tuple #[v, .iface 78 (.pointer (some ⟨b, 0, none⟩))]) ∧ Flt w' b i (.iface 135 (.pointer (some y)))))
theorem EvsC.mk0 {bs : List Int} {r : Nat} {eh en ee em : Addr} {w w' : World} {v : Value} {es : List Ev} (h : decL bs = (es, 0)) (k : w.grownBy w' (some r)) (ho : OwnE w' w.heap.size v es) : EvsC bs r eh en ee em w (.returned (.tuple #[v, .nilIface])) w' :=
  ⟨k, v, by rw [h]; exact ho, .inl ⟨by rw [h], rfl⟩⟩
theorem EvsC.mk1 {bs : List Int} {r : Nat} {eh en ee em y : Addr} {w w' : World} {v : Value} {es : List Ev} {c i : Int} {b : Nat} (h : decL bs = (es, c)) (k : w.grownBy w' (some r)) (ho : OwnE w' w.heap.size v es) (hc : isCode eh en ee em y c) (hF : Flt w' b i (.iface 135 (.pointer (some y)))) : EvsC bs r eh en ee em w (.returned (.tuple #[v, .iface 78 (.pointer (some ⟨b, 0, none⟩))])) w' :=
  ⟨k, v, by rw [h]; exact ho, .inr ⟨y, b, i, by rw [h]; exact hc, rfl, hF⟩⟩

/-- How long a slice is, for a loop's measure. -/
def lenE : Value → Nat | .slice _ n _ => n | _ => 0

set_option maxRecDepth 20000 in
set_option maxHeartbeats 2000000 in
theorem events_any (r : Nat) (ao : Option Addr) (cap : Nat) (bs : List Int) (eh en ee em : Addr) (w : World) (hR : RdrS w r ao bs.length cap bs 0) (hcap : 3 ≤ bs.length → 3 ≤ cap)
    (hv : ErrV eh en ee em w) (hrn : 1 < r ∧ 2 < r ∧ 3 < r ∧ 4 < r ∧ 0 < r) (hs : Shapes w) :
    Calls Tryd.prog 23 #[.pointer (some ⟨r, 0, none⟩)] w (EvsC bs r eh en ee em w) := by
  obtain ⟨rm, rh, rn, re, rs⟩ := hrn
  have hu := hR.bs.bd
  have hbl := hR.bs.len
  have hrl := hR.rd.lt
  have hE := ownE_new w
  have f0 := Fr.alloc w (.cells #[] 38)
  have hR0 := hR.fr f0
  have cH := header_any r ao bs.length cap bs eh _ rfl hR0.bs hcap hR0.rd (f0.cell hv.ch)
  go_enter Tryd.func23, Tryd.ntmps23
  go_wp2_with fail
  refine cH.mono ?_
  rintro x w1 ⟨k1, ⟨hd, rfl, hr1⟩ | ⟨hd, b, i, j, rfl, hF, hb, hr1⟩⟩
  · have HS : Hid (DS3 bs [] 3) := DS3.start hd
    have hlen : 3 ≤ bs.length := by
      have h3 : bs.take 3 = [82, 50, 49] := by simpa [hdB] using hd
      have := congrArg List.length h3
      simp at this
      omega
    have hR1 := hR0.went k1 hr1
    have hE1 := hE.keep k1 (by simp [Value.ownBlock]; omega)
    have k01 := gthen (f0.row (some r)) k1 (fun j hj => .inr (by simpa using hj.symm))
    clear hd cH hE k1 hR0 hr1
    go_wp2_with fail
    go_loopw [4] (fun u wr => ∃ (es : List Ev) (p : Nat), p ≤ bs.length ∧ RdrS wr r ao bs.length cap bs (p : Int) ∧ OwnE wr w.heap.size u es ∧ Hid (DS3 bs es p) ∧ w.grownBy wr (some r)) (fun u _ => 300 - lenE u)
    case atStart => exact ⟨[], 3, hlen, hR1, hE1, HS, k01⟩
    case round =>
      obtain ⟨es, p, hp, hRp, ho, HD, kp⟩ := hrel
      clear hR1 hE1 HS k01
      have sp := kp.size
      have he3 := HD.out.2
      have cM := more_any r ao bs.length cap p wr hRp.rd
      have ho' := ho
      obtain ⟨ge, ce, rfl, hoe, hle⟩ := ho
      have hgl := hoe.lt ge rfl
      clear hoe
      by_cases hlt : p < bs.length
      · rw [inB_mk (by omega) (by omega)] at cM
        by_cases hm : es.length = 300
        · have HE : Hid (decL bs = (es, 4)) := HD.out.many hm hlt
          have hb : ((es.length : Int) == 300) = true := by simp; omega
          have cem := kp.cell hv.cm (by simp; omega)
          have r1 := hRp.rd.c1
          clear hm
          go_wp2_with fail
          refine (cM).mono ?_
          rintro e w2 ⟨rfl, nq, rfl⟩
          have c1 : (wr.drewN nq).cell? ⟨r, 1, none⟩ = _ := r1
          have c2 : (wr.drewN nq).cell? ⟨1, 0, none⟩ = _ := cem
          have fF := Fr.alloc wr (.cells #[.int .i64 (p : Int), .iface 135 (.pointer (some em))] 80)
          have c3 := fF.cell r1
          go_wp2_with fail
          go_region
          all_goals (
            go_wp2_with fail
            go_ret2
            have fX : Fr wr ((wr.drewN (nq + 1)).alloc (.cells #[.int .i64 (p : Int), .iface 135 (.pointer (some em))] 80)) := (Fr.drewN wr (nq + 1)).trans (Fr.alloc _ _)
            exact EvsC.mk1 HE.out (gthen kp fX gnone) (ho'.fr fX) (.inr (.inr (.inr ⟨rfl, rfl⟩))) (Flt.new (wr.drewN (nq + 1)) _ _))
        · have hb : ((es.length : Int) == 300) = false := by simp; omega
          have HM : Hid (es.length ≠ 300) := hm
          clear hm
          go_wp2_with fail
          refine (cM).mono ?_
          rintro e w2 ⟨rfl, nq, rfl⟩
          have fd := Fr.drewN wr nq
          have kd := gthen kp fd gnone
          have cE := event_any r ao cap bs p en ee (wr.drewN nq) hp (hRp.fr fd) (kd.cell hv.cn (by simp; omega)) (kd.cell hv.ce (by simp; omega)) (by omega) (by omega) (by omega) (hs.keep kd (by simp; omega))
          have ho'' := ho'.fr fd
          clear cM
          go_wp2_with fail
          refine cE.mono ?_
          rintro x w3 ⟨k3, ⟨e, q, hr, rfl, hR3⟩ | ⟨c, y, b, i, j, hr, hcc, rfl, hF, hb2, hR3⟩⟩
          · have HN : Hid (DS3 bs (es ++ [e]) q) := HD.out.step HM.out hlt hr
            have hq := rdEv_le hu hp hr
            have ho3 := ho''.keep k3 (by simp [Value.ownBlock]; omega)
            have kk3 := gthen kd k3 (fun j hj => .inr (by simpa using hj.symm))
            have s3 := kk3.size
            have hes := HM.out
            have hes2 : es.length < 300 := by omega
            clear hr cE HD hes
            have fe := Fr.alloc w3 (.cells #[.int .i64 e.k, .int .i64 e.g, .int .i64 e.o, .int .i64 e.w, .int .i64 e.l, .int .i64 e.s, .int .i64 e.f, .int .i64 e.t] 38)
            have hC := evC_new (w3.alloc (.cells #[.int .i64 e.k, .int .i64 e.g, .int .i64 e.o, .int .i64 e.w, .int .i64 e.l, .int .i64 e.s, .int .i64 e.f, .int .i64 e.t] 38)) e
            have es1 : (w3.alloc (.cells #[.int .i64 e.k, .int .i64 e.g, .int .i64 e.o, .int .i64 e.w, .int .i64 e.l, .int .i64 e.s, .int .i64 e.f, .int .i64 e.t] 38)).heap.size = w3.heap.size + 1 := by simp
            rw [es1] at hC
            have HC := (show Hid _ from hC)
            have HFE := (show Hid _ from fe.trans (Fr.alloc _ (.cells #[.int .i64 e.k, .int .i64 e.g, .int .i64 e.o, .int .i64 e.w, .int .i64 e.l, .int .i64 e.s, .int .i64 e.f, .int .i64 e.t] 38)))
            clear fe hC es1
            go_wp2_with (at_builtin; refine appE _ rfl _ _ rfl w.heap.size _ es e rfl (ho3.fr HFE.out) (w3.heap.size + 1) 1 rfl HC.out (by omega) (by simp; omega) ?_; intro v6 w6 hv6 hg6 hat6)
            have hbk := ho3.blk
            go_roundw
            case rel =>
              have hnr : (Value.slice (some ⟨ge, 0, none⟩) es.length ce).ownBlock ≠ some r := by simp [Value.ownBlock]; omega
              exact ⟨es ++ [e], q, hq.2, (hR3.fr HFE.out).keep hg6 hnr (.inr (fun qq => by have := hR.lt _ qq; have := hbk _ rfl; simp only at *; omega)), hv6, HN, gthen (gthen kk3 HFE.out gnone) hg6 (fun j hj => .inl (hbk j hj))⟩
            case measure =>
              obtain ⟨g7, c7, rfl, -⟩ := hv6
              simp [lenE]
              omega
          · have HE : Hid (decL bs = (es, c)) := HD.out.err HM.out hlt hr
            have hcd : isCode eh en ee em y c := by
              rcases hcc with ⟨rfl, rfl⟩ | ⟨rfl, rfl⟩
              · exact .inr (.inl ⟨rfl, rfl⟩)
              · exact .inr (.inr (.inl ⟨rfl, rfl⟩))
            have ho3 := ho''.keep k3 (by simp [Value.ownBlock]; omega)
            have kk3 := gthen kd k3 (fun j hj => .inr (by simpa using hj.symm))
            clear hr cE HD hcc
            go_wp2_with fail
            go_ret2
            have fz := Fr.alloc w3 (.cells #[.int .i64 0, .int .i64 0, .int .i64 0, .int .i64 0, .int .i64 0, .int .i64 0, .int .i64 0, .int .i64 0] 38)
            exact EvsC.mk1 HE.out (gthen kk3 fz gnone) (ho3.fr fz) hcd (hF.keep fz (by simp))
      · rw [inB_not (by omega)] at cM
        have HE : Hid (decL bs = (es, 0)) := HD.out.fin hlt
        go_wp2_with fail
        refine (cM).mono ?_
        rintro e w2 ⟨rfl, nq, rfl⟩
        go_wp2_with fail
        go_ret2
        exact EvsC.mk0 HE.out (gthen kp (Fr.drewN wr nq) gnone) (ho'.fr (Fr.drewN wr nq))
  · have HE : Hid (decL bs = ([], 1)) := decL_no hd
    have hE1 := hE.keep k1 (by simp [Value.ownBlock]; omega)
    have k01 := gthen (f0.row (some r)) k1 (fun j hj => .inr (by simpa using hj.symm))
    clear hd cH
    go_wp2_with fail
    go_ret2
    exact EvsC.mk1 HE.out k01 hE1 (.inl ⟨rfl, rfl⟩) hF

set_option maxHeartbeats 1000000 in
theorem implDec_any (ao : Option Addr) (n cap : Nat) (bs : List Int) (eh en ee em : Addr) (w : World) (hn : bs.length = n) (h : ReadsB w ao bs) (hab : ∀ j, blk ao = some j → j < w.heap.size) (hcap : 3 ≤ bs.length → 3 ≤ cap) (hv : ErrV eh en ee em w) (hs : Shapes w) :
    Calls Tryd.prog 9 #[.slice ao n cap] w (DecC bs w) := by
  subst hn
  have hrd := Rdr.new w (.slice ao bs.length cap) 0
  have f0 := Fr.alloc w (.cells #[.slice ao bs.length cap, .int .i64 0] 47)
  have gm : 1 < w.heap.size := World.block_lt_of_cell? w _ hv.cm
  have gh : 2 < w.heap.size := World.block_lt_of_cell? w _ hv.ch
  have gn : 3 < w.heap.size := World.block_lt_of_cell? w _ hv.cn
  have ge : 4 < w.heap.size := World.block_lt_of_cell? w _ hv.ce
  have gs := hs.lt
  have cE := events_any w.heap.size ao cap bs eh en ee em _ ⟨hrd, h.fr f0, hab⟩ hcap (hv.fr f0) ⟨gm, gh, gn, ge, gs⟩ (hs.fr f0)
  go_enter Tryd.func9, Tryd.ntmps9
  go_wp2_with fail
  refine cE.mono ?_
  rintro x w1 ⟨k1, v, ho, ⟨hc, rfl⟩ | ⟨y, b, i, hc, rfl, hF⟩⟩
  · have f1 : Fr w w1 := f0.then k1 (fun j hj => by simp only [Option.some.injEq] at hj; omega)
    have HC : Hid ((decL bs).2 = 0) := hc
    clear hc cE hrd
    go_wp2_with fail
    refine (code_nil _).mono ?_
    rintro e w2 ⟨rfl, rfl⟩
    go_wp2_with fail
    go_ret2
    refine ⟨v, ?_, ho.lower f0.size, f1⟩
    rw [HC.out]
    rfl
  · have f1 : Fr w w1 := f0.then k1 (fun j hj => by simp only [Option.some.injEq] at hj; omega)
    have cC := code_any eh en ee em y b i _ w1 (hv.fr f1) hF hc
    obtain ⟨C, hC⟩ : ∃ C, C = (decL bs).2 := ⟨_, rfl⟩
    rw [← hC] at cC
    have HC : Hid (C = (decL bs).2) := hC
    clear hC hc cE hrd
    go_wp2_with fail
    refine (cC).mono ?_
    rintro e w2 ⟨rfl, rfl⟩
    go_wp2_with fail
    go_ret2
    refine ⟨v, ?_, ho.lower f0.size, f1⟩
    rw [← HC.out]
    rfl
end Go.Proofs.YthjnhfcncinhiaaDoor
/-
  The walk of the laws' likeEvents, of two like lists.
-/
namespace Go.Proofs.YthjnhfcncinhiaaDoor
open Go.RowKit

set_option maxHeartbeats 1000000 in
theorem likeEs_same (ao bo : Option Addr) (n c d : Nat) (es : List Ev) (w : World) (hn : es.length = n) (h : ReadsE w ao es) (h' : ReadsE w bo es) :
    Calls Tryd.prog 10 #[.slice ao n c, .slice bo n d] w fun e w' => e = .returned (.bool true) ∧ Fr w w' := by
  subst hn
  have hl := h.len
  go_enter Tryd.func10, Tryd.ntmps10
  go_wp2_with fail
  go_loopw [5] (fun i wr => ∃ k : Nat, k ≤ es.length ∧ i = .int .i64 k ∧ Fr w wr) (fun i _ => es.length - (intOf i).toNat)
  case atStart => exact ⟨0, Nat.zero_le _, rfl, Fr.refl w⟩
  case round =>
    obtain ⟨k, hk, rfl, hf⟩ := hrel
    by_cases hlt : k < es.length
    · obtain ⟨b, off, rfl, hc⟩ := (h.fr hf).at_ k hlt
      obtain ⟨b', off', rfl, hc'⟩ := (h'.fr hf).at_ k hlt
      obtain ⟨a0, a1, a2, a3, a4, a5, a6, a7⟩ := hc k hlt
      obtain ⟨x0, x1, x2, x3, x4, x5, x6, x7⟩ := hc' k hlt
      obtain ⟨e, he⟩ : ∃ e, e = es[k] := ⟨_, rfl⟩
      simp only [← he] at a0 a1 a2 a3 a4 a5 a6 a7 x0 x1 x2 x3 x4 x5 x6 x7
      clear hc hc' he
      have := Later.some wr
      have p0 : ∀ s : Later wr, s.u.cell? ⟨b, off + k * 8, none⟩ = some (.int .i64 e.k) := fun s => s.fr.cell a0
      have p1 : ∀ s : Later wr, s.u.cell? ⟨b, off + k * 8 + 1, none⟩ = some (.int .i64 e.g) := fun s => s.fr.cell a1
      have p2 : ∀ s : Later wr, s.u.cell? ⟨b, off + k * 8 + 2, none⟩ = some (.int .i64 e.o) := fun s => s.fr.cell a2
      have p3 : ∀ s : Later wr, s.u.cell? ⟨b, off + k * 8 + 3, none⟩ = some (.int .i64 e.w) := fun s => s.fr.cell a3
      have p4 : ∀ s : Later wr, s.u.cell? ⟨b, off + k * 8 + 4, none⟩ = some (.int .i64 e.l) := fun s => s.fr.cell a4
      have p5 : ∀ s : Later wr, s.u.cell? ⟨b, off + k * 8 + 5, none⟩ = some (.int .i64 e.s) := fun s => s.fr.cell a5
      have p6 : ∀ s : Later wr, s.u.cell? ⟨b, off + k * 8 + 6, none⟩ = some (.int .i64 e.f) := fun s => s.fr.cell a6
      have p7 : ∀ s : Later wr, s.u.cell? ⟨b, off + k * 8 + 7, none⟩ = some (.int .i64 e.t) := fun s => s.fr.cell a7
      have q0 : ∀ s : Later wr, s.u.cell? ⟨b', off' + k * 8, none⟩ = some (.int .i64 e.k) := fun s => s.fr.cell x0
      have q1 : ∀ s : Later wr, s.u.cell? ⟨b', off' + k * 8 + 1, none⟩ = some (.int .i64 e.g) := fun s => s.fr.cell x1
      have q2 : ∀ s : Later wr, s.u.cell? ⟨b', off' + k * 8 + 2, none⟩ = some (.int .i64 e.o) := fun s => s.fr.cell x2
      have q3 : ∀ s : Later wr, s.u.cell? ⟨b', off' + k * 8 + 3, none⟩ = some (.int .i64 e.w) := fun s => s.fr.cell x3
      have q4 : ∀ s : Later wr, s.u.cell? ⟨b', off' + k * 8 + 4, none⟩ = some (.int .i64 e.l) := fun s => s.fr.cell x4
      have q5 : ∀ s : Later wr, s.u.cell? ⟨b', off' + k * 8 + 5, none⟩ = some (.int .i64 e.s) := fun s => s.fr.cell x5
      have q6 : ∀ s : Later wr, s.u.cell? ⟨b', off' + k * 8 + 6, none⟩ = some (.int .i64 e.f) := fun s => s.fr.cell x6
      have q7 : ∀ s : Later wr, s.u.cell? ⟨b', off' + k * 8 + 7, none⟩ = some (.int .i64 e.t) := fun s => s.fr.cell x7
      clear a0 a1 a2 a3 a4 a5 a6 a7 x0 x1 x2 x3 x4 x5 x6 x7
      go_wp2_with fail
      refine wp_region_grown (by kernel_rfl) (by kernel_rfl) ?_
      repeat (go_big_quiet_step (fail))
      refine wpQuiet_nil ?_
      rintro _ ⟨s, rfl⟩
      go_wp2_with fail
      go_roundw
      case rel => exact ⟨k + 1, by omega, by go_num, hf.trans s.fr⟩
      case measure => simp [intOf]; omega
    · go_wp2_with fail
      go_ret
      exact ⟨rfl, hf⟩
end Go.Proofs.YthjnhfcncinhiaaDoor
