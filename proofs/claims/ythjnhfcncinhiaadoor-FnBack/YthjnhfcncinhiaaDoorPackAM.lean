/-
  The program's Encoded.
-/
import Derived.Test.YthjnhfcncinhiaaDoorPackAL
import Derived.Lib.SlBytesConst
import Derived.Test.YthjnhfcncinhiaaDoorPackAB
import Derived.Test.YthjnhfcncinhiaaDoorPackAK
namespace Go.Proofs.YthjnhfcncinhiaaDoor
open Go.RowKit

/-- The three bytes of a constant: one place behind them is marked. -/
def HdM (w : World) (g : Nat) : Prop := w.heap[g]? = some (.cells #[.int .u8 82, .int .u8 50, .int .u8 49] 5 (3, 4))
theorem HdM.lt {w : World} {g : Nat} (h : HdM w g) : g < w.heap.size := (Array.getElem?_eq_some_iff.1 h).1
theorem HdM.keep {w w' : World} {g : Nat} {row : Option Nat} (h : HdM w g) (k : w.grownBy w' row) (hr : row ≠ some g) : HdM w' g := (k.block g h.lt (fun q => hr q.symm)).trans h
theorem HdM.fr {w w' : World} {g : Nat} (h : HdM w g) (k : Fr w w') : HdM w' g := h.keep k (by simp)
theorem HdM.reads {w : World} {g : Nat} (h : HdM w g) : ReadsB w (some ⟨g, 0, none⟩) [82, 50, 49] := by
  refine ⟨by simp, head_u8, fun i _ => ⟨g, 0, rfl, fun j hj => ?_⟩⟩
  rw [cell_of_row _ _ _ _ _ _ h]
  simp at hj
  rcases (by omega : j = 0 ∨ j = 1 ∨ j = 2) with rfl | rfl | rfl <;> rfl

/-- What Encoded answers: a slice of its own; of no events the constant's. -/
def EncR (es : List Ev) (w w' : World) (v : Value) : Prop :=
  OwnBS w' w.heap.size v (encA es) ∨ (es = [] ∧ ∃ g, v = .slice (some ⟨g, 0, none⟩) 3 3 ∧ w.heap.size ≤ g ∧ HdM w' g)

set_option maxHeartbeats 2000000 in
theorem implEnc_any (ao : Option Addr) (n cap : Nat) (es : List Ev) (w : World) (hn : es.length = n) (h : ReadsE w ao es) (hs : Shapes w) :
    Calls Tryd.prog 7 #[.slice ao n cap] w fun e w' => ∃ v, e = .returned (.tuple #[v, .bool (encB es)]) ∧ EncR es w w' v ∧ Fr w w' := by
  subst hn
  have hl := h.len
  have hg := hs.lt
  by_cases h3 : es.length ≤ 300
  · have HO : Hid (encB es = okL es) := by
      show _ = _
      rw [encB, okL]; simp [h3]
    have kc := fun (w : World) (C : Array Value) (n c : Nat) => Lib.run_convert_bytes_const (P := Tryd.prog) w 22 5 C n c Tryd.underlying22 Tryd.underlying5
    go_enter Tryd.func7, Tryd.ntmps7
    go_wp2_with fail
    clear kc
    go_loopw [4, 15] (fun u i wr => ∃ k : Nat, k ≤ es.length ∧ i = .int .i64 k ∧ ((k = 0 ∧ u = .slice (some ⟨w.heap.size, 0, none⟩) 3 3 ∧ HdM wr w.heap.size) ∨ (0 < k ∧ OwnBS wr w.heap.size u ([82, 50, 49] ++ (es.take k).flatMap evL))) ∧ Hid (okL (es.take k) = true) ∧ Fr w wr) (fun _ i _ => es.length - (intOf i).toNat)
    case atStart => exact ⟨0, Nat.zero_le _, rfl, .inl ⟨rfl, rfl, heap_alloc_new w _⟩, rfl, Fr.alloc _ _⟩
    case round =>
      obtain ⟨k, hk, rfl, ho, HK, hf⟩ := hrel
      have hs0 := hf.size
      by_cases hlt : k < es.length
      · obtain ⟨b, off, rfl, hc⟩ := (h.fr hf).at_ k hlt
        obtain ⟨c0, c1, c2, c3, c4, c5, c6, c7⟩ := hc k hlt
        have HS : Hid (([82, 50, 49] ++ (es.take k).flatMap evL) ++ evL es[k] = [82, 50, 49] ++ (es.take (k + 1)).flatMap evL) := enc_step es k hlt
        have HT : Hid (evOk es[k] = true → okL (es.take (k + 1)) = true) := okL_take es k hlt HK.out
        have HF : Hid (evOk es[k] = false → okL es = false) := okL_not es k hlt
        have hl1 := evs_len (es.take k)
        have hl2 : (es.take k).length ≤ 300 := by simp; omega
        obtain ⟨e, he⟩ : ∃ e, e = es[k] := ⟨_, rfl⟩
        rw [← he] at c0 c1 c2 c3 c4 c5 c6 c7 HS HT HF
        clear hc he
        have fE := Fr.alloc wr (.cells #[.int .i64 e.k, .int .i64 e.g, .int .i64 e.o, .int .i64 e.w, .int .i64 e.l, .int .i64 e.s, .int .i64 e.f, .int .i64 e.t] 38)
        have hB := EvB.new wr e
        have cO := implOk_any e _ (hs.fr (hf.trans fE))
        cases hx : evOk e
        · rw [hx] at cO
          have HE : Hid (encB es = false) := by
            show _ = _
            rw [HO.out, HF.out hx]
          clear hx hB
          go_wp2_with fail
          refine cO.mono ?_
          rintro x w5 ⟨rfl, f5⟩
          go_wp2_with fail
          go_ret2
          have f6 := (hf.trans fE).trans f5
          refine ⟨.slice (some ⟨w5.heap.size, 0, none⟩) 0 0, ?_, ?_, f6.trans (Fr.alloc w5 _)⟩
          · rw [HE.out]; rfl
          · refine .inl ?_
            rw [encA, HE.out]
            exact (ownB_new w5).lower f6.size
        · rw [hx] at cO
          have HT2 : Hid (okL (es.take (k + 1)) = true) := HT.out hx
          have cW : ∀ w5, Fr wr w5 → Calls Tryd.prog 20 #[u4, .agg #[.int .i64 e.k, .int .i64 e.g, .int .i64 e.o, .int .i64 e.w, .int .i64 e.l, .int .i64 e.s, .int .i64 e.f, .int .i64 e.t]] w5 fun x w' => ∃ v', x = .returned v' ∧ OwnBS w' w.heap.size v' ([82, 50, 49] ++ (es.take (k + 1)).flatMap evL) ∧ FrB w.heap.size w5 w' := by
            intro w5 f5
            rw [← HS.out]
            have hsz := f5.size
            rcases ho with ⟨rfl, rfl, hd⟩ | ⟨hk0, ho⟩
            · have := withEvent_full e w.heap.size w.heap.size [82, 50, 49] w5 hx (hd.fr f5).reads (by simp) (by simp) (by omega) hg (hs.fr (hf.trans f5))
              simpa using this
            · exact withEvent_any e u4 w.heap.size _ w5 hx (ho.fr f5) (by rw [List.length_append]; have : ([82, 50, 49] : List Int).length = 3 := rfl; omega) (by omega) hg (hs.fr (hf.trans f5))
          clear hx ho HS HT HF
          go_wp2_with fail
          refine cO.mono ?_
          rintro x w5 ⟨rfl, f5⟩
          have f6 := fE.trans f5
          have hB5 := (hB.keep f5 (by simp)).at
          obtain ⟨d0, d1, d2, d3, d4, d5, d6, d7⟩ := hB5
          go_wp2_with fail
          refine (cW w5 f6).mono ?_
          rintro x w6 ⟨v6, rfl, o6, fb6⟩
          go_wp2_with fail
          go_roundw
          case rel => exact ⟨k + 1, by omega, by go_num, .inr ⟨by omega, o6⟩, HT2, (hf.trans f6).thenB fb6 (Nat.le_refl _)⟩
          case measure => simp [intOf]; omega
      · have HE : Hid (encB es = true) := by
          show _ = _
          rw [HO.out]
          have := HK.out
          rwa [List.take_of_length_le (by omega)] at this
        have HR : Hid (EncR es w wr u4) := by
          rcases ho with ⟨rfl, rfl, hd⟩ | ⟨hk0, ho⟩
          · exact .inr ⟨List.eq_nil_of_length_eq_zero (by omega), w.heap.size, rfl, Nat.le_refl _, hd⟩
          · rw [List.take_of_length_le (by omega)] at ho
            refine .inl ?_
            rw [encA, HE.out]
            exact ho
        clear ho
        go_wp2_with fail
        go_ret2
        refine ⟨u4, ?_, HR.out, hf⟩
        rw [HE.out]; rfl
  · have HE : Hid (encB es = false) := by
      show _ = _
      rw [encB]; simp [h3]
    go_enter Tryd.func7, Tryd.ntmps7
    go_wp2_with fail
    go_ret2
    refine ⟨.slice (some ⟨w.heap.size, 0, none⟩) 0 0, ?_, ?_, Fr.alloc w _⟩
    · rw [HE.out]; rfl
    · refine .inl ?_
      rw [encA, HE.out]
      exact ownB_new w
end Go.Proofs.YthjnhfcncinhiaaDoor
/-
  What the program's Encoded answers, under the laws' marks.
-/
namespace Go.Proofs.YthjnhfcncinhiaaDoor
open Go.RowKit

/-- A slice of bytes of one's own, or the constant's three. -/
def Mk (w : World) (g n cap : Nat) (J : List Int) : Prop := (n = J.length ∧ OwnB w 0 (.slice (some ⟨g, 0, none⟩) n cap) J) ∨ (n = 3 ∧ cap = 3 ∧ J = [82, 50, 49] ∧ HdM w g)

theorem Mk.reads {w : World} {g n cap : Nat} {J : List Int} (h : Mk w g n cap J) : ReadsB w (some ⟨g, 0, none⟩) J ∧ J.length = n := by
  rcases h with ⟨rfl, h⟩ | ⟨rfl, rfl, rfl, h⟩
  · exact ⟨h.reads, rfl⟩
  · exact ⟨h.reads, rfl⟩
theorem Mk.keep {w w' : World} {g n cap : Nat} {J : List Int} {row : Option Nat} (h : Mk w g n cap J) (k : w.grownBy w' row) (hr : row ≠ some g) : Mk w' g n cap J := by
  rcases h with ⟨rfl, h⟩ | ⟨rfl, rfl, rfl, h⟩
  · exact .inl ⟨rfl, h.keep k (.inr (by simpa [Value.ownBlock] using Ne.symm hr))⟩
  · exact .inr ⟨rfl, rfl, rfl, h.keep k hr⟩
theorem Mk.fr {w w' : World} {g n cap : Nat} {J : List Int} (h : Mk w g n cap J) (k : Fr w w') : Mk w' g n cap J := h.keep k (by simp)
theorem EncR.mk {es : List Ev} {w w' : World} {v : Value} (h : EncR es w w' v) : ∃ g n cap, v = .slice (some ⟨g, 0, none⟩) n cap ∧ w.heap.size ≤ g ∧ g < w'.heap.size ∧ Mk w' g n cap (encA es) := by
  rcases h with ⟨g, cap, rfl, h⟩ | ⟨rfl, g, rfl, hg, h⟩
  · exact ⟨g, _, cap, rfl, (ownB_lt h).1, (ownB_lt h).2, .inl ⟨rfl, h.lower (Nat.zero_le _)⟩⟩
  · exact ⟨g, 3, 3, rfl, hg, h.lt, .inr ⟨rfl, rfl, rfl, h⟩⟩

end Go.Proofs.YthjnhfcncinhiaaDoor
/-
  The program's reader: number.
-/
namespace Go.Proofs.YthjnhfcncinhiaaDoor
open Go.RowKit

/-- What number answers: the number and nil, the reader at its end; or 0 and a fault at the place where it began. -/
def NumC (bs : List Int) (i : Int) (r : Nat) (v : Value) (y : Addr) (w : World) (e : Ending) (w' : World) : Prop :=
  w.grownBy w' (some r) ∧
  ((∃ m q, rdV bs i = (m, q, true) ∧ e = .returned (.tuple #[.int .i64 m, .nilIface]) ∧ Rdr w' r v q) ∨
   (rdV bs i = (0, i, false) ∧ ∃ b j, e = .returned (.tuple #[.int .i64 0, .iface 78 (.pointer (some ⟨b, 0, none⟩))]) ∧ Flt w' b i (.iface 135 (.pointer (some y))) ∧ w.heap.size ≤ b ∧ Rdr w' r v j))

theorem RS.unit2 {bs : List Int} {s f p : Nat} {u acc : Int} (h : RS bs s (f + 1) p u acc) : u = 2 ^ ((5 - f) * 7) := by
  rw [h.unit, Nat.mul_comm, Int.pow_mul]
  congr 1
  omega

theorem or_nat (a x k : Nat) (ha : a < 2 ^ k) (hx : x ≤ 127) (hk : k ≤ 35) : bits .or .i64 (a : Int) ((x * 2 ^ k : Nat) : Int) = ((a + x * 2 ^ k : Nat) : Int) := by
  have h2 : 2 ^ k ≤ 2 ^ 35 := Nat.pow_le_pow_right (by omega) hk
  have h3 : x * 2 ^ k ≤ 127 * 2 ^ 35 := Nat.mul_le_mul hx h2
  have e1 : (BitVec.ofInt 64 (a : Int)).toNat = a := by rw [BitVec.toNat_ofInt]; omega
  have e2 : (BitVec.ofInt 64 ((x * 2 ^ k : Nat) : Int)).toNat = x * 2 ^ k := by rw [BitVec.toNat_ofInt]; omega
  have key : (BitVec.ofInt 64 (a : Int) ||| BitVec.ofInt 64 ((x * 2 ^ k : Nat) : Int)).toNat = a + x * 2 ^ k := by
    rw [BitVec.toNat_or, e1, e2, Nat.or_comm, ← Nat.shiftLeft_eq, ← Nat.shiftLeft_add_eq_or_of_lt ha, Nat.add_comm]
  show IntKind.i64.wrap ((BitVec.ofInt 64 (a : Int) ||| BitVec.ofInt 64 ((x * 2 ^ k : Nat) : Int)).toNat : Nat) = _
  rw [key, IntKind.wrap_i64]
  omega
theorem or_step {A U x : Int} {f : Nat} (h0 : 0 ≤ A) (h1 : A < U) (hU : U = 2 ^ ((5 - f) * 7)) (x0 : 0 ≤ x) (x1 : x ≤ 127) : bits .or .i64 A (wrap64 (x * 2 ^ ((5 - f) * 7))) = A + x * U := by
  obtain ⟨a, rfl⟩ : ∃ a : Nat, A = (a : Int) := ⟨A.toNat, by omega⟩
  obtain ⟨y, rfl⟩ : ∃ y : Nat, x = (y : Int) := ⟨x.toNat, by omega⟩
  have hk : (5 - f) * 7 ≤ 35 := by omega
  generalize (5 - f) * 7 = k at hU hk
  have eU : U = ((2 ^ k : Nat) : Int) := by rw [hU]; simp
  have e : (y : Int) * 2 ^ k = ((y * 2 ^ k : Nat) : Int) := by simp
  have h2 : 2 ^ k ≤ 2 ^ 35 := Nat.pow_le_pow_right (by omega) hk
  have h3 : y * 2 ^ k ≤ 127 * 2 ^ 35 := Nat.mul_le_mul (by omega) h2
  have ew : wrap64 ((y * 2 ^ k : Nat) : Int) = ((y * 2 ^ k : Nat) : Int) := by unfold wrap64; omega
  rw [e, ew, or_nat a y k (by omega) (by omega) hk, hU]
  simp

set_option maxHeartbeats 1000000 in
theorem number_any (r : Nat) (ao : Option Addr) (n cap : Nat) (bs : List Int) (i : Int) (y : Addr) (w : World) (hn : bs.length = n) (hi : I64 i) (h : ReadsB w ao bs) (hb : blk ao ≠ some r)
    (hr : Rdr w r (.slice ao n cap) i) (hy : w.cell? ⟨3, 0, none⟩ = some (.iface 135 (.pointer (some y)))) (hyr : r ≠ 3) :
    Calls Tryd.prog 58 #[.pointer (some ⟨r, 0, none⟩)] w (NumC bs i r (.slice ao n cap) y w) := by
  subst hn
  have hl := h.len
  have c1 := hr.c1
  by_cases hio : i < 0 ∨ (bs.length : Int) ≤ i
  · have HE : Hid (rdV bs i = (0, i, false)) := rdV_out hio
    have cm := more_any r ao bs.length cap i w hr
    rw [inB_not (by omega)] at cm
    clear hio
    go_enter Tryd.func58, Tryd.ntmps58
    go_wp2_with fail
    refine wp_loop_rounds 1 ?_
    rw [rounds_succ]
    go_wp2_with fail
    refine (cm).mono ?_
    rintro e w1 ⟨rfl, nq, rfl⟩
    have c2 : (w.drewN nq).cell? ⟨3, 0, none⟩ = some (.iface 135 (.pointer (some y))) := hy
    go_wp2_with fail
    go_region
    all_goals (try go_wp2)
    all_goals (
      go_ret2
      have f : Fr w ((w.drewN (nq + 1)).alloc (.cells #[.int .i64 i, .iface 135 (.pointer (some y))] 80)) := (Fr.drewN _ _).trans (Fr.alloc _ _)
      exact ⟨f.row _, .inr ⟨HE.out, w.heap.size, i, rfl, Flt.new (w.drewN (nq + 1)) _ _, Nat.le_refl _, hr.fr f⟩⟩)
  · obtain ⟨s, rfl⟩ : ∃ s : Nat, i = (s : Int) := ⟨i.toNat, by omega⟩
    have hsl : s < bs.length := by omega
    clear hio
    go_enter Tryd.func58, Tryd.ntmps58
    go_wp2_with fail
    go_loopw [5, 6] (fun a k wr => ∃ (f p : Nat) (U A : Int), a = .int .i64 A ∧ k = .int .i64 (6 - (f : Int)) ∧ f ≤ 6 ∧ s ≤ p ∧ p ≤ bs.length ∧ Hid (RS bs s f p U A) ∧ Rdr wr r (.slice ao bs.length cap) (p : Int) ∧ w.grownBy wr (some r)) (fun _ k _ => 6 - (intOf k).toNat)
    case atStart => exact ⟨6, s, 1, 0, rfl, rfl, by omega, Nat.le_refl _, by omega, RS.start bs s, hr, (Fr.refl w).row _⟩
    case round =>
      obtain ⟨f, p, U, A, rfl, rfl, hf6, hsp, hpl, HR, hrp, hg⟩ := hrel
      have hfp := HR.out.fp
      have hu := HR.out.unit_in
      have ha0 := HR.out.acc0
      have ha1 := HR.out.acc1
      have cm := more_any r ao bs.length cap p wr hrp
      have hyw := hg.cell hy (by simpa using Ne.symm hyr)
      have hrd := h.keep hg (.inr hb)
      by_cases hf : f = 0
      · subst hf
        have HE : Hid (rdV bs s = (0, (s : Int), false)) := rdV_none (HR.out.stop (.inl rfl))
        clear HR cm c1 hr
        go_wp2_with fail
        go_region
        all_goals (try go_wp2)
        all_goals (
          go_ret2
          have k : w.grownBy ((wr.drewN 1).alloc (.cells #[.int .i64 s, .iface 135 (.pointer (some y))] 80)) (some r) := grown_trans' hg (((Fr.drewN _ _).trans (Fr.alloc _ _)).row _)
          exact ⟨k, .inr ⟨HE.out, wr.heap.size, p, rfl, Flt.new (wr.drewN 1) _ _, hg.size, hrp.fr ((Fr.drewN _ _).trans (Fr.alloc _ _))⟩⟩)
      · obtain ⟨f', rfl⟩ : ∃ f', f = f' + 1 := ⟨f - 1, by omega⟩
        by_cases hlt : p < bs.length
        · rw [inB_mk (by omega) (by omega)] at cm
          obtain ⟨b, off, rfl, hc⟩ := hrd.at_ p hlt
          have hcp := hc p hlt
          rw [getD_at hlt] at hcp
          have hbp : bs[p]? = some bs[p] := List.getElem?_eq_getElem hlt
          have hby := hrd.bd _ (List.getElem_mem hlt)
          obtain ⟨z, hz⟩ : ∃ z, z = bs[p] := ⟨_, rfl⟩
          rw [← hz] at hcp hbp hby
          obtain ⟨z0, z1⟩ := hby
          have hu2 := hu.2.2 (by omega)
          have HU : Hid (U = 2 ^ ((5 - f') * 7)) := HR.out.unit2
          have r0 := hrp.c0
          have r1 := hrp.c1
          have rf := hrp.free 1
          have hset : ∀ k, Rdr ((wr.drewN k).setCell ⟨r, 1, none⟩ (.int .i64 ((p : Int) + 1))) r _ ((p : Int) + 1) := fun k => (hrp.fr (Fr.drewN wr k)).set ((p : Int) + 1)
          have hgs : ∀ k, w.grownBy ((wr.drewN k).setCell ⟨r, 1, none⟩ (.int .i64 ((p : Int) + 1))) (some r) := fun k => grown_trans' (grown_trans' hg ((Fr.drewN wr k).row _)) (grown_setCell _ r 1 _)
          have hy2 : ∀ k, ((wr.drewN k).setCell ⟨r, 1, none⟩ (.int .i64 ((p : Int) + 1))).cell? ⟨3, 0, none⟩ = some (.iface 135 (.pointer (some y))) := fun k => (hgs k).cell hy (by simpa using Ne.symm hyr)
          by_cases h128 : 128 ≤ z
          · have HM : Hid (RS bs s f' (p + 1) (U * 128) (A + (z - 128) * U)) := HR.out.more hbp h128 z1
            clear hc hz HR hbp hu c1 hr
            go_wp2_with fail
            refine (cm).mono ?_
            rintro e w1 ⟨rfl, nq, rfl⟩
            have c0 : (wr.drewN nq).cell? ⟨r, 0, none⟩ = _ := r0
            have c1 : (wr.drewN nq).cell? ⟨r, 1, none⟩ = _ := r1
            have c2 : (wr.drewN nq).cell? ⟨b, off + p, none⟩ = _ := hcp
            have c3 : (wr.drewN nq).frozen? ⟨r, 1, none⟩ = _ := rf
            go_wp2_with fail
            go_quiet (fail)
            rename_i nd
            go_wp2_with fail
            refine ⟨⟨f', p + 1, U * 128, A + (z - 128) * U, ?_, ?_, by omega, by omega, by omega, HM, ?_, ?_⟩, ?_⟩
            · rw [or_step ha0 ha1 HU.out (by omega) (by omega)]
            · congr 1; omega
            · exact hset _
            · exact hgs _
            · simp only [intOf]; omega
          · have HL := HR.out.last hbp (by omega)
            by_cases h0 : z = 0 ∧ s < p
            · rw [if_pos h0] at HL
              have HE : Hid (rdV bs s = (0, (s : Int), false)) := rdV_none HL
              obtain ⟨rfl, hsp'⟩ := h0
              clear hc hz HR hbp hu c1 hr HL
              go_wp2_with fail
              refine (cm).mono ?_
              rintro e w1 ⟨rfl, nqa, rfl⟩
              have c0 : (wr.drewN nqa).cell? ⟨r, 0, none⟩ = _ := r0
              have c1 : (wr.drewN nqa).cell? ⟨r, 1, none⟩ = _ := r1
              have c2 : (wr.drewN nqa).cell? ⟨b, off + p, none⟩ = _ := hcp
              have c3 : (wr.drewN nqa).frozen? ⟨r, 1, none⟩ = _ := rf
              go_wp2_with fail
              go_quiet (fail)
              obtain ⟨nqb, rfl⟩ : ∃ nqb, nqb = nq := ⟨_, rfl⟩
              go_wp2_with fail
              go_region
              all_goals (try go_wp2)
              all_goals (
                go_ret2
                have es : ((wr.drewN (nqa + nqb)).setCell ⟨r, 1, none⟩ (.int .i64 ((p : Int) + 1))).heap.size = wr.heap.size := by simp
                have hF := Flt.new ((wr.drewN (nqa + nqb)).setCell ⟨r, 1, none⟩ (.int .i64 ((p : Int) + 1))) (.iface 135 (.pointer (some y))) s
                rw [es] at hF
                have k2 := (Fr.alloc ((wr.drewN (nqa + nqb)).setCell ⟨r, 1, none⟩ (.int .i64 ((p : Int) + 1))) (.cells #[.int .i64 s, .iface 135 (.pointer (some y))] 80)).trans (Fr.drew _)
                exact ⟨grown_trans' (hgs _) (k2.row _), .inr ⟨HE.out, wr.heap.size, _, rfl, hF, hg.size, (hset _).fr k2⟩⟩)
            · rw [if_neg h0] at HL
              have HE : Hid (rdV bs s = (A + z * U, (p : Int) + 1, true)) := by
                show _ = _
                rw [rdV_some HL]
                rfl
              by_cases hz0 : z = 0
              · have hsp' : s = p := by omega
                have hf5 : f' = 5 := by omega
                have HX : Hid (bits .or .i64 A (wrap64 (z * 2 ^ ((5 - f') * 7))) = A + z * U) := or_step ha0 ha1 HU.out (by omega) (by omega)
                subst hz0 hsp' hf5
                clear hc hz HR hbp hu c1 hr HL h0
                go_wp2_with fail
                refine (cm).mono ?_
                rintro e w1 ⟨rfl, nq, rfl⟩
                have c0 : (wr.drewN nq).cell? ⟨r, 0, none⟩ = _ := r0
                have c1 : (wr.drewN nq).cell? ⟨r, 1, none⟩ = _ := r1
                have c2 : (wr.drewN nq).cell? ⟨b, off + s, none⟩ = _ := hcp
                have c3 : (wr.drewN nq).frozen? ⟨r, 1, none⟩ = _ := rf
                go_wp2_with fail
                go_quiet (fail)
                go_wp2_with fail
                go_ret2
                have HX : bits .or .i64 A 0 = A := by
                  have := HX.out
                  simpa [wrap64] using this
                have HE : rdV bs s = (A, (s : Int) + 1, true) := by
                  have := HE.out
                  simpa using this
                refine ⟨hgs _, .inl ⟨A, (s : Int) + 1, HE, ?_, hset _⟩⟩
                conv => rhs; rw [← HX]
                rfl
              · have HX : Hid (bits .or .i64 A (wrap64 (z * 2 ^ ((5 - f') * 7))) = A + z * U) := or_step ha0 ha1 HU.out (by omega) (by omega)
                clear hc hz HR hbp hu c1 hr HL h0
                go_wp2_with fail
                refine (cm).mono ?_
                rintro e w1 ⟨rfl, nq, rfl⟩
                have c0 : (wr.drewN nq).cell? ⟨r, 0, none⟩ = _ := r0
                have c1 : (wr.drewN nq).cell? ⟨r, 1, none⟩ = _ := r1
                have c2 : (wr.drewN nq).cell? ⟨b, off + p, none⟩ = _ := hcp
                have c3 : (wr.drewN nq).frozen? ⟨r, 1, none⟩ = _ := rf
                go_wp2_with fail
                go_quiet (fail)
                go_wp2_with fail
                go_ret2
                refine ⟨hgs _, .inl ⟨A + z * U, (p : Int) + 1, HE.out, ?_, hset _⟩⟩
                rw [← HX.out]
                rfl
        · rw [inB_not (by omega)] at cm
          have HE : Hid (rdV bs s = (0, (s : Int), false)) := rdV_none (HR.out.stop (.inr (by omega)))
          clear HR c1 hr
          go_wp2_with fail
          refine (cm).mono ?_
          rintro e w1 ⟨rfl, nq, rfl⟩
          have c2 : (wr.drewN nq).cell? ⟨3, 0, none⟩ = some (.iface 135 (.pointer (some y))) := hyw
          go_wp2_with fail
          go_region
          all_goals (try go_wp2)
          all_goals (
            go_ret2
            have f : Fr wr ((wr.drewN (nq + 1)).alloc (.cells #[.int .i64 s, .iface 135 (.pointer (some y))] 80)) := (Fr.drewN _ _).trans (Fr.alloc _ _)
            exact ⟨grown_trans' hg (f.row _), .inr ⟨HE.out, wr.heap.size, p, rfl, Flt.new (wr.drewN (nq + 1)) _ _, hg.size, hrp.fr f⟩⟩)
end Go.Proofs.YthjnhfcncinhiaaDoor
/-
  The program's reader: event.
-/
namespace Go.Proofs.YthjnhfcncinhiaaDoor
open Go.RowKit
set_option linter.unusedVariables false

theorem gthen {a b c : World} {g : Nat} {row : Option Nat} (h : a.grownBy b (some g)) (k : b.grownBy c row) (hr : ∀ j, row = some j → a.heap.size ≤ j ∨ j = g) : a.grownBy c (some g) :=
  ⟨k.os.trans h.os, k.tape.trans h.tape, k.output.trans h.output, Nat.le_trans h.size k.size,
    fun i hi hne => (k.block i (Nat.lt_of_lt_of_le hi h.size) (fun e => by rcases hr i e.symm with q | q; omega; exact hne (by rw [q]))).trans (h.block i hi hne)⟩
theorem gnone {a r : Nat} : ∀ j, (none : Option Nat) = some j → a ≤ j ∨ j = r := fun _ h => by cases h

/-- A reader at work: at the place p of the bytes bs. -/
structure RdrS (w : World) (r : Nat) (ao : Option Addr) (n cap : Nat) (bs : List Int) (p : Int) : Prop where
  rd : Rdr w r (.slice ao n cap) p
  bs : ReadsB w ao bs
  lt : ∀ j, blk ao = some j → j < r
theorem RdrS.ne {w : World} {r : Nat} {ao : Option Addr} {n cap : Nat} {bs : List Int} {p : Int} (h : RdrS w r ao n cap bs p) : blk ao ≠ some r := fun q => by have := h.lt _ q; omega
theorem RdrS.far {w : World} {r : Nat} {ao : Option Addr} {n cap : Nat} {bs : List Int} {p : Int} (h : RdrS w r ao n cap bs p) {g : Nat} (hg : r < g) : blk ao ≠ some g := fun q => by have := h.lt _ q; omega
theorem RdrS.keep {w w' : World} {r : Nat} {ao : Option Addr} {n cap : Nat} {bs : List Int} {p : Int} {row : Option Nat} (h : RdrS w r ao n cap bs p) (k : w.grownBy w' row) (hr : row ≠ some r) (hb : row = none ∨ blk ao ≠ row) : RdrS w' r ao n cap bs p :=
  ⟨h.rd.keep k hr, h.bs.keep k hb, h.lt⟩
theorem RdrS.fr {w w' : World} {r : Nat} {ao : Option Addr} {n cap : Nat} {bs : List Int} {p : Int} (h : RdrS w r ao n cap bs p) (k : Fr w w') : RdrS w' r ao n cap bs p := h.keep k (by simp) (.inl rfl)
theorem RdrS.went {w w' : World} {r : Nat} {ao : Option Addr} {n cap : Nat} {bs : List Int} {p q : Int} (h : RdrS w r ao n cap bs p) (k : w.grownBy w' (some r)) (hr : Rdr w' r (.slice ao n cap) q) : RdrS w' r ao n cap bs q :=
  ⟨hr, h.bs.keep k (.inr h.ne), h.lt⟩

theorem number_ok {r : Nat} {ao : Option Addr} {cap : Nat} {bs : List Int} {p q : Nat} {m : Int} {y : Addr} {w : World} (h : RdrS w r ao bs.length cap bs (p : Int)) (hp : p ≤ bs.length) (hy : w.cell? ⟨3, 0, none⟩ = some (.iface 135 (.pointer (some y)))) (hyr : r ≠ 3) (hr : rdN bs p = some (m, q)) :
    Calls Tryd.prog 58 #[.pointer (some ⟨r, 0, none⟩)] w fun e w' => e = .returned (.tuple #[.int .i64 m, .nilIface]) ∧ RdrS w' r ao bs.length cap bs (q : Int) ∧ w.grownBy w' (some r) := by
  have hl := h.bs.len
  refine (number_any r ao bs.length cap bs p y w rfl ⟨by omega, by omega⟩ h.bs h.ne h.rd hy hyr).mono fun e w' ⟨hg, H⟩ => ?_
  rw [rdV_some hr] at H
  rcases H with ⟨m', q', hE, rfl, hr1⟩ | ⟨hE, -⟩
  · simp only [Prod.mk.injEq, and_true] at hE
    obtain ⟨rfl, rfl⟩ := hE
    exact ⟨rfl, h.went hg hr1, hg⟩
  · simp at hE
theorem number_no {r : Nat} {ao : Option Addr} {cap : Nat} {bs : List Int} {p : Nat} {y : Addr} {w : World} (h : RdrS w r ao bs.length cap bs (p : Int)) (hp : p ≤ bs.length) (hy : w.cell? ⟨3, 0, none⟩ = some (.iface 135 (.pointer (some y)))) (hyr : r ≠ 3) (hr : rdN bs p = none) :
    Calls Tryd.prog 58 #[.pointer (some ⟨r, 0, none⟩)] w fun e w' => ∃ b j, e = .returned (.tuple #[.int .i64 0, .iface 78 (.pointer (some ⟨b, 0, none⟩))]) ∧ Flt w' b (p : Int) (.iface 135 (.pointer (some y))) ∧ w.heap.size ≤ b ∧ RdrS w' r ao bs.length cap bs j ∧ w.grownBy w' (some r) := by
  have hl := h.bs.len
  refine (number_any r ao bs.length cap bs p y w rfl ⟨by omega, by omega⟩ h.bs h.ne h.rd hy hyr).mono fun e w' ⟨hg, H⟩ => ?_
  rw [rdV_none hr] at H
  rcases H with ⟨m', q', hE, rfl, hr1⟩ | ⟨hE, b, j, rfl, hF, hb, hr1⟩
  · simp at hE
  · exact ⟨b, j, rfl, hF, hb, h.went hg hr1, hg⟩

/-- What event answers. -/
def EvtC (bs : List Int) (p r : Nat) (ao : Option Addr) (cap : Nat) (en ee : Addr) (w : World) (x : Ending) (w' : World) : Prop :=
  w.grownBy w' (some r) ∧
  ((∃ e q, rdEv bs p = .ok (e, q) ∧ x = .returned (.tuple #[.agg #[.int .i64 e.k, .int .i64 e.g, .int .i64 e.o, .int .i64 e.w, .int .i64 e.l, .int .i64 e.s, .int .i64 e.f, .int .i64 e.t], .nilIface]) ∧ RdrS w' r ao bs.length cap bs (q : Int)) ∨
   (∃ c y b i j, rdEv bs p = .error c ∧ ((c = 2 ∧ y = en) ∨ (c = 3 ∧ y = ee)) ∧ x = .returned (.tuple #[.agg #[.int .i64 0, .int .i64 0, .int .i64 0, .int .i64 0, .int .i64 0, .int .i64 0, .int .i64 0, .int .i64 0], .iface 78 (.pointer (some ⟨b, 0, none⟩))]) ∧ Flt w' b i (.iface 135 (.pointer (some y))) ∧ w.heap.size ≤ b ∧ RdrS w' r ao bs.length cap bs j))

theorem rdSeq_step {bs : List Int} {os : List Nat} {t : Nat} (h : t < os.length) {p q : Nat} {n : Int} (hr : rdN bs p = some (n, q)) (a : Ev) : rdSeq bs (os.drop t) p a = rdSeq bs (os.drop (t + 1)) q (a.put os[t] n) := by
  rw [List.drop_eq_getElem_cons h, rdSeq, hr]
theorem rdSeq_stop {bs : List Int} {os : List Nat} {t : Nat} (h : t < os.length) {p : Nat} (hr : rdN bs p = none) (a : Ev) : rdSeq bs (os.drop t) p a = none := by
  rw [List.drop_eq_getElem_cons h, rdSeq, hr]
theorem EvB.putAt {w : World} {b : Nat} {e : Ev} (h : EvB w b e) (o : Nat) (ho : o < 8) (x : Int) : EvB (w.setCell ⟨b, o, none⟩ (.int .i64 x)) b (e.put o x) := by
  rcases (by omega : o = 0 ∨ o = 1 ∨ o = 2 ∨ o = 3 ∨ o = 4 ∨ o = 5 ∨ o = 6 ∨ o = 7) with rfl | rfl | rfl | rfl | rfl | rfl | rfl | rfl
  · exact h.setK x
  · exact h.setG x
  · exact h.setO x
  · exact h.setW x
  · exact h.setL x
  · exact h.setS x
  · exact h.setF x
  · exact h.setT x

/-- The result set to nothing. -/
def S8 (w : World) (rb : Nat) : World := (((((((w.setCell ⟨rb, 0, none⟩ (.int .i64 0)).setCell ⟨rb, 1, none⟩ (.int .i64 0)).setCell ⟨rb, 2, none⟩ (.int .i64 0)).setCell ⟨rb, 3, none⟩ (.int .i64 0)).setCell ⟨rb, 4, none⟩ (.int .i64 0)).setCell ⟨rb, 5, none⟩ (.int .i64 0)).setCell ⟨rb, 6, none⟩ (.int .i64 0)).setCell ⟨rb, 7, none⟩ (.int .i64 0)
theorem S8.ev {w : World} {rb : Nat} {e0 : Ev} (h : EvB w rb e0) : EvB (S8 w rb) rb ⟨0, 0, 0, 0, 0, 0, 0, 0⟩ := h.set8 ⟨0, 0, 0, 0, 0, 0, 0, 0⟩
theorem S8.grown (w : World) (rb : Nat) : w.grownBy (S8 w rb) (some rb) := grown_st8 w rb _ _ _ _ _ _ _ _

/-- A fault and nothing are answered, in either order. -/
theorem fault_ok {bs : List Int} {p r rb b : Nat} {ao : Option Addr} {cap : Nat} {en ee : Addr} {w w1 W : World} {e0 : Ev} {j : Int} (h : EvB w1 rb e0) (hrb : w.heap.size ≤ rb) (hrl : r < w.heap.size) (k : w.grownBy w1 (some r)) (hR : RdrS w1 r ao bs.length cap bs j) (hE : rdEv bs p = .error 3)
    (hW : (W = (S8 (w1.alloc (.cells #[.int .i64 (p : Int), .iface 135 (.pointer (some ee))] 80)) rb).drew ∧ b = w1.heap.size) ∨ (W = ((S8 w1 rb).alloc (.cells #[.int .i64 (p : Int), .iface 135 (.pointer (some ee))] 80)).drew ∧ b = w1.heap.size)) :
    EvB W rb ⟨0, 0, 0, 0, 0, 0, 0, 0⟩ ∧
    EvtC bs p r ao cap en ee w (.returned (.tuple #[.agg #[.int .i64 0, .int .i64 0, .int .i64 0, .int .i64 0, .int .i64 0, .int .i64 0, .int .i64 0, .int .i64 0], .iface 78 (.pointer (some ⟨b, 0, none⟩))])) W := by
  have hl := h.lt
  have hs := k.size
  rcases hW with ⟨rfl, rfl⟩ | ⟨rfl, rfl⟩
  · have fF := Fr.alloc w1 (.cells #[.int .i64 (p : Int), .iface 135 (.pointer (some ee))] 80)
    have gz := S8.grown (w1.alloc (.cells #[.int .i64 (p : Int), .iface 135 (.pointer (some ee))] 80)) rb
    have fD := Fr.drew (S8 (w1.alloc (.cells #[.int .i64 (p : Int), .iface 135 (.pointer (some ee))] 80)) rb)
    have hN := ((Flt.new w1 (.iface 135 (.pointer (some ee))) (p : Int)).keep gz (by simp; omega)).keep fD (by simp)
    refine ⟨(S8.ev (h.keep fF (by simp))).keep fD (by simp), gthen (gthen (gthen k fF gnone) gz (fun i hi => .inl (by simp only [Option.some.injEq] at hi; omega))) fD gnone, .inr ⟨3, ee, w1.heap.size, p, j, hE, .inr ⟨rfl, rfl⟩, rfl, hN, by omega, ?_⟩⟩
    exact ((hR.fr fF).keep gz (by simp; omega) (.inr (hR.far (by omega)))).fr fD
  · have gz := S8.grown w1 rb
    have hsz : (S8 w1 rb).heap.size = w1.heap.size := by simp [S8]
    have fF := Fr.alloc (S8 w1 rb) (.cells #[.int .i64 (p : Int), .iface 135 (.pointer (some ee))] 80)
    have fD := Fr.drew ((S8 w1 rb).alloc (.cells #[.int .i64 (p : Int), .iface 135 (.pointer (some ee))] 80))
    have hN := (Flt.new (S8 w1 rb) (.iface 135 (.pointer (some ee))) (p : Int)).keep fD (by simp)
    rw [hsz] at hN
    refine ⟨((S8.ev h).keep fF (by simp)).keep fD (by simp), gthen (gthen (gthen k gz (fun i hi => .inl (by simp only [Option.some.injEq] at hi; omega))) fF gnone) fD gnone, .inr ⟨3, ee, w1.heap.size, p, j, hE, .inr ⟨rfl, rfl⟩, rfl, hN, by omega, ?_⟩⟩
    exact ((hR.keep gz (by simp; omega) (.inr (hR.far (by omega)))).fr fF).fr fD

set_option maxRecDepth 20000 in
set_option maxHeartbeats 1000000 in
theorem event_none (r : Nat) (ao : Option Addr) (cap : Nat) (bs : List Int) (p : Nat) (en ee : Addr) (w : World) (hp : p ≤ bs.length) (hR : RdrS w r ao bs.length cap bs (p : Int))
    (hn : w.cell? ⟨3, 0, none⟩ = some (.iface 135 (.pointer (some en)))) (he : w.cell? ⟨4, 0, none⟩ = some (.iface 135 (.pointer (some ee)))) (hrn : r ≠ 3) (hre : r ≠ 4) (hrs : r ≠ 0) (hs : Shapes w) (hr : rdN bs p = none) :
    Calls Tryd.prog 44 #[.pointer (some ⟨r, 0, none⟩)] w (EvtC bs p r ao cap en ee w) := by
  have hu := hR.bs.bd
  have hrl := hR.rd.lt
  have f0 := Fr.alloc w (.cells #[.int .i64 0, .int .i64 0, .int .i64 0, .int .i64 0, .int .i64 0, .int .i64 0, .int .i64 0, .int .i64 0] 38)
  have hz := EvB.new w ⟨0, 0, 0, 0, 0, 0, 0, 0⟩
  have hR0 := hR.fr f0
  have r1 := hR0.rd.c1
  have hel : 4 < w.heap.size := World.block_lt_of_cell? w _ he
  have hnl : 3 < w.heap.size := World.block_lt_of_cell? w _ hn
  have c1 := number_no hR0 hp (f0.cell hn) hrn hr
  have HE : Hid (rdEv bs p = .error 2) := rdEv_no hr
  clear hr
  go_enter Tryd.func44, Tryd.ntmps44
  go_wp2_with fail
  refine c1.mono ?_
  rintro x w1 ⟨b, j, rfl, hF, hb, hR1, k1⟩
  have hz1 := hz.keep k1 (by simp; omega)
  have hb' : w.heap.size + 1 ≤ b := by simpa using hb
  obtain ⟨b0, b1, b2, b3, b4, b5, b6, b7⟩ := hz1.at
  have z := hz1.free
  have hz2 := hz1.set8 ⟨0, 0, 0, 0, 0, 0, 0, 0⟩
  have gz := grown_st8 w1 w.heap.size (.int .i64 0) (.int .i64 0) (.int .i64 0) (.int .i64 0) (.int .i64 0) (.int .i64 0) (.int .i64 0) (.int .i64 0)
  clear c1 hz r1 hb
  go_wp2_with fail
  obtain ⟨d0, d1, d2, d3, d4, d5, d6, d7⟩ := hz2.at
  have kk : w.grownBy _ (some r) := gthen (gthen (f0.row (some r)) k1 (fun j hj => .inr (by simpa using hj.symm))) gz (fun j hj => .inl (by simp only [Option.some.injEq] at hj; omega))
  exact bodyPost_ret (v := .tuple #[.agg #[.int .i64 0, .int .i64 0, .int .i64 0, .int .i64 0, .int .i64 0, .int .i64 0, .int .i64 0, .int .i64 0], .iface 78 (.pointer (some ⟨b, 0, none⟩))]) (by simp [results, Tryd.results44, go_sem, d0, d1, d2, d3, d4, d5, d6, d7]) rfl
    ⟨kk, .inr ⟨2, en, b, p, j, HE.out, .inl ⟨rfl, rfl⟩, rfl, hF.keep gz (by simp; omega), by omega, hR1.keep gz (by simp; omega) (.inr (hR.far hrl))⟩⟩

set_option maxRecDepth 20000 in
set_option maxHeartbeats 1000000 in
theorem event_kind (r : Nat) (ao : Option Addr) (cap : Nat) (bs : List Int) (p : Nat) (en ee : Addr) (w : World) (hp : p ≤ bs.length) (hR : RdrS w r ao bs.length cap bs (p : Int))
    (hn : w.cell? ⟨3, 0, none⟩ = some (.iface 135 (.pointer (some en)))) (he : w.cell? ⟨4, 0, none⟩ = some (.iface 135 (.pointer (some ee)))) (hrn : r ≠ 3) (hre : r ≠ 4) (hrs : r ≠ 0) (hs : Shapes w) (k : Int) (q : Nat) (hr : rdN bs p = some (k, q)) (hk : inB 1 22 k = false) :
    Calls Tryd.prog 44 #[.pointer (some ⟨r, 0, none⟩)] w (EvtC bs p r ao cap en ee w) := by
  have hu := hR.bs.bd
  have hrl := hR.rd.lt
  have f0 := Fr.alloc w (.cells #[.int .i64 0, .int .i64 0, .int .i64 0, .int .i64 0, .int .i64 0, .int .i64 0, .int .i64 0, .int .i64 0] 38)
  have hz := EvB.new w ⟨0, 0, 0, 0, 0, 0, 0, 0⟩
  have hR0 := hR.fr f0
  have r1 := hR0.rd.c1
  have hel : 4 < w.heap.size := World.block_lt_of_cell? w _ he
  have hnl : 3 < w.heap.size := World.block_lt_of_cell? w _ hn
  have c1 := number_ok hR0 hp (f0.cell hn) hrn hr
  have hq := (rdN_lt hu hr).2
  have HR : Hid (rdN bs p = some (k, q)) := hr
  have cK := fun w => kindIn_any k w
  clear hr
  rw [hk] at cK
  have HE : Hid (rdEv bs p = .error 3) := rdEv_kind HR.out hk
  clear hk HR
  go_enter Tryd.func44, Tryd.ntmps44
  go_wp2_with fail
  refine c1.mono ?_
  rintro x w1 ⟨rfl, hR1, k1⟩
  go_wp2_with fail
  refine (cK _).mono ?_
  rintro e w2 ⟨rfl, rfl⟩
  have hz1 := hz.keep k1 (by simp; omega)
  have he1 := k1.cell (f0.cell he) (by simp; omega)
  obtain ⟨b0, b1, b2, b3, b4, b5, b6, b7⟩ := hz1.at
  have z := hz1.free
  have fF := Fr.alloc w2 (.cells #[.int .i64 (p : Int), .iface 135 (.pointer (some ee))] 80)
  have hzF := hz1.keep fF (by simp)
  obtain ⟨v0, v1, v2, v3, v4, v5, v6, v7⟩ := hzF.at
  have zF := hzF.free
  have gz := grown_st8 w2 w.heap.size (.int .i64 0) (.int .i64 0) (.int .i64 0) (.int .i64 0) (.int .i64 0) (.int .i64 0) (.int .i64 0) (.int .i64 0)
  have he2 := gz.cell he1 (by simp; omega)
  clear c1 cK hz r1
  go_wp2_with fail
  go_region
  · go_wp2_with fail
    obtain ⟨hzX, hX⟩ := fault_ok (W := (S8 (w2.alloc (.cells #[.int .i64 (p : Int), .iface 135 (.pointer (some ee))] 80)) w.heap.size).drew) (ee := ee) (en := en) hz1 (Nat.le_refl _) hrl (gthen (f0.row (some r)) k1 (fun j hj => .inr (by simpa using hj.symm))) hR1 HE.out (.inl ⟨rfl, rfl⟩)
    obtain ⟨d0, d1, d2, d3, d4, d5, d6, d7⟩ := hzX.at
    simp only [S8] at d0 d1 d2 d3 d4 d5 d6 d7
    exact bodyPost_ret (v := .tuple #[.agg #[.int .i64 0, .int .i64 0, .int .i64 0, .int .i64 0, .int .i64 0, .int .i64 0, .int .i64 0, .int .i64 0], .iface 78 (.pointer (some ⟨w2.heap.size, 0, none⟩))]) (by simp [results, Tryd.results44, go_sem, d0, d1, d2, d3, d4, d5, d6, d7]) rfl hX
  · go_wp2_with fail
    obtain ⟨hzX, hX⟩ := fault_ok (W := ((S8 w2 w.heap.size).alloc (.cells #[.int .i64 (p : Int), .iface 135 (.pointer (some ee))] 80)).drew) (ee := ee) (en := en) hz1 (Nat.le_refl _) hrl (gthen (f0.row (some r)) k1 (fun j hj => .inr (by simpa using hj.symm))) hR1 HE.out (.inr ⟨rfl, rfl⟩)
    obtain ⟨d0, d1, d2, d3, d4, d5, d6, d7⟩ := hzX.at
    simp only [S8] at d0 d1 d2 d3 d4 d5 d6 d7
    exact bodyPost_ret (v := .tuple #[.agg #[.int .i64 0, .int .i64 0, .int .i64 0, .int .i64 0, .int .i64 0, .int .i64 0, .int .i64 0, .int .i64 0], .iface 78 (.pointer (some ⟨w2.heap.size, 0, none⟩))]) (by simp [results, Tryd.results44, go_sem, d0, d1, d2, d3, d4, d5, d6, d7]) rfl hX

end Go.Proofs.YthjnhfcncinhiaaDoor
/-
  The program's reader: event, where the Kind is one.
-/
namespace Go.Proofs.YthjnhfcncinhiaaDoor
open Go.RowKit
set_option linter.unusedVariables false

set_option maxRecDepth 20000 in
set_option maxHeartbeats 1000000 in
theorem event_true (r : Nat) (ao : Option Addr) (cap : Nat) (bs : List Int) (p : Nat) (en ee : Addr) (w : World) (hp : p ≤ bs.length) (hR : RdrS w r ao bs.length cap bs (p : Int))
    (hn : w.cell? ⟨3, 0, none⟩ = some (.iface 135 (.pointer (some en)))) (he : w.cell? ⟨4, 0, none⟩ = some (.iface 135 (.pointer (some ee)))) (hrn : r ≠ 3) (hre : r ≠ 4) (hrs : r ≠ 0) (hs : Shapes w) (k : Int) (q : Nat) (hr : rdN bs p = some (k, q)) (hk : inB 1 22 k = true) :
    Calls Tryd.prog 44 #[.pointer (some ⟨r, 0, none⟩)] w (EvtC bs p r ao cap en ee w) := by
  have hu := hR.bs.bd
  have hrl := hR.rd.lt
  have f0 := Fr.alloc w (.cells #[.int .i64 0, .int .i64 0, .int .i64 0, .int .i64 0, .int .i64 0, .int .i64 0, .int .i64 0, .int .i64 0] 38)
  have hz := EvB.new w ⟨0, 0, 0, 0, 0, 0, 0, 0⟩
  have hR0 := hR.fr f0
  have r1 := hR0.rd.c1
  have hel : 4 < w.heap.size := World.block_lt_of_cell? w _ he
  have hnl : 3 < w.heap.size := World.block_lt_of_cell? w _ hn
  have c1 := number_ok hR0 hp (f0.cell hn) hrn hr
  have hq := (rdN_lt hu hr).2
  have HR : Hid (rdN bs p = some (k, q)) := hr
  have cK := fun w => kindIn_any k w
  clear hr
  rw [hk] at cK
  have HK : Hid (inB 1 22 k = true) := hk
  obtain ⟨n, hn22, hkn⟩ := kinds hk
  have HKN : Hid (k = (n : Int) + 1) := hkn
  have hofi := (offs_in (k := k)).1
  have hofl := offs_len k
  clear hk hkn
  obtain ⟨os, hos⟩ : ∃ os, os = offs k := ⟨_, rfl⟩
  have HOS : Hid (os = offs k) := hos
  rw [← hos] at hofi hofl
  clear hos
  go_enter Tryd.func44, Tryd.ntmps44
  go_wp2_with fail
  refine c1.mono ?_
  rintro x w1 ⟨rfl, hR1, k1⟩
  go_wp2_with fail
  refine (cK _).mono ?_
  rintro e w2 ⟨rfl, rfl⟩
  have hz1 := hz.keep k1 (by simp; omega)
  have k2 := gthen (f0.row (some r)) k1 (fun j hj => .inr (by simpa using hj.symm))
  have s2 := k2.size
  have hzl := hz1.lt
  have fE := Fr.alloc w2 (.cells #[.int .i64 k, .int .i64 0, .int .i64 0, .int .i64 0, .int .i64 0, .int .i64 0, .int .i64 0, .int .i64 0] 38)
  have hE1 := EvB.new w2 (ev0 k)
  have hEk := hE1.at.1
  have cP := partsOf_any w2.heap.size n hn22 _ ((hs.keep k2 (by simpa using hrs)).fr fE) (by rw [← HKN.out]; exact hEk)
  rw [← HKN.out, ← HOS.out] at cP
  clear c1 cK hz r1 hEk
  go_wp2_with fail
  refine cP.mono ?_
  rintro x w3 ⟨v3, rfl, o3, f3⟩
  obtain ⟨gp, cp, rfl, gpb, gpl, -, hcp⟩ := o3.open
  have hE3 : EvB w3 w2.heap.size (ev0 k) := hE1.keep f3 (by simp)
  have hz3 := (hz1.keep fE (by simp)).keep f3 (by simp)
  have hR3 := (hR1.fr fE).fr f3
  have k3 := gthen (gthen k2 fE gnone) f3 gnone
  have es1 : (w2.alloc (.cells #[.int .i64 k, .int .i64 0, .int .i64 0, .int .i64 0, .int .i64 0, .int .i64 0, .int .i64 0, .int .i64 0] 38)).heap.size = w2.heap.size + 1 := by simp
  rw [es1] at gpb
  obtain ⟨eb, heb⟩ : ∃ eb, eb = w2.heap.size := ⟨_, rfl⟩
  rw [← heb] at hE3 gpb hcp hzl s2
  simp only [← heb]
  clear cP hE1 fE f3 o3 es1 hz1 hR1 k1 k2 heb
  have HQ : Hid (rdSeq bs (os.drop 0) q (ev0 k) = rdSeq bs os q (ev0 k)) := rfl
  have hnw : ∀ wr, w.grownBy wr (some r) → wr.cell? ⟨3, 0, none⟩ = some (.iface 135 (.pointer (some en))) := fun wr kk => kk.cell hn (by simp; omega)
  go_wp2_with fail
  go_loopw [36] (fun i wr => ∃ (t pt : Nat) (e : Ev), t ≤ os.length ∧ i = .int .i64 (t : Int) ∧ pt ≤ bs.length ∧ RdrS wr r ao bs.length cap bs (pt : Int) ∧ EvB wr eb e ∧ EvB wr w.heap.size ⟨0, 0, 0, 0, 0, 0, 0, 0⟩ ∧ (∀ t (ht : t < os.length), wr.cell? ⟨gp, t, none⟩ = some (.pointer (some ⟨eb, os[t], none⟩))) ∧ Hid (rdSeq bs (os.drop t) pt e = rdSeq bs os q (ev0 k)) ∧ w.grownBy wr (some r)) (fun i _ => os.length - (intOf i).toNat)
  case atStart => exact ⟨0, q, ev0 k, Nat.zero_le _, rfl, hq, hR3, hE3, hz3, hcp, HQ, k3⟩
  case round =>
    obtain ⟨t, pt, e, ht, rfl, hpt, hRt, hEt, hzt, hct, HT, kt⟩ := hrel
    clear hR3 hE3 hz3 hcp HQ k3
    have st := kt.size
    have lE := hEt.lt
    have lZ := hzt.lt
    by_cases hlt : t < os.length
    · have hc := hct t hlt
      have ho := hofi _ (List.getElem_mem hlt)
      have hen := hnw wr kt
      cases hr2 : rdN bs pt with
      | none =>
        have c2 := number_no hRt hpt hen hrn hr2
        have HE : Hid (rdEv bs p = .error 2) := by
          refine rdEv_seq HR.out HK.out ?_
          rw [← HOS.out, ← HT.out]
          exact rdSeq_stop hlt hr2 e
        obtain ⟨o, hoo⟩ : ∃ o, o = os[t] := ⟨_, rfl⟩
        rw [← hoo] at hc ho
        clear hoo hr2 HT hct
        go_wp2_with fail
        refine c2.mono ?_
        rintro x w5 ⟨b, j, rfl, hF, hb, hR5, k5⟩
        have hE5 := hEt.keep k5 (by simp; omega)
        have hz5 := hzt.keep k5 (by simp; omega)
        have ce := hE5.at.at o ho.2
        have zE := hE5.free o
        have gE := grown_st w5 eb o (.int .i64 0)
        have hz6 := hz5.keep gE (by simp; omega)
        obtain ⟨b0, b1, b2, b3, b4, b5, b6, b7⟩ := hz6.at
        have z := hz6.free
        have gz := S8.grown (w5.setCell ⟨eb, o, none⟩ (.int .i64 0)) w.heap.size
        have hz7 := S8.ev hz6
        have hbl := hF.lt
        clear c2
        go_wp2_with fail
        obtain ⟨d0, d1, d2, d3, d4, d5, d6, d7⟩ := hz7.at
        simp only [S8] at d0 d1 d2 d3 d4 d5 d6 d7
        have kk := gthen (gthen (gthen kt k5 (fun j hj => .inr (by simpa using hj.symm))) gE (fun j hj => .inl (by simp only [Option.some.injEq] at hj; omega))) gz (fun j hj => .inl (by simp only [Option.some.injEq] at hj; omega))
        have hFF := (hF.keep gE (by simp; omega)).keep gz (by simp; omega)
        have hRR := (hR5.keep gE (by simp; omega) (.inr (hR.far (by omega)))).keep gz (by simp; omega) (.inr (hR.far hrl))
        exact bodyPost_ret (v := .tuple #[.agg #[.int .i64 0, .int .i64 0, .int .i64 0, .int .i64 0, .int .i64 0, .int .i64 0, .int .i64 0, .int .i64 0], .iface 78 (.pointer (some ⟨b, 0, none⟩))]) (by simp [results, Tryd.results44, go_sem, d0, d1, d2, d3, d4, d5, d6, d7]) rfl
          ⟨kk, .inr ⟨2, en, b, pt, j, HE.out, .inl ⟨rfl, rfl⟩, rfl, hFF, by omega, hRR⟩⟩
      | some mq =>
        obtain ⟨m, pn⟩ := mq
        have c2 := number_ok hRt hpt hen hrn hr2
        have hpn := (rdN_lt hu hr2).2
        have HN : Hid (rdSeq bs (os.drop (t + 1)) pn (e.put os[t] m) = rdSeq bs os q (ev0 k)) := by
          show _ = _
          rw [← HT.out, rdSeq_step hlt hr2]
        obtain ⟨o, hoo⟩ : ∃ o, o = os[t] := ⟨_, rfl⟩
        rw [← hoo] at hc ho HN
        have HCT := (show Hid _ from hct)
        clear hoo hr2 HT hct
        go_wp2_with fail
        refine c2.mono ?_
        rintro x w5 ⟨rfl, hR5, k5⟩
        have hE5 := hEt.keep k5 (by simp; omega)
        have hz5 := hzt.keep k5 (by simp; omega)
        have ce := hE5.at.at o ho.2
        have zE := hE5.free o
        have gE := grown_st w5 eb o (.int .i64 m)
        have hE6 := hE5.putAt o ho.2 m
        have hz6 := hz5.keep gE (by simp; omega)
        have hct5 : ∀ t (ht : t < os.length), (w5.setCell ⟨eb, o, none⟩ (.int .i64 m)).cell? ⟨gp, t, none⟩ = some (.pointer (some ⟨eb, os[t], none⟩)) := fun t ht => gE.cell (k5.cell (HCT.out t ht) (by simp; omega)) (by simp; omega)
        have hR6 := hR5.keep gE (by simp; omega) (.inr (hR.far (by omega)))
        have k6 := gthen (gthen kt k5 (fun j hj => .inr (by simpa using hj.symm))) gE (fun j hj => .inl (by simp only [Option.some.injEq] at hj; omega))
        have HB := (show Hid _ from hct5)
        clear c2 hct5
        go_wp2_with fail
        go_roundw
        case rel => exact ⟨t + 1, pn, _, by omega, by go_num, hpn, hR6, hE6, hz6, HB.out, HN, k6⟩
        case measure => simp [intOf]; omega
    · have HV : Hid (rdEv bs p = if evOk e then .ok (e, pt) else .error 3) := by
        refine rdEv_fin HR.out HK.out ?_
        rw [← HOS.out, ← HT.out, List.drop_eq_nil_of_le (by omega)]
        rfl
      have cO := implOk_any e wr (hs.keep kt (by simpa using hrs))
      have hee := kt.cell he (by simp; omega)
      obtain ⟨x0, x1, x2, x3, x4, x5, x6, x7⟩ := hEt.at
      clear HT hct hnw
      cases ho : evOk e with
      | false =>
        rw [ho] at cO
        have HE : Hid (rdEv bs p = .error 3) := by
          have := HV.out
          rw [ho] at this
          show _ = _
          simpa using this
        clear HV ho
        go_wp2_with fail
        refine cO.mono ?_
        rintro x w5 ⟨rfl, f5⟩
        have hz5 := hzt.keep f5 (by simp)
        have hR5 := hRt.fr f5
        have k5 := gthen kt f5 gnone
        have he1 := f5.cell hee
        obtain ⟨b0, b1, b2, b3, b4, b5, b6, b7⟩ := hz5.at
        have z := hz5.free
        have fF := Fr.alloc w5 (.cells #[.int .i64 (p : Int), .iface 135 (.pointer (some ee))] 80)
        have hzF := hz5.keep fF (by simp)
        obtain ⟨v0, v1, v2, v3, v4, v5, v6, v7⟩ := hzF.at
        have zF := hzF.free
        have gz := grown_st8 w5 w.heap.size (.int .i64 0) (.int .i64 0) (.int .i64 0) (.int .i64 0) (.int .i64 0) (.int .i64 0) (.int .i64 0) (.int .i64 0)
        have he2 := gz.cell he1 (by simp; omega)
        clear cO x0 x1 x2 x3 x4 x5 x6 x7 hEt hzt hRt kt
        go_wp2_with fail
        go_region
        · go_wp2_with fail
          obtain ⟨hzX, hX⟩ := fault_ok (W := (S8 (w5.alloc (.cells #[.int .i64 (p : Int), .iface 135 (.pointer (some ee))] 80)) w.heap.size).drew) (ee := ee) (en := en) hz5 (Nat.le_refl _) hrl k5 hR5 HE.out (.inl ⟨rfl, rfl⟩)
          obtain ⟨d0, d1, d2, d3, d4, d5, d6, d7⟩ := hzX.at
          simp only [S8] at d0 d1 d2 d3 d4 d5 d6 d7
          exact bodyPost_ret (v := .tuple #[.agg #[.int .i64 0, .int .i64 0, .int .i64 0, .int .i64 0, .int .i64 0, .int .i64 0, .int .i64 0, .int .i64 0], .iface 78 (.pointer (some ⟨w5.heap.size, 0, none⟩))]) (by simp [results, Tryd.results44, go_sem, d0, d1, d2, d3, d4, d5, d6, d7]) rfl hX
        · go_wp2_with fail
          obtain ⟨hzX, hX⟩ := fault_ok (W := ((S8 w5 w.heap.size).alloc (.cells #[.int .i64 (p : Int), .iface 135 (.pointer (some ee))] 80)).drew) (ee := ee) (en := en) hz5 (Nat.le_refl _) hrl k5 hR5 HE.out (.inr ⟨rfl, rfl⟩)
          obtain ⟨d0, d1, d2, d3, d4, d5, d6, d7⟩ := hzX.at
          simp only [S8] at d0 d1 d2 d3 d4 d5 d6 d7
          exact bodyPost_ret (v := .tuple #[.agg #[.int .i64 0, .int .i64 0, .int .i64 0, .int .i64 0, .int .i64 0, .int .i64 0, .int .i64 0, .int .i64 0], .iface 78 (.pointer (some ⟨w5.heap.size, 0, none⟩))]) (by simp [results, Tryd.results44, go_sem, d0, d1, d2, d3, d4, d5, d6, d7]) rfl hX
      | true =>
        rw [ho] at cO
        have HE : Hid (rdEv bs p = .ok (e, pt)) := by
          have := HV.out
          rw [ho] at this
          show _ = _
          simpa using this
        clear HV ho
        go_wp2_with fail
        refine cO.mono ?_
        rintro x w5 ⟨rfl, f5⟩
        have hz5 := hzt.keep f5 (by simp)
        have hE5 := hEt.keep f5 (by simp)
        have hR5 := hRt.fr f5
        have k5 := gthen kt f5 gnone
        obtain ⟨b0, b1, b2, b3, b4, b5, b6, b7⟩ := hz5.at
        have z := hz5.free
        obtain ⟨v0, v1, v2, v3, v4, v5, v6, v7⟩ := hE5.at
        have gz := grown_st8 w5 w.heap.size (.int .i64 e.k) (.int .i64 e.g) (.int .i64 e.o) (.int .i64 e.w) (.int .i64 e.l) (.int .i64 e.s) (.int .i64 e.f) (.int .i64 e.t)
        have hz6 := hz5.set8 e
        clear cO x0 x1 x2 x3 x4 x5 x6 x7 hEt hzt hRt kt
        go_wp2_with fail
        obtain ⟨d0, d1, d2, d3, d4, d5, d6, d7⟩ := hz6.at
        have kk := gthen k5 gz (fun j hj => .inl (by simp only [Option.some.injEq] at hj; omega))
        exact bodyPost_ret (v := .tuple #[.agg #[.int .i64 e.k, .int .i64 e.g, .int .i64 e.o, .int .i64 e.w, .int .i64 e.l, .int .i64 e.s, .int .i64 e.f, .int .i64 e.t], .nilIface]) (by simp [results, Tryd.results44, go_sem, d0, d1, d2, d3, d4, d5, d6, d7]) rfl
          ⟨kk, .inl ⟨e, pt, HE.out, rfl, hR5.keep gz (by simp; omega) (.inr (hR.far hrl))⟩⟩

theorem event_any (r : Nat) (ao : Option Addr) (cap : Nat) (bs : List Int) (p : Nat) (en ee : Addr) (w : World) (hp : p ≤ bs.length) (hR : RdrS w r ao bs.length cap bs (p : Int))
    (hn : w.cell? ⟨3, 0, none⟩ = some (.iface 135 (.pointer (some en)))) (he : w.cell? ⟨4, 0, none⟩ = some (.iface 135 (.pointer (some ee)))) (hrn : r ≠ 3) (hre : r ≠ 4) (hrs : r ≠ 0) (hs : Shapes w) :
    Calls Tryd.prog 44 #[.pointer (some ⟨r, 0, none⟩)] w (EvtC bs p r ao cap en ee w) := by
  cases hr : rdN bs p with
  | none => exact event_none r ao cap bs p en ee w hp hR hn he hrn hre hrs hs hr
  | some kq =>
    obtain ⟨k, q⟩ := kq
    cases hk : inB 1 22 k with
    | false => exact event_kind r ao cap bs p en ee w hp hR hn he hrn hre hrs hs k q hr hk
    | true => exact event_true r ao cap bs p en ee w hp hR hn he hrn hre hrs hs k q hr hk
end Go.Proofs.YthjnhfcncinhiaaDoor
/-
  Decoded, by the specification.
-/
namespace Go.Proofs.YthjnhfcncinhiaaDoor
open Go.RowKit

/-- The decoding so far. -/
def DS3 (bs : List Int) (es : List Ev) (p : Nat) : Prop := decG bs (300 - es.length) p es = decL bs ∧ es.length ≤ 300
theorem DS3.start {bs : List Int} (h : hdB bs = true) : DS3 bs [] 3 := ⟨by rw [decL, if_pos h]; rfl, by simp⟩
theorem DS3.many {bs : List Int} {es : List Ev} {p : Nat} (h : DS3 bs es p) (hl : es.length = 300) (hp : p < bs.length) : decL bs = (es, 4) := by
  rw [← h.1, hl, decG, if_pos hp]
theorem DS3.fin {bs : List Int} {es : List Ev} {p : Nat} (h : DS3 bs es p) (hp : ¬ p < bs.length) : decL bs = (es, 0) := by
  rw [← h.1]
  cases 300 - es.length with
  | zero => rw [decG, if_neg hp]
  | succ f => rw [decG, if_neg hp]
theorem DS3.err {bs : List Int} {es : List Ev} {p : Nat} {c : Int} (h : DS3 bs es p) (hl : es.length ≠ 300) (hp : p < bs.length) (hr : rdEv bs p = .error c) : decL bs = (es, c) := by
  have := h.2
  obtain ⟨f, hf⟩ : ∃ f, 300 - es.length = f + 1 := ⟨299 - es.length, by omega⟩
  rw [← h.1, hf, decG, if_pos hp, hr]
theorem DS3.step {bs : List Int} {es : List Ev} {p q : Nat} {e : Ev} (h : DS3 bs es p) (hl : es.length ≠ 300) (hp : p < bs.length) (hr : rdEv bs p = .ok (e, q)) : DS3 bs (es ++ [e]) q := by
  have := h.2
  refine ⟨?_, by simp; omega⟩
  obtain ⟨f, hf⟩ : ∃ f, 300 - es.length = f + 1 := ⟨299 - es.length, by omega⟩
  rw [← h.1, hf, decG, if_pos hp, hr]
  simp only []
  congr 1
  simp
  omega
theorem rdEv_le {bs : List Int} (hu : ∀ x ∈ bs, U8 x) {p q : Nat} {e : Ev} (hp : p ≤ bs.length) (h : rdEv bs p = .ok (e, q)) : p < q ∧ q ≤ bs.length := by
  obtain ⟨-, hq, hd⟩ := rdEv_ok hu h
  have := evL_len e
  have hl := congrArg List.length hd
  simp at hl
  omega
theorem hd_no {bs : List Int} (h : bs.length < 3 ∨ bs[0]? ≠ some 82 ∨ bs[1]? ≠ some 50 ∨ bs[2]? ≠ some 49) : hdB bs = false := by
  rw [hdB, decide_eq_false_iff_not]
  intro he
  have h0 : bs[0]? = some 82 := by have := congrArg (fun l => l[0]?) he; simpa using this
  have h1 : bs[1]? = some 50 := by have := congrArg (fun l => l[1]?) he; simpa using this
  have h2 : bs[2]? = some 49 := by have := congrArg (fun l => l[2]?) he; simpa using this
  have hl := congrArg List.length he
  simp at hl
  rcases h with h | h | h | h
  · omega
  · exact h h0
  · exact h h1
  · exact h h2
theorem hd_yes {bs : List Int} (h0 : bs[0]? = some 82) (h1 : bs[1]? = some 50) (h2 : bs[2]? = some 49) : hdB bs = true := by
  match bs, h0, h1, h2 with
  | a :: b :: c :: l, h0, h1, h2 =>
    simp at h0 h1 h2
    subst h0 h1 h2
    simp [hdB]
theorem decL_no {bs : List Int} (h : hdB bs = false) : decL bs = ([], 1) := by rw [decL, h]; rfl

/-- What Decoded answers. -/
def DecC (bs : List Int) (w : World) (x : Ending) (w' : World) : Prop :=
  ∃ v, x = .returned (.tuple #[v, .int .i64 (decL bs).2]) ∧ OwnE w' w.heap.size v (decL bs).1 ∧ Fr w w'
theorem DecC.mk {bs : List Int} {w w' : World} {v : Value} {es : List Ev} {c : Int} (h : decL bs = (es, c)) (ho : OwnE w' w.heap.size v es) (hf : Fr w w') : DecC bs w (.returned (.tuple #[v, .int .i64 c])) w' := by
  refine ⟨v, by rw [h], by rw [h]; exact ho, hf⟩

set_option maxHeartbeats 4000000 in
theorem specDec_any (ao : Option Addr) (n cap : Nat) (bs : List Int) (w : World) (hn : bs.length = n) (h : ReadsB w ao bs) :
    Calls Tryd.prog 12 #[.slice ao n cap] w (DecC bs w) := by
  subst hn
  have hl := h.len
  have hu := h.bd
  have hE := ownE_new w
  have f0 := Fr.alloc w (.cells #[] 38)
  by_cases h3 : bs.length < 3
  · have HD : Hid (decL bs = ([], 1)) := decL_no (hd_no (.inl h3))
    go_enter Tryd.func12, Tryd.ntmps12
    go_wp2_with fail
    go_ret2
    exact DecC.mk HD.out hE f0
  · obtain ⟨b, off, rfl, hc⟩ := (h.fr f0).at_ 0 (by omega)
    have c0 := hc 0 (by omega)
    have c1 := hc 1 (by omega)
    have c2 := hc 2 (by omega)
    rw [getD_at (by omega)] at c0 c1 c2
    have g0 : bs[0]? = some bs[0] := List.getElem?_eq_getElem (by omega)
    have g1 : bs[1]? = some bs[1] := List.getElem?_eq_getElem (by omega)
    have g2 : bs[2]? = some bs[2] := List.getElem?_eq_getElem (by omega)
    obtain ⟨y0, hy0⟩ : ∃ y, y = bs[0] := ⟨_, rfl⟩
    obtain ⟨y1, hy1⟩ : ∃ y, y = bs[1] := ⟨_, rfl⟩
    obtain ⟨y2, hy2⟩ : ∃ y, y = bs[2] := ⟨_, rfl⟩
    rw [← hy0] at c0 g0
    rw [← hy1] at c1 g1
    rw [← hy2] at c2 g2
    rw [Nat.add_zero] at c0
    clear hy0 hy1 hy2 hc
    by_cases hd : y0 = 82 ∧ y1 = 50 ∧ y2 = 49
    · obtain ⟨rfl, rfl, rfl⟩ := hd
      have HS : Hid (DS3 bs [] 3) := DS3.start (hd_yes g0 g1 g2)
      clear g0 g1 g2
      go_enter Tryd.func12, Tryd.ntmps12
      go_wp2_with fail
      clear c0 c1 c2
      go_loopw [4, 5] (fun u i wr => ∃ (es : List Ev) (p : Nat), i = .int .i64 (p : Int) ∧ p ≤ bs.length ∧ OwnE wr w.heap.size u es ∧ Hid (DS3 bs es p) ∧ Fr w wr) (fun _ i _ => bs.length - (intOf i).toNat)
      case atStart => exact ⟨[], 3, rfl, by omega, hE, HS, f0⟩
      case round =>
        obtain ⟨es, p, rfl, hp, ho, HD, hf⟩ := hrel
        clear hE f0 HS
        have hs0 := hf.size
        have he3 := HD.out.2
        obtain ⟨ge, ce, rfl, hoe, hle⟩ := ho
        have ho : OwnE wr w.heap.size (.slice (some ⟨ge, 0, none⟩) es.length ce) es := ⟨ge, ce, rfl, hoe, hle⟩
        clear hoe
        by_cases hlt : p < bs.length
        · by_cases hm : es.length = 300
          · have HE : Hid (decL bs = (es, 4)) := HD.out.many hm hlt
            have hb : ((es.length : Int) == 300) = true := by simp; omega
            clear hm
            go_wp2_with fail
            go_ret2
            exact DecC.mk HE.out ho hf
          · have hb : ((es.length : Int) == 300) = false := by simp; omega
            have cL := l3Read_any (some ⟨b, off, none⟩) bs.length cap bs p wr rfl hp (h.fr hf)
            have HM : Hid (es.length ≠ 300) := hm
            clear hm
            go_wp2_with fail
            refine cL.mono ?_
            rintro x w2 ⟨f2, ⟨e, q, hr, rfl⟩ | ⟨c, y, hr, hcc, rfl⟩⟩
            · have HN : Hid (DS3 bs (es ++ [e]) q) := HD.out.step HM.out hlt hr
              have hq := rdEv_le hu hp hr
              clear hr cL HD
              have ho := ho.fr f2
              have hf := hf.trans f2
              have fe := Fr.alloc w2 (.cells #[.int .i64 e.k, .int .i64 e.g, .int .i64 e.o, .int .i64 e.w, .int .i64 e.l, .int .i64 e.s, .int .i64 e.f, .int .i64 e.t] 38)
              have hC := evC_new (w2.alloc (.cells #[.int .i64 e.k, .int .i64 e.g, .int .i64 e.o, .int .i64 e.w, .int .i64 e.l, .int .i64 e.s, .int .i64 e.f, .int .i64 e.t] 38)) e
              have hs2 := hf.size
              have es1 : (w2.alloc (.cells #[.int .i64 e.k, .int .i64 e.g, .int .i64 e.o, .int .i64 e.w, .int .i64 e.l, .int .i64 e.s, .int .i64 e.f, .int .i64 e.t] 38)).heap.size = w2.heap.size + 1 := by simp
              rw [es1] at hC
              have HC := (show Hid _ from hC)
              have HFE := (show Hid _ from fe.trans (Fr.alloc _ (.cells #[.int .i64 e.k, .int .i64 e.g, .int .i64 e.o, .int .i64 e.w, .int .i64 e.l, .int .i64 e.s, .int .i64 e.f, .int .i64 e.t] 38)))
              clear fe hC es1
              go_wp2_with (at_builtin; refine appE _ rfl _ _ rfl w.heap.size _ es e rfl (ho.fr HFE.out) (w2.heap.size + 1) 1 rfl HC.out (by omega) (by simp; omega) ?_; intro v6 w6 hv6 hg6 hat6)
              go_roundw
              case rel => exact ⟨es ++ [e], q, rfl, hq.2, hv6, HN, (hf.trans HFE.out).then hg6 ho.blk⟩
              case measure => simp [intOf]; omega
            · have HE : Hid (decL bs = (es, c)) := HD.out.err HM.out hlt hr
              clear hr cL HD
              rcases hcc with rfl | rfl
              · go_wp2_with fail
                go_ret2
                exact DecC.mk HE.out (ho.fr (f2.trans (Fr.alloc _ _))) (hf.trans (f2.trans (Fr.alloc _ _)))
              · go_wp2_with fail
                go_ret2
                exact DecC.mk HE.out (ho.fr (f2.trans (Fr.alloc _ _))) (hf.trans (f2.trans (Fr.alloc _ _)))
        · have HE : Hid (decL bs = (es, 0)) := HD.out.fin hlt
          go_wp2_with fail
          go_ret2
          exact DecC.mk HE.out ho hf
    · have HD : Hid (decL bs = ([], 1)) := by
        refine decL_no (hd_no (.inr ?_))
        rw [g0, g1, g2]
        simp only [ne_eq, Option.some.injEq]
        omega
      clear g0 g1 g2
      by_cases d0 : y0 = 82
      · subst d0
        by_cases d1 : y1 = 50
        · subst d1
          have b2 : (y2 != 49) = true := by simp; intro q; exact hd ⟨rfl, rfl, q⟩
          clear hd
          go_enter Tryd.func12, Tryd.ntmps12
          go_wp2_with fail
          go_ret2
          exact DecC.mk HD.out hE f0
        · have b1 : (y1 != 50) = true := by simpa using d1
          clear hd d1
          go_enter Tryd.func12, Tryd.ntmps12
          go_wp2_with fail
          go_ret2
          exact DecC.mk HD.out hE f0
      · have b0 : (y0 != 82) = true := by simpa using d0
        clear hd d0
        go_enter Tryd.func12, Tryd.ntmps12
        go_wp2_with fail
        go_ret2
        exact DecC.mk HD.out hE f0
end Go.Proofs.YthjnhfcncinhiaaDoor
