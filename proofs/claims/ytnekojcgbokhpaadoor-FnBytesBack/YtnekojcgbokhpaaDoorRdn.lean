/-
  The program's reader: number.
-/
import Derived.Test.YtnekojcgbokhpaaDoorRdr
namespace Go.Proofs.YtnekojcgbokhpaaDoor
open Go.RowKit

/-- What number answers: the number and nil, the reader at its end; or 0 and a fault at the place where it began. -/
def NumC (bs : List Int) (i : Int) (r : Nat) (v : Value) (y : Addr) (w : World) (e : Ending) (w' : World) : Prop :=
  w.grownBy w' (some r) ∧
  ((∃ m q, rdV bs i = (m, q, true) ∧ e = .returned (.tuple #[.int .i64 m, .nilIface]) ∧ Rdr w' r v q) ∨
   (rdV bs i = (0, i, false) ∧ ∃ b j, e = .returned (.tuple #[.int .i64 0, .iface 113 (.pointer (some ⟨b, 0, none⟩))]) ∧ Flt w' b i (.iface 195 (.pointer (some y))) ∧ w.heap.size ≤ b ∧ Rdr w' r v j))

theorem RS.unit2 {bs : List Int} {s f p : Nat} {u acc : Int} (h : RS bs s (f + 1) p u acc) : u = 2 ^ ((5 - f) * 7) := by
  rw [h.unit, Nat.mul_comm, Int.pow_mul]
  congr 1
  omega

theorem or_nat (a x k : Nat) (ha : a < 2 ^ k) (hx : x ≤ 127) (hk : k ≤ 35) : bits .or .i64 (a : Int) ((x * 2 ^ k : Nat) : Int) = ((a + x * 2 ^ k : Nat) : Int) := by
  have h2 : 2 ^ k ≤ 2 ^ 35 := Nat.pow_le_pow_right (by omega) hk
  have h3 : x * 2 ^ k ≤ 127 * 2 ^ 35 := Nat.mul_le_mul hx h2
  have e1 : (BitVec.ofInt 64 (a : Int)).toNat = a := by rw [BitVec.toNat_ofInt]; omega
  have e2 : (BitVec.ofInt 64 ((x * 2 ^ k : Nat) : Int)).toNat = x * 2 ^ k := by rw [BitVec.toNat_ofInt]; omega
  have key : (BitVec.ofInt 64 (a : Int) ||| BitVec.ofInt 64 ((x * 2 ^ k : Nat) : Int)).toNat = a + x * 2 ^ k := by
    rw [BitVec.toNat_or, e1, e2, Nat.or_comm, ← Nat.shiftLeft_eq, ← Nat.shiftLeft_add_eq_or_of_lt ha, Nat.add_comm]
  show IntKind.i64.wrap ((BitVec.ofInt 64 (a : Int) ||| BitVec.ofInt 64 ((x * 2 ^ k : Nat) : Int)).toNat : Nat) = _
  rw [key, IntKind.wrap_i64]
  omega
theorem or_step {A U x : Int} {f : Nat} (h0 : 0 ≤ A) (h1 : A < U) (hU : U = 2 ^ ((5 - f) * 7)) (x0 : 0 ≤ x) (x1 : x ≤ 127) : bits .or .i64 A (wrap64 (x * 2 ^ ((5 - f) * 7))) = A + x * U := by
  obtain ⟨a, rfl⟩ : ∃ a : Nat, A = (a : Int) := ⟨A.toNat, by omega⟩
  obtain ⟨y, rfl⟩ : ∃ y : Nat, x = (y : Int) := ⟨x.toNat, by omega⟩
  have hk : (5 - f) * 7 ≤ 35 := by omega
  generalize (5 - f) * 7 = k at hU hk
  have eU : U = ((2 ^ k : Nat) : Int) := by rw [hU]; simp
  have e : (y : Int) * 2 ^ k = ((y * 2 ^ k : Nat) : Int) := by simp
  have h2 : 2 ^ k ≤ 2 ^ 35 := Nat.pow_le_pow_right (by omega) hk
  have h3 : y * 2 ^ k ≤ 127 * 2 ^ 35 := Nat.mul_le_mul (by omega) h2
  have ew : wrap64 ((y * 2 ^ k : Nat) : Int) = ((y * 2 ^ k : Nat) : Int) := by unfold wrap64; omega
  rw [e, ew, or_nat a y k (by omega) (by omega) hk, hU]
  simp

set_option maxHeartbeats 1000000 in
theorem number_any (r : Nat) (ao : Option Addr) (n cap : Nat) (bs : List Int) (i : Int) (y : Addr) (w : World) (hn : bs.length = n) (hi : I64 i) (h : ReadsB w ao bs) (hb : blk ao ≠ some r)
    (hr : Rdr w r (.slice ao n cap) i) (hy : w.cell? ⟨3, 0, none⟩ = some (.iface 195 (.pointer (some y)))) (hyr : r ≠ 3) :
    Calls Tryd.prog 118 #[.pointer (some ⟨r, 0, none⟩)] w (NumC bs i r (.slice ao n cap) y w) := by
  subst hn
  have hl := h.len
  have c1 := hr.c1
  by_cases hio : i < 0 ∨ (bs.length : Int) ≤ i
  · have HE : Hid (rdV bs i = (0, i, false)) := rdV_out hio
    have cm := more_any r ao bs.length cap i w hr
    rw [inB_not (by omega)] at cm
    clear hio
    go_enter Tryd.func118, Tryd.ntmps118
    go_wp2_with fail
    refine wp_loop_rounds 1 ?_
    rw [rounds_succ]
    go_wp2_with fail
    refine (cm).mono ?_
    rintro e w1 ⟨rfl, nq, rfl⟩
    have c2 : (w.drewN nq).cell? ⟨3, 0, none⟩ = some (.iface 195 (.pointer (some y))) := hy
    go_wp2_with fail
    go_region
    all_goals (try go_wp2)
    all_goals (
      go_ret2
      have f : Fr w ((w.drewN (nq + 1)).alloc (.cells #[.int .i64 i, .iface 195 (.pointer (some y))] 115)) := (Fr.drewN _ _).trans (Fr.alloc _ _)
      exact ⟨f.row _, .inr ⟨HE.out, w.heap.size, i, rfl, Flt.new (w.drewN (nq + 1)) _ _, Nat.le_refl _, hr.fr f⟩⟩)
  · obtain ⟨s, rfl⟩ : ∃ s : Nat, i = (s : Int) := ⟨i.toNat, by omega⟩
    have hsl : s < bs.length := by omega
    clear hio
    go_enter Tryd.func118, Tryd.ntmps118
    go_wp2_with fail
    go_loopw [5, 6] (fun a k wr => ∃ (f p : Nat) (U A : Int), a = .int .i64 A ∧ k = .int .i64 (6 - (f : Int)) ∧ f ≤ 6 ∧ s ≤ p ∧ p ≤ bs.length ∧ Hid (RS bs s f p U A) ∧ Rdr wr r (.slice ao bs.length cap) (p : Int) ∧ w.grownBy wr (some r)) (fun _ k _ => 6 - (intOf k).toNat)
    case atStart => exact ⟨6, s, 1, 0, rfl, rfl, by omega, Nat.le_refl _, by omega, RS.start bs s, hr, (Fr.refl w).row _⟩
    case round =>
      obtain ⟨f, p, U, A, rfl, rfl, hf6, hsp, hpl, HR, hrp, hg⟩ := hrel
      have hfp := HR.out.fp
      have hu := HR.out.unit_in
      have ha0 := HR.out.acc0
      have ha1 := HR.out.acc1
      have cm := more_any r ao bs.length cap p wr hrp
      have hyw := hg.cell hy (by simpa using Ne.symm hyr)
      have hrd := h.keep hg (.inr hb)
      by_cases hf : f = 0
      · subst hf
        have HE : Hid (rdV bs s = (0, (s : Int), false)) := rdV_none (HR.out.stop (.inl rfl))
        clear HR cm c1 hr
        go_wp2_with fail
        go_region
        all_goals (try go_wp2)
        all_goals (
          go_ret2
          have k : w.grownBy ((wr.drewN 1).alloc (.cells #[.int .i64 s, .iface 195 (.pointer (some y))] 115)) (some r) := grown_trans' hg (((Fr.drewN _ _).trans (Fr.alloc _ _)).row _)
          exact ⟨k, .inr ⟨HE.out, wr.heap.size, p, rfl, Flt.new (wr.drewN 1) _ _, hg.size, hrp.fr ((Fr.drewN _ _).trans (Fr.alloc _ _))⟩⟩)
      · obtain ⟨f', rfl⟩ : ∃ f', f = f' + 1 := ⟨f - 1, by omega⟩
        by_cases hlt : p < bs.length
        · rw [inB_mk (by omega) (by omega)] at cm
          obtain ⟨b, off, rfl, hc⟩ := hrd.at_ p hlt
          have hcp := hc p hlt
          rw [getD_at hlt] at hcp
          have hbp : bs[p]? = some bs[p] := List.getElem?_eq_getElem hlt
          have hby := hrd.bd _ (List.getElem_mem hlt)
          obtain ⟨z, hz⟩ : ∃ z, z = bs[p] := ⟨_, rfl⟩
          rw [← hz] at hcp hbp hby
          obtain ⟨z0, z1⟩ := hby
          have hu2 := hu.2.2 (by omega)
          have HU : Hid (U = 2 ^ ((5 - f') * 7)) := HR.out.unit2
          have r0 := hrp.c0
          have r1 := hrp.c1
          have rf := hrp.free 1
          have hset : ∀ k, Rdr ((wr.drewN k).setCell ⟨r, 1, none⟩ (.int .i64 ((p : Int) + 1))) r _ ((p : Int) + 1) := fun k => (hrp.fr (Fr.drewN wr k)).set ((p : Int) + 1)
          have hgs : ∀ k, w.grownBy ((wr.drewN k).setCell ⟨r, 1, none⟩ (.int .i64 ((p : Int) + 1))) (some r) := fun k => grown_trans' (grown_trans' hg ((Fr.drewN wr k).row _)) (grown_setCell _ r 1 _)
          have hy2 : ∀ k, ((wr.drewN k).setCell ⟨r, 1, none⟩ (.int .i64 ((p : Int) + 1))).cell? ⟨3, 0, none⟩ = some (.iface 195 (.pointer (some y))) := fun k => (hgs k).cell hy (by simpa using Ne.symm hyr)
          by_cases h128 : 128 ≤ z
          · have HM : Hid (RS bs s f' (p + 1) (U * 128) (A + (z - 128) * U)) := HR.out.more hbp h128 z1
            clear hc hz HR hbp hu c1 hr
            go_wp2_with fail
            refine (cm).mono ?_
            rintro e w1 ⟨rfl, nq, rfl⟩
            have c0 : (wr.drewN nq).cell? ⟨r, 0, none⟩ = _ := r0
            have c1 : (wr.drewN nq).cell? ⟨r, 1, none⟩ = _ := r1
            have c2 : (wr.drewN nq).cell? ⟨b, off + p, none⟩ = _ := hcp
            have c3 : (wr.drewN nq).frozen? ⟨r, 1, none⟩ = _ := rf
            go_wp2_with fail
            go_quiet (fail)
            rename_i nd
            go_wp2_with fail
            refine ⟨⟨f', p + 1, U * 128, A + (z - 128) * U, ?_, ?_, by omega, by omega, by omega, HM, ?_, ?_⟩, ?_⟩
            · rw [or_step ha0 ha1 HU.out (by omega) (by omega)]
            · congr 1; omega
            · exact hset _
            · exact hgs _
            · simp only [intOf]; omega
          · have HL := HR.out.last hbp (by omega)
            by_cases h0 : z = 0 ∧ s < p
            · rw [if_pos h0] at HL
              have HE : Hid (rdV bs s = (0, (s : Int), false)) := rdV_none HL
              obtain ⟨rfl, hsp'⟩ := h0
              clear hc hz HR hbp hu c1 hr HL
              go_wp2_with fail
              refine (cm).mono ?_
              rintro e w1 ⟨rfl, nqa, rfl⟩
              have c0 : (wr.drewN nqa).cell? ⟨r, 0, none⟩ = _ := r0
              have c1 : (wr.drewN nqa).cell? ⟨r, 1, none⟩ = _ := r1
              have c2 : (wr.drewN nqa).cell? ⟨b, off + p, none⟩ = _ := hcp
              have c3 : (wr.drewN nqa).frozen? ⟨r, 1, none⟩ = _ := rf
              go_wp2_with fail
              go_quiet (fail)
              obtain ⟨nqb, rfl⟩ : ∃ nqb, nqb = nq := ⟨_, rfl⟩
              go_wp2_with fail
              go_region
              all_goals (try go_wp2)
              all_goals (
                go_ret2
                have es : ((wr.drewN (nqa + nqb)).setCell ⟨r, 1, none⟩ (.int .i64 ((p : Int) + 1))).heap.size = wr.heap.size := by simp
                have hF := Flt.new ((wr.drewN (nqa + nqb)).setCell ⟨r, 1, none⟩ (.int .i64 ((p : Int) + 1))) (.iface 195 (.pointer (some y))) s
                rw [es] at hF
                have k2 := (Fr.alloc ((wr.drewN (nqa + nqb)).setCell ⟨r, 1, none⟩ (.int .i64 ((p : Int) + 1))) (.cells #[.int .i64 s, .iface 195 (.pointer (some y))] 115)).trans (Fr.drew _)
                exact ⟨grown_trans' (hgs _) (k2.row _), .inr ⟨HE.out, wr.heap.size, _, rfl, hF, hg.size, (hset _).fr k2⟩⟩)
            · rw [if_neg h0] at HL
              have HE : Hid (rdV bs s = (A + z * U, (p : Int) + 1, true)) := by
                show _ = _
                rw [rdV_some HL]
                rfl
              by_cases hz0 : z = 0
              · have hsp' : s = p := by omega
                have hf5 : f' = 5 := by omega
                have HX : Hid (bits .or .i64 A (wrap64 (z * 2 ^ ((5 - f') * 7))) = A + z * U) := or_step ha0 ha1 HU.out (by omega) (by omega)
                subst hz0 hsp' hf5
                clear hc hz HR hbp hu c1 hr HL h0
                go_wp2_with fail
                refine (cm).mono ?_
                rintro e w1 ⟨rfl, nq, rfl⟩
                have c0 : (wr.drewN nq).cell? ⟨r, 0, none⟩ = _ := r0
                have c1 : (wr.drewN nq).cell? ⟨r, 1, none⟩ = _ := r1
                have c2 : (wr.drewN nq).cell? ⟨b, off + s, none⟩ = _ := hcp
                have c3 : (wr.drewN nq).frozen? ⟨r, 1, none⟩ = _ := rf
                go_wp2_with fail
                go_quiet (fail)
                go_wp2_with fail
                go_ret2
                have HX : bits .or .i64 A 0 = A := by
                  have := HX.out
                  simpa [wrap64] using this
                have HE : rdV bs s = (A, (s : Int) + 1, true) := by
                  have := HE.out
                  simpa using this
                refine ⟨hgs _, .inl ⟨A, (s : Int) + 1, HE, ?_, hset _⟩⟩
                conv => rhs; rw [← HX]
                rfl
              · have HX : Hid (bits .or .i64 A (wrap64 (z * 2 ^ ((5 - f') * 7))) = A + z * U) := or_step ha0 ha1 HU.out (by omega) (by omega)
                clear hc hz HR hbp hu c1 hr HL h0
                go_wp2_with fail
                refine (cm).mono ?_
                rintro e w1 ⟨rfl, nq, rfl⟩
                have c0 : (wr.drewN nq).cell? ⟨r, 0, none⟩ = _ := r0
                have c1 : (wr.drewN nq).cell? ⟨r, 1, none⟩ = _ := r1
                have c2 : (wr.drewN nq).cell? ⟨b, off + p, none⟩ = _ := hcp
                have c3 : (wr.drewN nq).frozen? ⟨r, 1, none⟩ = _ := rf
                go_wp2_with fail
                go_quiet (fail)
                go_wp2_with fail
                go_ret2
                refine ⟨hgs _, .inl ⟨A + z * U, (p : Int) + 1, HE.out, ?_, hset _⟩⟩
                rw [← HX.out]
                rfl
        · rw [inB_not (by omega)] at cm
          have HE : Hid (rdV bs s = (0, (s : Int), false)) := rdV_none (HR.out.stop (.inr (by omega)))
          clear HR c1 hr
          go_wp2_with fail
          refine (cm).mono ?_
          rintro e w1 ⟨rfl, nq, rfl⟩
          have c2 : (wr.drewN nq).cell? ⟨3, 0, none⟩ = some (.iface 195 (.pointer (some y))) := hyw
          go_wp2_with fail
          go_region
          all_goals (try go_wp2)
          all_goals (
            go_ret2
            have f : Fr wr ((wr.drewN (nq + 1)).alloc (.cells #[.int .i64 s, .iface 195 (.pointer (some y))] 115)) := (Fr.drewN _ _).trans (Fr.alloc _ _)
            exact ⟨grown_trans' hg (f.row _), .inr ⟨HE.out, wr.heap.size, p, rfl, Flt.new (wr.drewN (nq + 1)) _ _, hg.size, hrp.fr f⟩⟩)
end Go.Proofs.YtnekojcgbokhpaaDoor
