/-
  Reading a number: the specification's ReadNumber.
-/
import Derived.Test.YtnekojcgbokhpaaDoorDec
namespace Go.Proofs.YtnekojcgbokhpaaDoor
open Go.RowKit

/-- What ReadNumber answers. -/
def rdV (bs : List Int) (i : Int) : Int × Int × Bool :=
  if 0 ≤ i then (match rdN bs i.toNat with | some (n, q) => (n, (q : Int), true) | none => (0, i, false)) else (0, i, false)

theorem rdV_at (bs : List Int) (p : Nat) : rdV bs (p : Int) = (match rdN bs p with | some (n, q) => (n, (q : Int), true) | none => (0, (p : Int), false)) := by
  rw [rdV, if_pos (by omega)]
  rfl
theorem rdV_none {bs : List Int} {p : Nat} (h : rdN bs p = none) : rdV bs (p : Int) = (0, (p : Int), false) := by rw [rdV_at, h]
theorem rdV_some {bs : List Int} {p q : Nat} {n : Int} (h : rdN bs p = some (n, q)) : rdV bs (p : Int) = (n, (q : Int), true) := by rw [rdV_at, h]
theorem rdN_out {bs : List Int} {p : Nat} (h : bs.length ≤ p) : rdN bs p = none := by
  rw [rdN, rdG, List.getElem?_eq_none h]
theorem rdV_out {bs : List Int} {i : Int} (h : i < 0 ∨ (bs.length : Int) ≤ i) : rdV bs i = (0, i, false) := by
  rw [rdV]
  by_cases h0 : 0 ≤ i
  · rw [if_pos h0, rdN_out (by omega)]
  · rw [if_neg h0]

/-- The number was read up to the place p: f bytes may come. -/
structure RS (bs : List Int) (s f p : Nat) (u acc : Int) : Prop where
  sp : s ≤ p
  fp : p + f = s + 6
  same : rdG bs s f p u acc = rdN bs s
  unit : u = 128 ^ (6 - f)
  acc0 : 0 ≤ acc
  acc1 : acc < u

theorem RS.start (bs : List Int) (s : Nat) : RS bs s 6 s 1 0 := ⟨Nat.le_refl _, rfl, rfl, rfl, by omega, by omega⟩
theorem RS.unit_in {bs : List Int} {s f p : Nat} {u acc : Int} (h : RS bs s f p u acc) : 1 ≤ u ∧ u ≤ 4398046511104 ∧ (0 < f → u ≤ 34359738368) := by
  have hf : f ≤ 6 ∨ 6 < f := by omega
  rcases hf with hf | hf
  · rw [h.unit]
    rcases (by omega : f = 0 ∨ f = 1 ∨ f = 2 ∨ f = 3 ∨ f = 4 ∨ f = 5 ∨ f = 6) with rfl | rfl | rfl | rfl | rfl | rfl | rfl <;> decide
  · have : u = 1 := by rw [h.unit, Nat.sub_eq_zero_of_le (by omega)]; rfl
    omega
theorem RS.more {bs : List Int} {s f p : Nat} {u acc b : Int} (h : RS bs s (f + 1) p u acc) (hb : bs[p]? = some b) (h1 : 128 ≤ b) (h2 : b ≤ 255) : RS bs s f (p + 1) (u * 128) (acc + (b - 128) * u) := by
  have hu := h.unit_in
  have h3 : 0 ≤ (b - 128) * u := Int.mul_nonneg (by omega) (by omega)
  have h4 : (b - 128) * u ≤ 127 * u := Int.mul_le_mul_of_nonneg_right (by omega) (by omega)
  have := h.acc0
  have := h.acc1
  have h5 := h.fp
  have h6 := h.sp
  refine ⟨by omega, by omega, ?_, ?_, by omega, by omega⟩
  · rw [← h.same, rdG, hb]
    simp only []
    rw [if_pos h1]
  · rw [h.unit, ← Int.pow_succ]
    congr 1
    omega
theorem RS.last {bs : List Int} {s f p : Nat} {u acc b : Int} (h : RS bs s (f + 1) p u acc) (hb : bs[p]? = some b) (h1 : b < 128) : rdN bs s = if b = 0 ∧ s < p then none else some (acc + b * u, p + 1) := by
  rw [← h.same, rdG, hb]
  simp only []
  rw [if_neg (by omega)]
theorem RS.stop {bs : List Int} {s f p : Nat} {u acc : Int} (h : RS bs s f p u acc) (hb : f = 0 ∨ bs.length ≤ p) : rdN bs s = none := by
  rw [← h.same]
  cases f with
  | zero => rfl
  | succ f => rw [rdG, List.getElem?_eq_none (by omega)]

/-- ReadNumber's three results. -/
def rdT (x : Int × Int × Bool) : Value := .tuple #[.int .i64 x.1, .int .i64 x.2.1, .bool x.2.2]

set_option maxHeartbeats 1000000 in
theorem specRead_any (ao : Option Addr) (n cap : Nat) (bs : List Int) (i : Int) (w : World) (hn : bs.length = n) (hi : I64 i) (h : ReadsB w ao bs) :
    Calls Tryd.prog 73 #[.slice ao n cap, .int .i64 i] w fun e w' => e = .returned (rdT (rdV bs i)) ∧ w' = w := by
  subst hn
  have hl := h.len
  have c1 := fun w => l1In_any i 0 ((bs.length : Int) - 1) w
  cases hk : inB 0 ((bs.length : Int) - 1) i
  · have e := inB_false hk
    rw [rdV_out (by omega)]
    simp only [hk] at c1
    clear hk
    go_enter Tryd.func73, Tryd.ntmps73
    go_wp2_with fail
    refine (c1 _).mono ?_
    rintro e w1 ⟨rfl, rfl⟩
    go_wp2_with fail
    go_ret3
    exact ⟨rfl, rfl⟩
  · obtain ⟨i0, i1⟩ := inB_true hk
    simp only [hk] at c1
    clear hk
    obtain ⟨s, rfl⟩ : ∃ s : Nat, i = (s : Int) := ⟨i.toNat, by omega⟩
    go_enter Tryd.func73, Tryd.ntmps73
    go_wp2_with fail
    refine (c1 _).mono ?_
    rintro e w1 ⟨rfl, rfl⟩
    go_wp2_with fail
    go_loop [7, 8, 9] (fun a u j => ∃ (f p : Nat) (U A : Int), a = .int .i64 A ∧ u = .int .i64 U ∧ j = .int .i64 (p : Int) ∧ s ≤ p ∧ p ≤ bs.length ∧ Hid (RS bs s f p U A)) (fun _ _ j => bs.length - (intOf j).toNat)
    case atStart => exact ⟨6, s, 1, 0, rfl, rfl, rfl, Nat.le_refl _, by omega, RS.start bs s⟩
    case round =>
      obtain ⟨f, p, U, A, rfl, rfl, rfl, hsp, hpl, HR⟩ := hrel
      have hfp := HR.out.fp
      have hu := HR.out.unit_in
      have ha0 := HR.out.acc0
      have ha1 := HR.out.acc1
      by_cases hlt : p < bs.length
      · by_cases hf : f = 0
        · subst hf
          have e := HR.out.stop (.inl rfl)
          have HE : Hid (rdV bs s = (0, (s : Int), false)) := rdV_none e
          clear e HR
          go_wp2_with fail
          go_ret3
          rw [HE.out]
          exact ⟨rfl, rfl⟩
        · obtain ⟨f', rfl⟩ : ∃ f', f = f' + 1 := ⟨f - 1, by omega⟩
          obtain ⟨b, off, rfl, hc⟩ := h.at_ p hlt
          have hcp := hc p hlt
          rw [getD_at hlt] at hcp
          have hbp : bs[p]? = some bs[p] := List.getElem?_eq_getElem hlt
          have hby := h.bd _ (List.getElem_mem hlt)
          obtain ⟨y, hy⟩ : ∃ y, y = bs[p] := ⟨_, rfl⟩
          rw [← hy] at hcp hbp hby
          obtain ⟨y0, y1⟩ := hby
          have hu2 := hu.2.2 (by omega)
          have m1 : 0 ≤ (y % 128) * U := Int.mul_nonneg (by omega) (by omega)
          have m2 : (y % 128) * U ≤ 127 * U := Int.mul_le_mul_of_nonneg_right (by omega) (by omega)
          by_cases h128 : 128 ≤ y
          · have HM := HR.out.more hbp h128 y1
            have e1 : y - 128 = y % 128 := by omega
            rw [e1] at HM
            have HM : Hid (RS bs s f' (p + 1) (U * 128) (A + (y % 128) * U)) := HM
            clear hc hy HR hbp e1 hu
            go_wp2_with fail
            refine ⟨⟨f', p + 1, U * 128, A + y % 128 * U, rfl, rfl, by simp, by omega, by omega, HM⟩, ?_⟩
            simp only [intOf]
            omega
          · have HL := HR.out.last hbp (by omega)
            have e1 : y % 128 = y := by omega
            rw [e1] at m1 m2
            by_cases h0 : y = 0 ∧ s < p
            · rw [if_pos h0] at HL
              have HE : Hid (rdV bs s = (0, (s : Int), false)) := rdV_none HL
              obtain ⟨rfl, hsp'⟩ := h0
              clear hc hy HR hbp HL hu e1
              go_wp2_with fail
              go_ret3
              rw [HE.out]
              exact ⟨rfl, rfl⟩
            · rw [if_neg h0] at HL
              have HE : Hid (rdV bs s = (A + y * U, ((p + 1 : Nat) : Int), true)) := rdV_some HL
              by_cases hy0 : y = 0
              · have hsp' : s = p := by omega
                subst hy0 hsp'
                have HE : Hid (rdV bs s = (A, (s : Int) + 1, true)) := by
                  have := HE.out
                  show _ = _
                  simpa using this
                clear hc hy HR hbp HL hu e1 h0
                go_wp2_with fail
                go_ret3
                rw [HE.out]
                exact ⟨rfl, rfl⟩
              · clear hc hy HR hbp HL hu h0
                go_wp2_with fail
                go_ret3
                rw [HE.out]
                exact ⟨rfl, rfl⟩
      · have e := HR.out.stop (.inr (by omega))
        have HE : Hid (rdV bs s = (0, (s : Int), false)) := rdV_none e
        clear e HR
        go_wp2_with fail
        go_ret3
        rw [HE.out]
        exact ⟨rfl, rfl⟩
end Go.Proofs.YtnekojcgbokhpaaDoor
