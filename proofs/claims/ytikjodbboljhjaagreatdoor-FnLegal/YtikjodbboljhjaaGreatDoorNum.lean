/-
  Numbers as bytes: what is put of a number, what is read at a place, and that the two are one.
-/
import Derived.Test.YtikjodbboljhjaaGreatDoorBytes
namespace Go.Proofs.YtikjodbboljhjaaGreatDoor
open Go.RowKit

/-- The bytes of a number from 0 to 128 ^ (f + 1) - 1. -/
def putF : Nat → Int → List Int
  | 0, n => [n]
  | f + 1, n => if n < 128 then [n] else (n % 128 + 128) :: putF f (n / 128)

/-- The number at the place p: s where it began, u the worth of the next byte, acc what was read. -/
def rdG (bs : List Int) (s : Nat) : Nat → Nat → Int → Int → Option (Int × Nat)
  | 0, _, _, _ => none
  | f + 1, p, u, acc => match bs[p]? with
    | none => none
    | some b => if 128 ≤ b then rdG bs s f (p + 1) (u * 128) (acc + (b - 128) * u) else if b = 0 ∧ s < p then none else some (acc + b * u, p + 1)

def putL (n : Int) : List Int := putF 5 n
def rdN (bs : List Int) (p : Nat) : Option (Int × Nat) := rdG bs p 6 p 1 0

theorem putF_small {f : Nat} {n : Int} (h : n < 128) : putF f n = [n] := by
  cases f with
  | zero => rfl
  | succ f => rw [putF, if_pos h]
theorem putF_big {f : Nat} {n : Int} (h : ¬ n < 128) : putF (f + 1) n = (n % 128 + 128) :: putF f (n / 128) := by rw [putF, if_neg h]
theorem putF_ne (f : Nat) (n : Int) : putF f n ≠ [] := by
  cases f with
  | zero => simp [putF]
  | succ f => by_cases h : n < 128 <;> simp [putF, h]
theorem putF_len (f : Nat) (n : Int) : 1 ≤ (putF f n).length ∧ (putF f n).length ≤ f + 1 := by
  induction f generalizing n with
  | zero => simp [putF]
  | succ f ih =>
    by_cases h : n < 128
    · rw [putF_small h]; simp
    · rw [putF_big h]; have := ih (n / 128); simp; omega
theorem putF_u8 (f : Nat) (n : Int) (h0 : 0 ≤ n) (h1 : n < 128 ^ (f + 1)) : ∀ x ∈ putF f n, U8 x := by
  induction f generalizing n with
  | zero => intro x hx; simp [putF] at hx; subst hx; exact ⟨by omega, by omega⟩
  | succ f ih =>
    by_cases h : n < 128
    · rw [putF_small h]; intro x hx; simp at hx; subst hx; exact ⟨by omega, by omega⟩
    · rw [putF_big h]
      intro x hx
      rcases List.mem_cons.1 hx with rfl | hx
      · exact ⟨by omega, by omega⟩
      · refine ih (n / 128) (by omega) ?_ x hx
        rw [Int.pow_succ] at h1
        omega

theorem getElem?_drop0 {bs : List Int} {p : Nat} {x : Int} {l : List Int} (h : bs.drop p = x :: l) : bs[p]? = some x ∧ bs.drop (p + 1) = l := by
  have h0 := congrArg (fun l => l[0]?) h
  simp at h0
  refine ⟨h0, ?_⟩
  have := congrArg (List.drop 1) h
  simpa using this

theorem rd_put (bs : List Int) (s : Nat) (rest : List Int) (f : Nat) (n u acc : Int) (p : Nat) (h0 : 0 ≤ n) (h1 : n < 128 ^ (f + 1)) (hb : bs.drop p = putF f n ++ rest) (hs : s < p → 0 < n) :
    rdG bs s (f + 1) p u acc = some (acc + n * u, p + (putF f n).length) := by
  have small : n < 128 → rdG bs s (f + 1) p u acc = some (acc + n * u, p + (putF f n).length) := by
    intro h
    rw [putF_small h] at hb ⊢
    obtain ⟨e, -⟩ := getElem?_drop0 hb
    simp only [rdG, e]
    rw [if_neg (by omega), if_neg (by omega)]
    rfl
  induction f generalizing n u acc p with
  | zero => exact small (by simpa using h1)
  | succ f ih =>
    by_cases h : n < 128
    · exact small h
    · rw [putF_big h] at hb ⊢
      obtain ⟨e, e2⟩ := getElem?_drop0 (l := putF f (n / 128) ++ rest) hb
      have h2 : n / 128 < 128 ^ (f + 1) := by rw [Int.pow_succ] at h1; omega
      have step := ih (n / 128) (u * 128) (acc + (n % 128 + 128 - 128) * u) (p + 1) (by omega) h2 e2 (by omega) (by
        intro h
        rw [putF_small h] at e2 ⊢
        obtain ⟨e, -⟩ := getElem?_drop0 e2
        simp only [rdG, e]
        rw [if_neg (by omega), if_neg (by omega)]
        rfl)
      rw [rdG, e]
      simp only []
      rw [if_pos (by omega), step]
      have e3 : acc + (n % 128 + 128 - 128) * u + n / 128 * (u * 128) = acc + n * u := by
        have hn : n = n % 128 + 128 * (n / 128) := by omega
        have : n % 128 + 128 - 128 = n % 128 := by omega
        rw [this]
        conv => rhs; rw [hn]
        rw [Int.add_mul, Int.mul_comm u 128, ← Int.mul_assoc, Int.mul_comm (n / 128) 128, Int.add_assoc]
      rw [e3]
      simp
      omega

theorem rd_cut (bs : List Int) (s : Nat) (f : Nat) (n u acc : Int) (p : Nat) (h0 : 0 ≤ n) (hb : bs.drop p = (putF f n).dropLast) : rdG bs s (f + 1) p u acc = none := by
  induction f generalizing n u acc p with
  | zero =>
    simp [putF] at hb
    simp only [rdG]
    rw [List.getElem?_eq_none (by omega)]
  | succ f ih =>
    by_cases h : n < 128
    · rw [putF_small h] at hb
      simp at hb
      rw [rdG, List.getElem?_eq_none (by omega)]
    · rw [putF_big h, List.dropLast_cons_of_ne_nil (putF_ne _ _)] at hb
      obtain ⟨e, e2⟩ := getElem?_drop0 hb
      rw [rdG, e]
      simp only []
      rw [if_pos (by omega)]
      exact ih (n / 128) _ _ (p + 1) (by omega) e2

theorem put_rd (bs : List Int) (s : Nat) (hu : ∀ x ∈ bs, U8 x) (f : Nat) (u acc : Int) (p : Nat) (m : Int) (q : Nat) (hsp : s ≤ p) (h : rdG bs s (f + 1) p u acc = some (m, q)) :
    ∃ n, 0 ≤ n ∧ n < 128 ^ (f + 1) ∧ m = acc + n * u ∧ q = p + (putF f n).length ∧ bs.drop p = putF f n ++ bs.drop q ∧ (s < p → 0 < n) := by
  induction f generalizing u acc p with
  | zero =>
    rw [rdG] at h
    cases e : bs[p]? with
    | none => rw [e] at h; cases h
    | some b =>
      have hb := hu b (List.mem_of_getElem? e)
      have hl := (List.getElem?_eq_some_iff.1 e)
      obtain ⟨hl, hv⟩ := hl
      rw [e] at h
      simp only at h
      by_cases h1 : 128 ≤ b
      · rw [if_pos h1, rdG] at h; cases h
      · rw [if_neg h1] at h
        by_cases h2 : b = 0 ∧ s < p
        · rw [if_pos h2] at h; cases h
        · rw [if_neg h2] at h
          simp only [Option.some.injEq, Prod.mk.injEq] at h
          refine ⟨b, hb.1, by simpa using (by omega : b < 128), h.1.symm, by simp [putF]; omega, ?_, fun hs => ?_⟩
          · rw [List.drop_eq_getElem_cons hl, hv, ← h.2]; rfl
          · have : b ≠ 0 := fun h0 => h2 ⟨h0, hs⟩
            have := hb.1
            omega
  | succ f ih =>
    rw [rdG] at h
    cases e : bs[p]? with
    | none => rw [e] at h; cases h
    | some b =>
      have hb := hu b (List.mem_of_getElem? e)
      obtain ⟨hl, hv⟩ := List.getElem?_eq_some_iff.1 e
      obtain ⟨hb0, hb1⟩ := hb
      rw [e] at h
      simp only at h
      by_cases h1 : 128 ≤ b
      · rw [if_pos h1] at h
        obtain ⟨n, n0, n1, hm, hq, hd, hs⟩ := ih _ _ _ (by omega) h
        have hn : 0 < n := hs (by omega)
        refine ⟨128 * n + (b - 128), by omega, ?_, ?_, ?_, ?_, fun _ => by omega⟩
        · rw [Int.pow_succ]; omega
        · rw [hm, Int.add_mul, Int.mul_comm u 128, ← Int.mul_assoc, Int.mul_comm n 128]; omega
        · rw [putF_big (by omega), hq]
          have : (128 * n + (b - 128)) / 128 = n := by omega
          rw [this]; simp; omega
        · rw [putF_big (by omega)]
          have e1 : (128 * n + (b - 128)) / 128 = n := by omega
          have e2 : (128 * n + (b - 128)) % 128 + 128 = b := by omega
          rw [e1, e2, List.drop_eq_getElem_cons hl, hv, hd]
          rfl
      · rw [if_neg h1] at h
        by_cases h2 : b = 0 ∧ s < p
        · rw [if_pos h2] at h; cases h
        · rw [if_neg h2] at h
          simp only [Option.some.injEq, Prod.mk.injEq] at h
          refine ⟨b, hb0, ?_, h.1.symm, by rw [putF_small (by omega)]; simp; omega, ?_, fun hs => ?_⟩
          · have := Int.pow_pos (n := 128) (m := f + 1) (by omega)
            rw [Int.pow_succ]; omega
          · rw [putF_small (by omega), List.drop_eq_getElem_cons hl, hv, ← h.2]; rfl
          · have : b ≠ 0 := fun h0 => h2 ⟨h0, hs⟩
            omega
end Go.Proofs.YtikjodbboljhjaaGreatDoor
