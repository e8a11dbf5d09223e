/-
  Pack AP: Bit, Pset.
-/
import Derived.Laws.Bits64b
import Derived.Lib.TrailingZeros
import Derived.Test.YtcofhmikdkkigaaGreatDoorPrAD
import Derived.Test.YtcofhmikdkkigaaGreatDoorPrAA
import Derived.Test.YtcofhmikdkkigaaGreatDoorPrAE
import Derived.Shelf.Spec.TrailingZeros
import Derived.BigRegion
import Derived.Laws.Bits128
namespace Go.Proofs.YtcofhmikdkkigaaGreatDoor

def wd (N k : Nat) : Nat := N / 2 ^ (64 * k) % 18446744073709551616
theorem wd_lt (N k : Nat) : wd N k < 18446744073709551616 := Nat.mod_lt _ (by omega)
theorem wd_bit (N k b : Nat) : (wd N k).testBit b = (decide (b < 64) && N.testBit (64 * k + b)) := by
  rw [wd, show (18446744073709551616 : Nat) = 2 ^ 64 from rfl, Nat.testBit_mod_two_pow, Nat.testBit_div_two_pow, Nat.add_comm]
theorem wd_or (N M k : Nat) : wd (N ||| M) k = wd N k ||| wd M k := by
  apply Nat.eq_of_testBit_eq
  intro i
  rw [Nat.testBit_or, wd_bit, wd_bit, wd_bit, Nat.testBit_or]
  cases decide (i < 64) <;> simp
theorem wd_zero (k : Nat) : wd 0 k = 0 := by simp [wd]
theorem wd_one (i : Nat) : wd (2 ^ i) (i / 64) = 2 ^ (i % 64) := by
  apply Nat.eq_of_testBit_eq
  intro b
  rw [wd_bit, Nat.testBit_two_pow, Nat.testBit_two_pow]
  have := Nat.mod_lt i (show 0 < 64 by omega)
  by_cases h : i % 64 = b
  · have h1 : b < 64 := by omega
    have h2 : i = 64 * (i / 64) + b := by omega
    simp only [h, h1, decide_true, Bool.true_and, decide_eq_true_eq]
    simpa using h2
  · have h2 : ¬ (b < 64 ∧ i = 64 * (i / 64) + b) := by omega
    rw [decide_eq_false h]
    by_cases h1 : b < 64
    · have : ¬ i = 64 * (i / 64) + b := fun q => h2 ⟨h1, q⟩
      rw [decide_eq_false this]
      simp
    · rw [decide_eq_false h1]
      rfl
theorem wd_other (i k : Nat) (h : k ≠ i / 64) : wd (2 ^ i) k = 0 := by
  apply Nat.eq_of_testBit_eq
  intro b
  rw [wd_bit, Nat.testBit_two_pow, Nat.zero_testBit]
  by_cases h1 : b < 64
  · have : ¬ i = 64 * k + b := by omega
    rw [decide_eq_false this, Bool.and_false]
  · rw [decide_eq_false h1, Bool.false_and]
theorem wd_has (N i : Nat) : (wd N (i / 64) / 2 ^ (i % 64)) &&& 1 = if N.testBit i = true then 1 else 0 := by
  have h1 : N.testBit i = (wd N (i / 64)).testBit (i % 64) := by
    rw [wd_bit, decide_eq_true (Nat.mod_lt i (by omega)), Bool.true_and, show 64 * (i / 64) + i % 64 = i by omega]
  rw [h1, Nat.and_one_is_mod, Nat.testBit_eq_decide_div_mod_eq]
  by_cases q : wd N (i / 64) / 2 ^ (i % 64) % 2 = 1
  · simp [q]
  · have : wd N (i / 64) / 2 ^ (i % 64) % 2 = 0 := by omega
    simp [this]

def bitsL (n x : Nat) : List Nat := (List.range n).filter fun i => x.testBit i
theorem bitsL_add (n k x : Nat) : bitsL (n + k) x = bitsL n x ++ (bitsL k (x / 2 ^ n)).map (n + ·) := by
  unfold bitsL
  rw [List.range_add, List.filter_append, List.filter_map]
  congr 2
  apply List.filter_congr
  intro i _
  simp [Nat.testBit_div_two_pow, Nat.add_comm]
theorem bitsL_wd (k N : Nat) : bitsL (64 * (k + 1)) N = bitsL (64 * k) N ++ (bitsL 64 (wd N k)).map (64 * k + ·) := by
  rw [show 64 * (k + 1) = 64 * k + 64 by omega, bitsL_add]
  congr 2
  unfold bitsL
  apply List.filter_congr
  intro i hi
  rw [wd_bit, decide_eq_true (List.mem_range.1 hi), Bool.true_and, Nat.testBit_div_two_pow, Nat.add_comm]
theorem bitsL_zero (n : Nat) : bitsL n 0 = [] := by simp [bitsL]
theorem bitsL_mem (n x i : Nat) : i ∈ bitsL n x ↔ i < n ∧ x.testBit i = true := by simp [bitsL]
theorem bitsL_low {n m x : Nat} (h : n ≤ m) (hx : ∀ i, n ≤ i → x.testBit i = false) : bitsL m x = bitsL n x := by
  obtain ⟨k, rfl⟩ : ∃ k, m = n + k := ⟨m - n, by omega⟩
  rw [bitsL_add]
  have : bitsL k (x / 2 ^ n) = [] := by
    unfold bitsL
    rw [List.filter_eq_nil_iff]
    intro i _
    rw [Nat.testBit_div_two_pow, hx _ (by omega)]
    simp
  rw [this]
  simp
theorem bits_low (x : Nat) (h0 : x ≠ 0) (hx : x < 18446744073709551616) : bitsL 64 x = Lib.ctz 64 x :: bitsL 64 (x &&& (x - 1)) ∧ Lib.ctz 64 x < 64 ∧ x &&& (x - 1) < x := by
  obtain ⟨m, hm, hlt⟩ := Lib.ctzFrom_spec 64 x (by omega) hx
  have hc : Lib.ctz 64 x = Lib.ctzFrom 64 x := by simp [Lib.ctz, h0]
  rw [hc]
  obtain ⟨c, hcc⟩ : ∃ c, c = Lib.ctzFrom 64 x := ⟨_, rfl⟩
  rw [← hcc] at hm hlt ⊢
  clear hcc hc
  have e1 : x = 2 ^ c * (2 * m + 1) + 0 := by omega
  have hp : 0 < 2 ^ c := Nat.pos_of_ne_zero (by simp)
  have e2 : x - 1 = 2 ^ c * (2 * m) + (2 ^ c - 1) := by
    rw [hm, Nat.mul_add]
    omega
  have b1 : ∀ i, x.testBit i = if i < c then false else (2 * m + 1).testBit (i - c) := by
    intro i
    have := Nat.testBit_two_pow_mul_add (2 * m + 1) (b := 0) (i := c) hp i
    rw [← e1] at this
    rw [this]
    simp
  have b2 : ∀ i, (x - 1).testBit i = if i < c then true else (2 * m).testBit (i - c) := by
    intro i
    have := Nat.testBit_two_pow_mul_add (2 * m) (b := 2 ^ c - 1) (i := c) (by omega) i
    rw [← e2] at this
    rw [this]
    split
    · rename_i q
      rw [Nat.testBit_two_pow_sub_one]
      simpa using q
    · rfl
  have b3 : ∀ i, (x &&& (x - 1)).testBit i = if i ≤ c then false else x.testBit i := by
    intro i
    rw [Nat.testBit_and, b1, b2]
    by_cases q : i < c
    · simp [q, Nat.le_of_lt q]
    · simp only [if_neg q]
      by_cases q2 : i = c
      · subst q2
        simp
      · rw [if_neg (by omega)]
        obtain ⟨d, hd⟩ : ∃ d, i - c = d + 1 := ⟨i - c - 1, by omega⟩
        rw [hd, Nat.testBit_succ, Nat.testBit_succ, show (2 * m + 1) / 2 = m by omega, show 2 * m / 2 = m by omega, Bool.and_self]
  refine ⟨?_, hlt, ?_⟩
  · obtain ⟨k, hk⟩ : ∃ k, 64 = (c + 1) + k := ⟨64 - (c + 1), by omega⟩
    have s1 : bitsL (c + 1) x = [c] := by
      unfold bitsL
      rw [List.range_succ, List.filter_append]
      have : (List.range c).filter (fun i => x.testBit i) = [] := by
        rw [List.filter_eq_nil_iff]
        intro i hi
        rw [b1, if_pos (List.mem_range.1 hi)]
        simp
      rw [this]
      have h2 : x.testBit c = true := by rw [b1, if_neg (by omega), Nat.sub_self, Nat.testBit_zero]; simp
      simp [h2]
    have s2 : bitsL (c + 1) (x &&& (x - 1)) = [] := by
      unfold bitsL
      rw [List.filter_eq_nil_iff]
      intro i hi
      rw [b3, if_pos (by have := List.mem_range.1 hi; omega)]
      simp
    rw [hk, bitsL_add (c + 1) k x, bitsL_add (c + 1) k (x &&& (x - 1)), s1, s2]
    simp only [List.cons_append, List.nil_append]
    congr 2
    unfold bitsL
    apply List.filter_congr
    intro i _
    rw [Nat.testBit_div_two_pow, Nat.testBit_div_two_pow, b3, if_neg (by omega)]
  · have := Nat.and_le_right (n := x) (m := x - 1)
    omega

def popW (x : Nat) : Nat := (bitsL 64 x).length
def popS (N : Nat) : Nat := (bitsL 320 N).length
theorem popS_sum (N : Nat) : popS N = popW (wd N 0) + popW (wd N 1) + popW (wd N 2) + popW (wd N 3) + popW (wd N 4) := by
  unfold popS popW
  rw [show (320 : Nat) = 64 * (4 + 1) from rfl, bitsL_wd, show (4 : Nat) = 3 + 1 from rfl, bitsL_wd, show (3 : Nat) = 2 + 1 from rfl, bitsL_wd, show (2 : Nat) = 1 + 1 from rfl, bitsL_wd, show (1 : Nat) = 0 + 1 from rfl, bitsL_wd]
  simp [bitsL]
  omega
theorem bitsL_sum (N : Nat) : bitsL 320 N = bitsL 64 (wd N 0) ++ (bitsL 64 (wd N 1)).map (64 + ·) ++ (bitsL 64 (wd N 2)).map (128 + ·) ++ (bitsL 64 (wd N 3)).map (192 + ·) ++ (bitsL 64 (wd N 4)).map (256 + ·) := by
  rw [show (320 : Nat) = 64 * (4 + 1) from rfl, bitsL_wd, show (4 : Nat) = 3 + 1 from rfl, bitsL_wd, show (3 : Nat) = 2 + 1 from rfl, bitsL_wd, show (2 : Nat) = 1 + 1 from rfl, bitsL_wd, show (1 : Nat) = 0 + 1 from rfl, bitsL_wd]
  simp [bitsL]

def pop8 (c : Nat) : Nat := (bitsL 8 c).length
theorem pop8_le : ∀ c, c < 256 → pop8 c ≤ 8 := by decide +kernel
theorem popW_bytes (c0 c1 c2 c3 c4 c5 c6 c7 : Nat) (h0 : c0 < 256) (h1 : c1 < 256) (h2 : c2 < 256) (h3 : c3 < 256) (h4 : c4 < 256) (h5 : c5 < 256) (h6 : c6 < 256) :
    popW (c0 + 256 * (c1 + 256 * (c2 + 256 * (c3 + 256 * (c4 + 256 * (c5 + 256 * (c6 + 256 * c7))))))) = pop8 c0 + pop8 c1 + pop8 c2 + pop8 c3 + pop8 c4 + pop8 c5 + pop8 c6 + pop8 c7 := by
  have step : ∀ n c r, c < 256 → (bitsL (8 + n) (c + 256 * r)).length = pop8 c + (bitsL n r).length := by
    intro n c r hc
    rw [bitsL_add, List.length_append, List.length_map, show (c + 256 * r) / 2 ^ 8 = r by omega]
    congr 1
    unfold pop8 bitsL
    congr 1
    apply List.filter_congr
    intro i hi
    have hi := List.mem_range.1 hi
    have := Nat.testBit_mod_two_pow (c + 256 * r) 8 i
    rw [show (c + 256 * r) % 2 ^ 8 = c by omega, decide_eq_true hi, Bool.true_and] at this
    exact this.symm
  unfold popW
  rw [show (64 : Nat) = 8 + (8 + (8 + (8 + (8 + (8 + (8 + 8)))))) from rfl, step _ _ _ h0, step _ _ _ h1, step _ _ _ h2, step _ _ _ h3, step _ _ _ h4, step _ _ _ h5, step _ _ _ h6]
  unfold pop8
  omega
theorem and_digit (a r m M : Nat) (ha : a < 256) (hm : m < 256) : (a + 256 * r) &&& (m + 256 * M) = (a &&& m) + 256 * (r &&& M) := by
  have h1 : ((a + 256 * r) &&& (m + 256 * M)) / 2 ^ 8 = r &&& M := by
    rw [Nat.and_div_two_pow, show (a + 256 * r) / 2 ^ 8 = r by omega, show (m + 256 * M) / 2 ^ 8 = M by omega]
  have h2 : ((a + 256 * r) &&& (m + 256 * M)) % 2 ^ 8 = a &&& m := by
    rw [Nat.and_mod_two_pow, show (a + 256 * r) % 2 ^ 8 = a by omega, show (m + 256 * M) % 2 ^ 8 = m by omega]
  omega
def s1 (c : Nat) : Nat := (c / 2 &&& 85) + (c &&& 85)
def s2 (c : Nat) : Nat := (c / 4 &&& 51) + (c &&& 51)
def s3 (c : Nat) : Nat := (c / 16 + c) &&& 15
theorem s1_of (M c r : Nat) (hc : c < 256) : ((c + 256 * r) / 2 &&& (85 + 256 * M)) + ((c + 256 * r) &&& (85 + 256 * M)) = s1 c + 256 * ((r / 2 &&& M) + (r &&& M)) := by
  have e : (c + 256 * r) / 2 = (c / 2 + 128 * (r % 2)) + 256 * (r / 2) := by omega
  have k : ∀ c, c < 256 → ∀ b, b < 2 → (c / 2 + 128 * b) &&& 85 = c / 2 &&& 85 := by decide +kernel
  rw [e, and_digit _ _ _ _ (by omega) (by omega), and_digit _ _ _ _ hc (by omega), k c hc _ (by omega), s1]
  omega
theorem s2_of (M c r : Nat) (hc : c < 256) : ((c + 256 * r) / 4 &&& (51 + 256 * M)) + ((c + 256 * r) &&& (51 + 256 * M)) = s2 c + 256 * ((r / 4 &&& M) + (r &&& M)) := by
  have e : (c + 256 * r) / 4 = (c / 4 + 64 * (r % 4)) + 256 * (r / 4) := by omega
  have k : ∀ c, c < 256 → ∀ b, b < 4 → (c / 4 + 64 * b) &&& 51 = c / 4 &&& 51 := by decide +kernel
  rw [e, and_digit _ _ _ _ (by omega) (by omega), and_digit _ _ _ _ hc (by omega), k c hc _ (by omega), s2]
  omega
theorem s3_of (M c r : Nat) (hc : c ≤ 68) (hr : r % 16 ≤ 4) : ((c + 256 * r) / 16 + (c + 256 * r)) &&& (15 + 256 * M) = s3 c + 256 * ((r / 16 + r) &&& M) := by
  have e : (c + 256 * r) / 16 + (c + 256 * r) = (c / 16 + c + 16 * (r % 16)) + 256 * (r / 16 + r) := by omega
  have k : ∀ c, c < 69 → ∀ b, b < 5 → (c / 16 + c + 16 * b) &&& 15 = (c / 16 + c) &&& 15 := by decide +kernel
  rw [e, and_digit _ _ _ _ (by omega) (by omega), k c (by omega) _ (by omega), s3]
theorem s1_lt : ∀ c, c < 256 → s1 c < 256 := by decide +kernel
theorem s2_s1 : ∀ c, c < 256 → s2 (s1 c) ≤ 68 ∧ s2 (s1 c) % 16 ≤ 4 := by decide +kernel
theorem s3_all : ∀ c, c < 256 → s3 (s2 (s1 c)) = pop8 c := by decide +kernel
theorem dv1 (a r : Nat) (h : a < 256) : (a + 256 * r) / 256 = r := by omega
theorem dv2 (a b r : Nat) (h : a < 256) (h' : b < 256) : (a + 256 * (b + 256 * r)) / 65536 = r := by omega
theorem dv4 (a b c d r : Nat) (h : a < 256) (h' : b < 256) (hc : c < 256) (hd : d < 256) : (a + 256 * (b + 256 * (c + 256 * (d + 256 * r)))) / 4294967296 = r := by
  have := dv2 c d r hc hd
  have := dv2 a b (c + 256 * (d + 256 * r)) h h'
  have e : ∀ x : Nat, x / 4294967296 = x / 65536 / 65536 := fun x => by rw [Nat.div_div_eq_div_mul]
  rw [e]
  simp only [*]
theorem md1 (a r : Nat) (h : a < 128) : (a + 256 * r) % 128 = a := by omega
theorem md16 (a r : Nat) : (a + 256 * r) % 16 = a % 16 := by omega
theorem lt8 (c0 c1 c2 c3 c4 c5 c6 c7 : Nat) (h0 : c0 < 256) (h1 : c1 < 256) (h2 : c2 < 256) (h3 : c3 < 256) (h4 : c4 < 256) (h5 : c5 < 256) (h6 : c6 < 256) (h7 : c7 < 256) : c0 + 256 * (c1 + 256 * (c2 + 256 * (c3 + 256 * (c4 + 256 * (c5 + 256 * (c6 + 256 * c7)))))) < 18446744073709551616 := by omega
theorem lt8h (c0 c1 c2 c3 c4 c5 c6 c7 : Nat) (h0 : c0 < 256) (h1 : c1 < 256) (h2 : c2 < 256) (h3 : c3 < 256) (h4 : c4 < 256) (h5 : c5 < 256) (h6 : c6 < 256) (h7 : c7 < 128) : c0 + 256 * (c1 + 256 * (c2 + 256 * (c3 + 256 * (c4 + 256 * (c5 + 256 * (c6 + 256 * c7)))))) < 9223372036854775808 := by omega
theorem fold_q (q0 q1 q2 q3 q4 q5 q6 q7 : Nat) (p0 : q0 ≤ 8) (p1 : q1 ≤ 8) (p2 : q2 ≤ 8) (p3 : q3 ≤ 8) (p4 : q4 ≤ 8) (p5 : q5 ≤ 8) (p6 : q6 ≤ 8) (p7 : q7 ≤ 8) :
    ∃ x4 x5 x6 : Nat, x4 = (q0 + 256 * (q1 + 256 * (q2 + 256 * (q3 + 256 * (q4 + 256 * (q5 + 256 * (q6 + 256 * (q7)))))))) + (q0 + 256 * (q1 + 256 * (q2 + 256 * (q3 + 256 * (q4 + 256 * (q5 + 256 * (q6 + 256 * (q7)))))))) / 256 ∧ x4 < 18446744073709551616 ∧ x5 = x4 + x4 / 65536 ∧ x5 < 18446744073709551616 ∧ x6 = x5 + x5 / 4294967296 ∧ x6 < 9223372036854775808 ∧ x6 % 128 = q0 + q1 + q2 + q3 + q4 + q5 + q6 + q7 := by
  refine ⟨(q0 + q1) + 256 * ((q1 + q2) + 256 * ((q2 + q3) + 256 * ((q3 + q4) + 256 * ((q4 + q5) + 256 * ((q5 + q6) + 256 * ((q6 + q7) + 256 * ((q7)))))))), (q0 + q1 + q2 + q3) + 256 * ((q1 + q2 + q3 + q4) + 256 * ((q2 + q3 + q4 + q5) + 256 * ((q3 + q4 + q5 + q6) + 256 * ((q4 + q5 + q6 + q7) + 256 * ((q5 + q6 + q7) + 256 * ((q6 + q7) + 256 * ((q7)))))))), (q0 + q1 + q2 + q3 + q4 + q5 + q6 + q7) + 256 * ((q1 + q2 + q3 + q4 + q5 + q6 + q7) + 256 * ((q2 + q3 + q4 + q5 + q6 + q7) + 256 * ((q3 + q4 + q5 + q6 + q7) + 256 * ((q4 + q5 + q6 + q7) + 256 * ((q5 + q6 + q7) + 256 * ((q6 + q7) + 256 * ((q7)))))))), ?_, lt8 _ _ _ _ _ _ _ _ (by omega) (by omega) (by omega) (by omega) (by omega) (by omega) (by omega) (by omega), ?_, lt8 _ _ _ _ _ _ _ _ (by omega) (by omega) (by omega) (by omega) (by omega) (by omega) (by omega) (by omega), ?_, lt8h _ _ _ _ _ _ _ _ (by omega) (by omega) (by omega) (by omega) (by omega) (by omega) (by omega) (by omega), ?_⟩
  · rw [dv1 _ _ (by omega)]
    omega
  · rw [dv2 _ _ _ (by omega) (by omega)]
    omega
  · rw [dv4 _ _ _ _ _ (by omega) (by omega) (by omega) (by omega)]
    omega
  · exact md1 _ _ (by omega)
set_option maxHeartbeats 1000000 in
theorem pop_steps (x : Nat) (hx : x < 18446744073709551616) :
    ∃ x1 x2 x3 : Nat, x1 = (x / 2 &&& 6148914691236517205) + (x &&& 6148914691236517205) ∧ x1 < 18446744073709551616 ∧ x2 = (x1 / 4 &&& 3689348814741910323) + (x1 &&& 3689348814741910323) ∧ x2 < 18446744073709551616 ∧ x2 / 16 + x2 < 18446744073709551616 ∧ x3 = (x2 / 16 + x2) &&& 1085102592571150095 ∧
    ∃ x4 x5 x6 : Nat, x4 = x3 + x3 / 256 ∧ x4 < 18446744073709551616 ∧ x5 = x4 + x4 / 65536 ∧ x5 < 18446744073709551616 ∧ x6 = x5 + x5 / 4294967296 ∧ x6 < 9223372036854775808 ∧ x6 % 128 = popW x := by
  obtain ⟨c0, c1, c2, c3, c4, c5, c6, c7, rfl, h0, h1, h2, h3, h4, h5, h6, h7⟩ : ∃ c0 c1 c2 c3 c4 c5 c6 c7 : Nat, x = c0 + 256 * (c1 + 256 * (c2 + 256 * (c3 + 256 * (c4 + 256 * (c5 + 256 * (c6 + 256 * c7)))))) ∧ c0 < 256 ∧ c1 < 256 ∧ c2 < 256 ∧ c3 < 256 ∧ c4 < 256 ∧ c5 < 256 ∧ c6 < 256 ∧ c7 < 256 :=
    ⟨x % 256, x / 256 % 256, x / 256 / 256 % 256, x / 256 / 256 / 256 % 256, x / 256 / 256 / 256 / 256 % 256, x / 256 / 256 / 256 / 256 / 256 % 256, x / 256 / 256 / 256 / 256 / 256 / 256 % 256, x / 256 / 256 / 256 / 256 / 256 / 256 / 256, by omega, by omega, by omega, by omega, by omega, by omega, by omega, by omega, by omega⟩
  clear hx
  have g0 := s1_lt c0 h0; have g1 := s1_lt c1 h1; have g2 := s1_lt c2 h2; have g3 := s1_lt c3 h3; have g4 := s1_lt c4 h4; have g5 := s1_lt c5 h5; have g6 := s1_lt c6 h6; have g7 := s1_lt c7 h7
  have k0 := s2_s1 c0 h0; have k1 := s2_s1 c1 h1; have k2 := s2_s1 c2 h2; have k3 := s2_s1 c3 h3; have k4 := s2_s1 c4 h4; have k5 := s2_s1 c5 h5; have k6 := s2_s1 c6 h6; have k7 := s2_s1 c7 h7
  have p0 := pop8_le c0 h0; have p1 := pop8_le c1 h1; have p2 := pop8_le c2 h2; have p3 := pop8_le c3 h3; have p4 := pop8_le c4 h4; have p5 := pop8_le c5 h5; have p6 := pop8_le c6 h6; have p7 := pop8_le c7 h7
  have m0 : (6148914691236517205 : Nat) = 85 + 256 * (85 + 256 * (85 + 256 * (85 + 256 * (85 + 256 * (85 + 256 * (85 + 256 * 85)))))) := rfl
  have m1 : (3689348814741910323 : Nat) = 51 + 256 * (51 + 256 * (51 + 256 * (51 + 256 * (51 + 256 * (51 + 256 * (51 + 256 * 51)))))) := rfl
  have m2 : (1085102592571150095 : Nat) = 15 + 256 * (15 + 256 * (15 + 256 * (15 + 256 * (15 + 256 * (15 + 256 * (15 + 256 * 15)))))) := rfl
  refine ⟨_, _, _, rfl, ?_, rfl, ?_, ?_, rfl, ?_⟩
  all_goals rw [m0, s1_of _ c0 _ h0, s1_of _ c1 _ h1, s1_of _ c2 _ h2, s1_of _ c3 _ h3, s1_of _ c4 _ h4, s1_of _ c5 _ h5, s1_of _ c6 _ h6, show (c7 / 2 &&& 85) + (c7 &&& 85) = s1 c7 from rfl]
  · exact lt8 _ _ _ _ _ _ _ _ g0 g1 g2 g3 g4 g5 g6 g7
  all_goals rw [m1, s2_of _ _ _ g0, s2_of _ _ _ g1, s2_of _ _ _ g2, s2_of _ _ _ g3, s2_of _ _ _ g4, s2_of _ _ _ g5, s2_of _ _ _ g6, show (s1 c7 / 4 &&& 51) + (s1 c7 &&& 51) = s2 (s1 c7) from rfl]
  · exact lt8 _ _ _ _ _ _ _ _ (by omega) (by omega) (by omega) (by omega) (by omega) (by omega) (by omega) (by omega)
  · omega
  · rw [m2, s3_of _ _ _ k0.1 (by rw [md16]; exact k1.2), s3_of _ _ _ k1.1 (by rw [md16]; exact k2.2), s3_of _ _ _ k2.1 (by rw [md16]; exact k3.2), s3_of _ _ _ k3.1 (by rw [md16]; exact k4.2), s3_of _ _ _ k4.1 (by rw [md16]; exact k5.2), s3_of _ _ _ k5.1 (by rw [md16]; exact k6.2), s3_of _ _ _ k6.1 k7.2, show (s2 (s1 c7) / 16 + s2 (s1 c7)) &&& 15 = s3 (s2 (s1 c7)) from rfl]
    rw [s3_all c0 h0, s3_all c1 h1, s3_all c2 h2, s3_all c3 h3, s3_all c4 h4, s3_all c5 h5, s3_all c6 h6, s3_all c7 h7, popW_bytes c0 c1 c2 c3 c4 c5 c6 c7 h0 h1 h2 h3 h4 h5 h6]
    exact fold_q _ _ _ _ _ _ _ _ p0 p1 p2 p3 p4 p5 p6 p7
end Go.Proofs.YtcofhmikdkkigaaGreatDoor
namespace Go.Proofs.YtcofhmikdkkigaaGreatDoor
open Go.RowKit

theorem and_nat (a b : Nat) (ha : a < 18446744073709551616) (hb : b < 18446744073709551616) : bits .and .u64 (a : Int) (b : Int) = ((a &&& b : Nat) : Int) := bits_and_u64_nat a b ha hb

set_option maxHeartbeats 1000000 in
theorem ones_any (x : Nat) (hx : x < 18446744073709551616) (w : World) :
    Calls Tryz.prog 197 #[.int .u64 x] w fun e w' => e = .returned (.int .i64 (popW x)) ∧ w' = w := by
  obtain ⟨x1, x2, x3, h1, l1, h2, l2, l2b, h3, x4, x5, x6, h4, l4, h5, l5, h6, l6, h7⟩ := pop_steps x hx
  have wr : ∀ n : Nat, n < 18446744073709551616 → IntKind.u64.wrap (n : Int) = n := fun n h => by rw [IntKind.wrap_u64]; omega
  have an : ∀ a c : Nat, a < 18446744073709551616 → c < 18446744073709551616 → bits .and .u64 (a : Int) (c : Int) = ((a &&& c : Nat) : Int) := fun a c => bits_and_u64_nat a c
  have e1 : IntKind.u64.wrap (bits .and .u64 ((x : Int) / 2) 6148914691236517205 + bits .and .u64 (x : Int) 6148914691236517205) = (x1 : Int) := by
    have q1 := an (x / 2) 6148914691236517205 (by omega) (by omega)
    have q2 := an x 6148914691236517205 hx (by omega)
    simp only [Int.natCast_ediv, Int.cast_ofNat_Int] at q1 q2
    rw [q1, q2, ← Int.natCast_add, ← h1, wr _ l1]
  have e2 : IntKind.u64.wrap (bits .and .u64 ((x1 : Int) / 4) 3689348814741910323 + bits .and .u64 (x1 : Int) 3689348814741910323) = (x2 : Int) := by
    have q1 := an (x1 / 4) 3689348814741910323 (by omega) (by omega)
    have q2 := an x1 3689348814741910323 l1 (by omega)
    simp only [Int.natCast_ediv, Int.cast_ofNat_Int] at q1 q2
    rw [q1, q2, ← Int.natCast_add, ← h2, wr _ l2]
  have e3 : bits .and .u64 ((x2 : Int) / 16 + x2) 1085102592571150095 = (x3 : Int) := by
    have q0 : (x2 : Int) / 16 + x2 = ((x2 / 16 + x2 : Nat) : Int) := by omega
    have q1 := an (x2 / 16 + x2) 1085102592571150095 l2b (by omega)
    simp only [Int.cast_ofNat_Int] at q1
    rw [q0, q1, ← h3]
  have e4 : IntKind.u64.wrap ((x3 : Int) + (x3 : Int) / 256) = (x4 : Int) := by rw [show (x3 : Int) + (x3 : Int) / 256 = (x4 : Int) by omega, wr _ l4]
  have e5 : IntKind.u64.wrap ((x4 : Int) + (x4 : Int) / 65536) = (x5 : Int) := by rw [show (x4 : Int) + (x4 : Int) / 65536 = (x5 : Int) by omega, wr _ l5]
  have e6 : IntKind.u64.wrap ((x5 : Int) + (x5 : Int) / 4294967296) = (x6 : Int) := by rw [show (x5 : Int) + (x5 : Int) / 4294967296 = (x6 : Int) by omega, wr _ (by omega)]
  have e7 : bits .and .i64 (x6 : Int) 127 = (popW x : Int) := by
    rw [i64_and127]
    omega
  clear h1 h2 h3 h4 h5 h6 h7 wr an
  go_enter Tryz.func197, Tryz.ntmps197
  go_wp2_with fail
  go_ret
  exact ⟨rfl, rfl⟩

def Tab (w : World) : Prop := TabAt 1 Lib.deBruijn64tab w

set_option maxHeartbeats 1000000 in
theorem tz_any (x : Nat) (hx : x < 18446744073709551616) (hx0 : x ≠ 0) (w : World) (hT : Tab w) :
    Calls Tryz.prog 141 #[.int .u64 x] w fun e w' => e = .returned (.int .i64 (Lib.ctz 64 x)) ∧ w' = w := by
  obtain ⟨hlow, hk⟩ := Lib.lowest_bit 64 x hx0 hx
  obtain ⟨hi, htab⟩ := Lib.deBruijn64_at _ hk
  have hcell := hT _ hi
  rw [htab] at hcell
  have key := tz64_key x _ hx hx0 hlow
  have hx0 : ((x : Int) == 0) = false := by simp; omega
  obtain ⟨k, hkk⟩ : ∃ k, k = Lib.ctz 64 x := ⟨_, rfl⟩
  rw [← hkk] at hcell hk hi key ⊢
  obtain ⟨idx, hidx⟩ : ∃ idx, idx = 2 ^ k * 285870213051353865 % 18446744073709551616 / 288230376151711744 := ⟨_, rfl⟩
  rw [← hidx] at hcell hi key
  clear hkk hidx htab hlow hT
  go_enter Tryz.func141, Tryz.ntmps141
  go_wp2_with (simp only [key])
  go_ret
  exact ⟨rfl, rfl⟩

def psV (N : Nat) : Value := .agg #[.int .u64 (wd (N) 0), .int .u64 (wd (N) 1), .int .u64 (wd (N) 2), .int .u64 (wd (N) 3), .int .u64 (wd (N) 4)]
def PsC (w : World) (b off N : Nat) : Prop := ∀ k, k < 5 → w.cell? ⟨b, off + k, none⟩ = some (.int .u64 (wd N k))

structure Wrote (T : TypeId) (b off n : Nat) (w w' : World) : Prop where
  row : RowAt w' b T
  by_ : w.grownBy w' (some b)
  rest : ∀ j, ¬ (off ≤ j ∧ j < off + n) → w'.cell? ⟨b, j, none⟩ = w.cell? ⟨b, j, none⟩
theorem Wrote.trans {T : TypeId} {b off n : Nat} {w w1 w2 : World} (h : Wrote T b off n w w1) (k : Wrote T b off n w1 w2) : Wrote T b off n w w2 :=
  ⟨k.row, grown_trans h.by_ k.by_, fun j hj => (k.rest j hj).trans (h.rest j hj)⟩
theorem Wrote.fr {T : TypeId} {b off n : Nat} {w w1 w2 : World} (h : Wrote T b off n w w1) (k : Fr w1 w2) : Wrote T b off n w w2 := by
  have hb := h.row
  obtain ⟨cur, hc⟩ := hb
  have hlt : b < w1.heap.size := (Array.getElem?_eq_some_iff.1 hc).1
  refine ⟨⟨cur, (k.block b hlt (by simp)).trans hc⟩, grown_trans h.by_ k.wide, fun j hj => ?_⟩
  rw [← h.rest j hj]
  exact World.cell?_of_block (k.block b hlt (by simp))
theorem Wrote.pre {T : TypeId} {b off n : Nat} {w w1 w2 : World} (k : Fr w w1) (hb : b < w.heap.size) (h : Wrote T b off n w1 w2) : Wrote T b off n w w2 := by
  refine ⟨h.row, grown_trans k.wide h.by_, fun j hj => ?_⟩
  rw [h.rest j hj]
  exact World.cell?_of_block (k.block b hb (by simp))
theorem RowAt.fr {w w' : World} {b : Nat} {T : TypeId} (h : RowAt w b T) (k : Fr w w') : RowAt w' b T := by
  obtain ⟨cur, hc⟩ := h
  exact ⟨cur, (k.block b (Array.getElem?_eq_some_iff.1 hc).1 (by simp)).trans hc⟩
theorem RowAt.lt {w : World} {b : Nat} {T : TypeId} (h : RowAt w b T) : b < w.heap.size := by
  obtain ⟨cur, hc⟩ := h
  exact (Array.getElem?_eq_some_iff.1 hc).1
theorem PsC.fr {w w' : World} {b off N : Nat} (h : PsC w b off N) (k : Fr w w') : PsC w' b off N := fun q hq => k.cell (h q hq)
theorem PsC.set {w : World} {b off N M i : Nat} (h : PsC w b off N) (hi : i < 5) (hM : ∀ k, k < 5 → k ≠ i → wd M k = wd N k) : PsC (w.setCell ⟨b, off + i, none⟩ (.int .u64 (wd M i))) b off M := by
  intro k hk
  by_cases e : k = i
  · subst e
    exact World.cell?_setCell_same' _ _ _ (by rw [h k hk]; rfl)
  · have hne : (⟨b, off + i, none⟩ : Addr) ≠ ⟨b, off + k, none⟩ := fun q => e (by injection q; omega)
    rw [World.cell?_setCell_other _ _ _ _ hne, h k hk, hM k hk e]
theorem wrote_set {T : TypeId} {w : World} {b off i n : Nat} {v : Value} (hr : RowAt w b T) (hi : i < n) : Wrote T b off n w (w.setCell ⟨b, off + i, none⟩ v) := by
  refine ⟨hr.set _ _, grown_set _ _ _ _, fun j hj => ?_⟩
  have hne : (⟨b, off + i, none⟩ : Addr) ≠ ⟨b, j, none⟩ := fun q => hj (by injection q; omega)
  exact World.cell?_setCell_other _ _ _ _ hne
theorem or_nat (a b : Nat) (ha : a < 18446744073709551616) (hb : b < 18446744073709551616) : bits .or .u64 (a : Int) (b : Int) = ((a ||| b : Nat) : Int) := bits_or_u64_nat a b ha hb

set_option maxHeartbeats 1000000 in
theorem add_any (b off N i : Nat) (T : TypeId) (w : World) (hi : i < 320) (h : PsC w b off N) (hr : RowAt w b T) :
    Calls Tryz.prog 171 #[.pointer (some ⟨b, off, none⟩), .int .i64 i] w fun e w' => e = .returned (.tuple #[]) ∧ PsC w' b off (N ||| 2 ^ i) ∧ Wrote T b off 5 w w' := by
  have c0 := h (i / 64) (by omega)
  have z0 := hr.free (off + i / 64)
  have hp : 2 ^ (i % 64) < 18446744073709551616 := Nat.pow_lt_pow_of_lt (show 1 < 2 by omega) (show i % 64 < 64 by omega)
  have HE : Hid (bits .or .u64 (wd N (i / 64)) (IntKind.u64.wrap (2 ^ (i % 64))) = (wd (N ||| 2 ^ i) (i / 64) : Int)) := by
    have q : IntKind.u64.wrap (2 ^ (i % 64)) = ((2 ^ (i % 64) : Nat) : Int) := by
      have e : ((2 : Int) ^ (i % 64)) = ((2 ^ (i % 64) : Nat) : Int) := by simp
      obtain ⟨P, hP⟩ : ∃ P, P = 2 ^ (i % 64) := ⟨_, rfl⟩
      rw [e]
      rw [← hP] at hp ⊢
      rw [IntKind.wrap_u64]
      omega
    rw [q, or_nat _ _ (wd_lt _ _) hp, wd_or, wd_one]
    exact rfl
  clear hp
  go_enter Tryz.func171, Tryz.ntmps171
  go_wp2_with fail
  go_region
  first | refine bodyPost_ret (results_none rfl _ _ _) rfl ?_ | go_end0
  rw [HE.out]
  refine ⟨rfl, (h.set (by omega) (fun k hk hne => by rw [wd_or, wd_other _ _ hne, Nat.or_zero])).fr (Fr.drew _), (wrote_set hr (by omega)).fr (Fr.drew _)⟩

theorem ix0 (f : Nat → Nat) (w : World) : (Instr.index 110 (.agg #[.int .u64 (f 0), .int .u64 (f 1), .int .u64 (f 2), .int .u64 (f 3), .int .u64 (f 4)]) (.int .i64 0)).run Tryz.prog w = .ok (.int .u64 (f 0)) w := by kernel_rfl
theorem ix1 (f : Nat → Nat) (w : World) : (Instr.index 110 (.agg #[.int .u64 (f 0), .int .u64 (f 1), .int .u64 (f 2), .int .u64 (f 3), .int .u64 (f 4)]) (.int .i64 1)).run Tryz.prog w = .ok (.int .u64 (f 1)) w := by kernel_rfl
theorem ix2 (f : Nat → Nat) (w : World) : (Instr.index 110 (.agg #[.int .u64 (f 0), .int .u64 (f 1), .int .u64 (f 2), .int .u64 (f 3), .int .u64 (f 4)]) (.int .i64 2)).run Tryz.prog w = .ok (.int .u64 (f 2)) w := by kernel_rfl
theorem ix3 (f : Nat → Nat) (w : World) : (Instr.index 110 (.agg #[.int .u64 (f 0), .int .u64 (f 1), .int .u64 (f 2), .int .u64 (f 3), .int .u64 (f 4)]) (.int .i64 3)).run Tryz.prog w = .ok (.int .u64 (f 3)) w := by kernel_rfl
theorem ix4 (f : Nat → Nat) (w : World) : (Instr.index 110 (.agg #[.int .u64 (f 0), .int .u64 (f 1), .int .u64 (f 2), .int .u64 (f 3), .int .u64 (f 4)]) (.int .i64 4)).run Tryz.prog w = .ok (.int .u64 (f 4)) w := by kernel_rfl
def PsM (w : World) (b off : Nat) (f g : Nat → Nat) (k : Nat) : Prop := ∀ q, q < 5 → w.cell? ⟨b, off + q, none⟩ = some (.int .u64 (if q < k then f q ||| g q else f q : Nat))
theorem PsM.fr {w w' : World} {b off k : Nat} {f g : Nat → Nat} (h : PsM w b off f g k) (z : Fr w w') : PsM w' b off f g k := fun q hq => z.cell (h q hq)
theorem PsM.step {w : World} {b off k : Nat} {f g : Nat → Nat} (h : PsM w b off f g k) (hk : k < 5) : PsM (w.setCell ⟨b, off + k, none⟩ (.int .u64 (f k ||| g k : Nat))) b off f g (k + 1) := by
  intro q hq
  by_cases e : q = k
  · subst e
    rw [if_pos (by omega)]
    exact World.cell?_setCell_same' _ _ _ (by rw [h q hq]; rfl)
  · have hne : (⟨b, off + k, none⟩ : Addr) ≠ ⟨b, off + q, none⟩ := fun z => e (by injection z; omega)
    rw [World.cell?_setCell_other _ _ _ _ hne, h q hq]
    by_cases e2 : q < k
    · rw [if_pos e2, if_pos (by omega)]
    · rw [if_neg e2, if_neg (by omega)]
set_option maxRecDepth 20000 in
set_option maxHeartbeats 2000000 in
theorem addAll_core (b off : Nat) (f g : Nat → Nat) (T : TypeId) (w : World) (hf : ∀ k, f k < 18446744073709551616) (hg : ∀ k, g k < 18446744073709551616) (h : ∀ k, k < 5 → w.cell? ⟨b, off + k, none⟩ = some (.int .u64 (f k))) (hr : RowAt w b T) :
    Calls Tryz.prog 172 #[.pointer (some ⟨b, off, none⟩), .agg #[.int .u64 (g 0), .int .u64 (g 1), .int .u64 (g 2), .int .u64 (g 3), .int .u64 (g 4)]] w fun e w' => e = .returned (.tuple #[]) ∧ (∀ k, k < 5 → w'.cell? ⟨b, off + k, none⟩ = some (.int .u64 (f k ||| g k : Nat))) ∧ Wrote T b off 5 w w' := by
  have f0 := Fr.alloc w (.cells #[.int .u64 (g 0), .int .u64 (g 1), .int .u64 (g 2), .int .u64 (g 3), .int .u64 (g 4)] 110)
  have hb := hr.lt
  have HO : Hid (∀ k, bits .or .u64 (f k) (g k) = ((f k ||| g k : Nat) : Int)) := fun k => or_nat _ _ (hf k) (hg k)
  clear hf hg
  go_enter Tryz.func172, Tryz.ntmps172
  go_wp2_with fail
  obtain ⟨W, hW⟩ : ∃ W, W = w.alloc (.cells #[.int .u64 (g 0), .int .u64 (g 1), .int .u64 (g 2), .int .u64 (g 3), .int .u64 (g 4)] 110) := ⟨_, rfl⟩
  rw [← hW] at f0 ⊢
  clear hW
  have hr := hr.fr f0
  have h0 : PsM W b off f g 0 := fun q hq => by rw [if_neg (by omega)]; exact f0.cell (h q hq)
  clear h
  go_loopw [7] (fun i wr => ∃ k : Nat, k ≤ 5 ∧ i = .int .i64 k ∧ PsM wr b off f g k ∧ RowAt wr b T ∧ (wr = W ∨ Wrote T b off 5 W wr)) (fun i _ => 5 - (intOf i).toNat)
  case atStart => exact ⟨0, by omega, rfl, h0, hr, .inl rfl⟩
  case round =>
    obtain ⟨k, hk, rfl, hP, hrr, hW⟩ := hrel
    by_cases hlt : k < 5
    · have c0 := hP k hlt
      rw [if_neg (by omega)] at c0
      have z0 := hrr.free (off + k)
      have HS : Hid (PsM _ b off f g (k + 1) ∧ RowAt _ b T ∧ Wrote T b off 5 W _) := ⟨(hP.step hlt).fr (Fr.drew _), (hrr.set (off + k) (.int .u64 (f k ||| g k : Nat))).fr (Fr.drew _), by
        have q := (wrote_set (T := T) (w := wr) (b := b) (off := off) (i := k) (n := 5) (v := .int .u64 (f k ||| g k : Nat)) hrr hlt).fr (Fr.drew _)
        rcases hW with rfl | hW
        · exact q
        · exact hW.trans q⟩
      have HO := HO.out k
      clear hP hrr hW hr h0 f0
      rcases k with _ | _ | _ | _ | _ | k
      · have i0 := fun u => ix0 g u
        simp only [Nat.add_zero] at c0 z0
        go_wp2_with fail
        go_region
        go_wp2_with fail
        go_roundw
        case rel => exact ⟨1, by omega, rfl, HS.out.1, HS.out.2.1, .inr HS.out.2.2⟩
        case measure => decide
      · have i0 := fun u => ix1 g u
        go_wp2_with fail
        go_region
        go_wp2_with fail
        go_roundw
        case rel => exact ⟨2, by omega, rfl, HS.out.1, HS.out.2.1, .inr HS.out.2.2⟩
        case measure => decide
      · have i0 := fun u => ix2 g u
        go_wp2_with fail
        go_region
        go_wp2_with fail
        go_roundw
        case rel => exact ⟨3, by omega, rfl, HS.out.1, HS.out.2.1, .inr HS.out.2.2⟩
        case measure => decide
      · have i0 := fun u => ix3 g u
        go_wp2_with fail
        go_region
        go_wp2_with fail
        go_roundw
        case rel => exact ⟨4, by omega, rfl, HS.out.1, HS.out.2.1, .inr HS.out.2.2⟩
        case measure => decide
      · have i0 := fun u => ix4 g u
        go_wp2_with fail
        go_region
        go_wp2_with fail
        go_roundw
        case rel => exact ⟨5, by omega, rfl, HS.out.1, HS.out.2.1, .inr HS.out.2.2⟩
        case measure => decide
      · omega
    · have e : k = 5 := by omega
      subst e
      go_wp2_with fail
      first | refine bodyPost_ret (results_none rfl _ _ _) rfl ?_ | go_end0
      refine ⟨rfl, fun q hq => by have := hP q hq; rwa [if_pos hq] at this, ?_⟩
      rcases hW with rfl | hW
      · exact ⟨hrr, f0.wide, fun j _ => World.cell?_of_block (f0.block b hb (by simp))⟩
      · exact hW.pre f0 hb
theorem addAll_any (b off N M : Nat) (T : TypeId) (w : World) (h : PsC w b off N) (hr : RowAt w b T) :
    Calls Tryz.prog 172 #[.pointer (some ⟨b, off, none⟩), .agg #[.int .u64 (wd (M) 0), .int .u64 (wd (M) 1), .int .u64 (wd (M) 2), .int .u64 (wd (M) 3), .int .u64 (wd (M) 4)]] w fun e w' => e = .returned (.tuple #[]) ∧ PsC w' b off (N ||| M) ∧ Wrote T b off 5 w w' := by
  refine (addAll_core b off (wd N) (wd M) T w (wd_lt N) (wd_lt M) h hr).mono ?_
  rintro e w' ⟨h1, h2, h3⟩
  exact ⟨h1, fun k hk => by rw [wd_or]; exact h2 k hk, h3⟩

set_option maxHeartbeats 1000000 in
theorem hasP_any (N : Nat) (i : Int) (w : World) :
    Calls Tryz.prog 81 #[.agg #[.int .u64 (wd (N) 0), .int .u64 (wd (N) 1), .int .u64 (wd (N) 2), .int .u64 (wd (N) 3), .int .u64 (wd (N) 4)], .int .i64 i] w fun e w' => e = .returned (.bool (inB 0 299 i && N.testBit i.toNat)) ∧ Fr w w' := by
  have cW := fun u => within_any i 0 299 u
  have f0 := Fr.alloc w (.cells #[.int .u64 (wd N 0), .int .u64 (wd N 1), .int .u64 (wd N 2), .int .u64 (wd N 3), .int .u64 (wd N 4)] 110)
  cases hb : inB 0 299 i
  · simp only [hb] at cW
    clear hb
    go_enter Tryz.func81, Tryz.ntmps81
    go_wp2_with fail
    refine (cW _).mono ?_
    rintro e u0 ⟨rfl, rfl⟩
    go_wp2_with fail
    go_ret
    exact ⟨rfl, f0⟩
  · have hi : 0 ≤ i ∧ i ≤ 299 := by simpa [inB] using hb
    simp only [hb] at cW
    clear hb
    obtain ⟨j, rfl⟩ : ∃ j : Nat, i = j := ⟨i.toNat, by omega⟩
    have c0 : (w.alloc (.cells #[.int .u64 (wd N 0), .int .u64 (wd N 1), .int .u64 (wd N 2), .int .u64 (wd N 3), .int .u64 (wd N 4)] 110)).cell? ⟨w.heap.size, j / 64, none⟩ = some (.int .u64 (wd N (j / 64))) := by
      rw [cell_of_row _ _ _ _ _ _ (heap_alloc_new w _)]
      have : j / 64 < 5 := by omega
      generalize j / 64 = q at *
      rcases q with _ | _ | _ | _ | _ | q <;> first | rfl | omega
    go_enter Tryz.func81, Tryz.ntmps81
    go_wp2_with fail
    refine (cW _).mono ?_
    rintro e u0 ⟨rfl, rfl⟩
    have HE : Hid ((bits .and .u64 ((wd N (j / 64) : Int) / 2 ^ (j % 64)) 1 == 1) = N.testBit j) := by
      have e1 : (wd N (j / 64) : Int) / 2 ^ (j % 64) = ((wd N (j / 64) / 2 ^ (j % 64) : Nat) : Int) := by simp
      have e2 := and_nat (wd N (j / 64) / 2 ^ (j % 64)) 1 (Nat.lt_of_le_of_lt (Nat.div_le_self _ _) (wd_lt _ _)) (by omega)
      simp only [Int.cast_ofNat_Int] at e2
      rw [e1]
      refine (congrArg (· == (1 : Int)) e2).trans ?_
      rw [wd_has]
      cases N.testBit j <;> rfl
    go_wp2_with fail
    go_ret
    rw [HE.out]
    simp only [Bool.true_and, Int.toNat_natCast]
    exact ⟨rfl, f0⟩

set_option maxRecDepth 20000 in
set_option maxHeartbeats 1000000 in
theorem sizeP_core (f : Nat → Nat) (hf : ∀ k, f k < 18446744073709551616) (w : World) :
    Calls Tryz.prog 173 #[.agg #[.int .u64 (f 0), .int .u64 (f 1), .int .u64 (f 2), .int .u64 (f 3), .int .u64 (f 4)]] w fun e w' => e = .returned (.int .i64 (popW (f 0) + popW (f 1) + popW (f 2) + popW (f 3) + popW (f 4) : Nat)) ∧ Fr w w' := by
  have f0 := Fr.alloc w (.cells #[.int .u64 (f 0), .int .u64 (f 1), .int .u64 (f 2), .int .u64 (f 3), .int .u64 (f 4)] 110)
  have c0 := fun u => ones_any (f 0) (hf 0) u
  have c1 := fun u => ones_any (f 1) (hf 1) u
  have c2 := fun u => ones_any (f 2) (hf 2) u
  have c3 := fun u => ones_any (f 3) (hf 3) u
  have c4 := fun u => ones_any (f 4) (hf 4) u
  have ple : ∀ x, popW x ≤ 64 := fun x => by
    unfold popW bitsL
    have := List.length_filter_le (fun i => x.testBit i) (List.range 64)
    simpa using this
  have l0 := ple (f 0); have l1 := ple (f 1); have l2 := ple (f 2); have l3 := ple (f 3); have l4 := ple (f 4)
  obtain ⟨p0, hp0⟩ : ∃ p, p = popW (f 0) := ⟨_, rfl⟩
  obtain ⟨p1, hp1⟩ : ∃ p, p = popW (f 1) := ⟨_, rfl⟩
  obtain ⟨p2, hp2⟩ : ∃ p, p = popW (f 2) := ⟨_, rfl⟩
  obtain ⟨p3, hp3⟩ : ∃ p, p = popW (f 3) := ⟨_, rfl⟩
  obtain ⟨p4, hp4⟩ : ∃ p, p = popW (f 4) := ⟨_, rfl⟩
  simp only [← hp0, ← hp1, ← hp2, ← hp3, ← hp4] at c0 c1 c2 c3 c4 l0 l1 l2 l3 l4 ⊢
  clear hp0 hp1 hp2 hp3 hp4 ple hf
  go_enter Tryz.func173, Tryz.ntmps173
  go_wp2_with fail
  obtain ⟨W, hW⟩ : ∃ W, W = w.alloc (.cells #[.int .u64 (f 0), .int .u64 (f 1), .int .u64 (f 2), .int .u64 (f 3), .int .u64 (f 4)] 110) := ⟨_, rfl⟩
  rw [← hW] at f0 ⊢
  clear hW
  go_loopw [3, 7] (fun n i wr => wr = W ∧ ((i = .int .i64 0 ∧ n = .int .i64 0) ∨ (i = .int .i64 1 ∧ n = .int .i64 p0) ∨ (i = .int .i64 2 ∧ n = .int .i64 (p0 + p1)) ∨ (i = .int .i64 3 ∧ n = .int .i64 (p0 + p1 + p2)) ∨ (i = .int .i64 4 ∧ n = .int .i64 (p0 + p1 + p2 + p3)) ∨ (i = .int .i64 5 ∧ n = .int .i64 (p0 + p1 + p2 + p3 + p4)))) (fun _ i _ => 5 - (intOf i).toNat)
  case atStart => exact ⟨rfl, .inl ⟨rfl, rfl⟩⟩
  case round =>
    obtain ⟨rfl, ⟨rfl, rfl⟩ | ⟨rfl, rfl⟩ | ⟨rfl, rfl⟩ | ⟨rfl, rfl⟩ | ⟨rfl, rfl⟩ | ⟨rfl, rfl⟩⟩ := hrel
    · have i0 := fun u => ix0 f u
      go_wp2_with fail
      refine (c0 _).mono ?_
      rintro e u0 ⟨rfl, rfl⟩
      go_wp2_with fail
      go_roundw
      case rel => exact ⟨trivial, .inr (.inl ⟨rfl, rfl⟩)⟩
      case measure => decide
    · have i0 := fun u => ix1 f u
      go_wp2_with fail
      refine (c1 _).mono ?_
      rintro e u0 ⟨rfl, rfl⟩
      go_wp2_with fail
      go_roundw
      case rel => exact ⟨trivial, .inr (.inr (.inl ⟨rfl, rfl⟩))⟩
      case measure => decide
    · have i0 := fun u => ix2 f u
      go_wp2_with fail
      refine (c2 _).mono ?_
      rintro e u0 ⟨rfl, rfl⟩
      go_wp2_with fail
      go_roundw
      case rel => exact ⟨trivial, .inr (.inr (.inr (.inl ⟨rfl, rfl⟩)))⟩
      case measure => decide
    · have i0 := fun u => ix3 f u
      go_wp2_with fail
      refine (c3 _).mono ?_
      rintro e u0 ⟨rfl, rfl⟩
      go_wp2_with fail
      go_roundw
      case rel => exact ⟨trivial, .inr (.inr (.inr (.inr (.inl ⟨rfl, rfl⟩))))⟩
      case measure => decide
    · have i0 := fun u => ix4 f u
      go_wp2_with fail
      refine (c4 _).mono ?_
      rintro e u0 ⟨rfl, rfl⟩
      go_wp2_with fail
      go_roundw
      case rel => exact ⟨trivial, .inr (.inr (.inr (.inr (.inr (⟨rfl, rfl⟩)))))⟩
      case measure => decide
    · go_wp2_with fail
      go_ret
      exact ⟨by simp, f0⟩
theorem sizeP_any (N : Nat) (w : World) :
    Calls Tryz.prog 173 #[.agg #[.int .u64 (wd (N) 0), .int .u64 (wd (N) 1), .int .u64 (wd (N) 2), .int .u64 (wd (N) 3), .int .u64 (wd (N) 4)]] w fun e w' => e = .returned (.int .i64 (popS N)) ∧ Fr w w' := by
  rw [popS_sum]
  exact sizeP_core (wd N) (wd_lt N) w
end Go.Proofs.YtcofhmikdkkigaaGreatDoor
