/-
  Chapter 1, clocks: the walks of ClockOk, TickOf and Under, of the program and of its specification.
-/
import Derived.Test.YteoalolkjfeeaaaRange
import Derived.Test.YteoalolkjfeeaaaInts
namespace Go.Proofs.Yteoalolkjfeeaaa
open Go.RowKit

/-- Is the list a clock? -/
def ckB (xs : List Int) : Bool := decide (xs.length ≤ 16) && (xs.all (inB 0 281474976710655) && (decide (xs.length = 0) || !decide (xs.getD (xs.length - 1) 0 = 0)))

theorem ckB_true {xs : List Int} (h : ckB xs = true) : xs.length ≤ 16 ∧ (∀ x ∈ xs, 0 ≤ x ∧ x ≤ 281474976710655) ∧ (0 < xs.length → xs.getD (xs.length - 1) 0 ≠ 0) := by
  simp only [ckB, Bool.and_eq_true, decide_eq_true_eq, List.all_eq_true, Bool.or_eq_true, Bool.not_eq_true', decide_eq_false_iff_not] at h
  refine ⟨h.1, fun x hx => inB_true (h.2.1 x hx), fun hp => ?_⟩
  rcases h.2.2 with e | e
  · omega
  · exact e
theorem ckB_mk {xs : List Int} (h1 : xs.length ≤ 16) (h2 : ∀ j, j < xs.length → inB 0 281474976710655 (xs.getD j 0) = true) (h3 : xs.length = 0 ∨ xs.getD (xs.length - 1) 0 ≠ 0) : ckB xs = true := by
  simp only [ckB, Bool.and_eq_true, decide_eq_true_eq, List.all_eq_true, Bool.or_eq_true, Bool.not_eq_true', decide_eq_false_iff_not]
  refine ⟨h1, fun x hx => ?_, h3⟩
  obtain ⟨j, hj, rfl⟩ := List.mem_iff_getElem.1 hx
  have := h2 j hj
  rwa [getD_at hj] at this
theorem ckB_long {xs : List Int} (h : 16 < xs.length) : ckB xs = false := by
  have : decide (xs.length ≤ 16) = false := decide_eq_false (by omega)
  simp [ckB, this]
theorem ckB_bad {xs : List Int} {j : Nat} (hj : j < xs.length) (h : inB 0 281474976710655 xs[j] = false) : ckB xs = false := by
  have : xs.all (inB 0 281474976710655) = false := by
    rw [Bool.eq_false_iff]; intro e; rw [List.all_eq_true] at e; have := e xs[j] (List.getElem_mem hj); rw [h] at this; cases this
  simp [ckB, this]
theorem ckB_last {xs : List Int} (hp : 0 < xs.length) (h : xs.getD (xs.length - 1) 0 = 0) : ckB xs = false := by
  have : decide (xs.length = 0) = false := decide_eq_false (by omega)
  simp only [ckB, this, h, decide_true, Bool.not_true, Bool.or_self, Bool.and_false]

set_option maxHeartbeats 400000 in
theorem clockOk_impl (ao : Option Addr) (n cap : Nat) (xs : List Int) (w : World) (hn : xs.length = n) (h : Reads w ao xs) :
    Calls Try.prog 18 #[.slice ao n cap] w fun e w' => e = .returned (.bool (ckB xs)) ∧ w' = w := by
  subst hn
  have hl := h.len
  by_cases h16 : 16 < xs.length
  · go_enter Try.func18, Try.ntmps18
    go_wp2
    go_ret
    exact ⟨ret_bool (ckB_long h16).symm, rfl⟩
  · have h16' : xs.length ≤ 16 := by omega
    go_enter Try.func18, Try.ntmps18
    go_wp2
    go_loop [10] (fun i => ∃ k : Nat, k ≤ xs.length ∧ i = .int .i64 k ∧ Hid (∀ j, j < k → inB 0 281474976710655 (xs.getD j 0) = true)) (fun i => xs.length - (intOf i).toNat)
    case atStart => exact ⟨0, Nat.zero_le _, rfl, fun j hj => by omega⟩
    case round =>
      obtain ⟨k, hk, rfl, HA⟩ := hrel
      by_cases hlt : k < xs.length
      · obtain ⟨b, off, rfl, hc⟩ := h.at_ k hlt
        have hck := hc k hlt
        rw [getD_at hlt] at hck
        clear hc
        cases hin : inB 0 281474976710655 xs[k]
        · go_wp2_with (go_at_call 39; refine (tickIn_any _ _).mono ?_; rintro e w' ⟨rfl, rfl⟩)
          go_ret
          exact ⟨ret_bool (ckB_bad hlt hin).symm, rfl⟩
        · go_wp2_with (go_at_call 39; refine (tickIn_any _ _).mono ?_; rintro e w' ⟨rfl, rfl⟩)
          go_round
          case rel =>
            refine ⟨k + 1, by omega, by go_num, fun j hj => ?_⟩
            by_cases e : j = k
            · subst e; rw [getD_at hlt]; exact hin
            · exact HA.out j (by omega)
          case measure => simp [intOf]; omega
      · have hall : ∀ j, j < xs.length → inB 0 281474976710655 (xs.getD j 0) = true := fun j hj => HA.out j (by omega)
        have HALL := hall
        have HH : Hid (∀ j, j < xs.length → inB 0 281474976710655 (xs.getD j 0) = true) := hall
        clear hall HALL
        by_cases h0 : xs.length = 0
        · have hz : ((xs.length : Int) == 0) = true := beq_iff_eq.2 (by omega)
          have H0 : Hid (xs.length = 0) := h0
          clear h0
          go_wp2
          go_ret
          exact ⟨ret_bool (ckB_mk h16' HH.out (.inl H0.out)).symm, rfl⟩
        · have hz : ((xs.length : Int) == 0) = false := beq_eq_false_iff_ne.2 (by omega)
          obtain ⟨b, off, rfl, hc⟩ := h.at_ (xs.length - 1) (by omega)
          have hck := hc (xs.length - 1) (by omega)
          clear hc
          obtain ⟨z, hzz⟩ : ∃ z, z = xs.getD (xs.length - 1) 0 := ⟨_, rfl⟩
          rw [← hzz] at hck
          have HZ : Hid (z = xs.getD (xs.length - 1) 0) := hzz
          clear hzz
          have hp : 1 ≤ xs.length := by omega
          by_cases hz0 : z = 0
          · have hb : (z != 0) = false := by simp [hz0]
            have HZ0 : Hid (z = 0) := hz0
            clear hz0
            go_wp2
            go_ret
            exact ⟨ret_bool (ckB_last (by omega) (HZ.out ▸ HZ0.out)).symm, rfl⟩
          · have hb : (z != 0) = true := by simp [hz0]
            go_wp2
            go_ret
            exact ⟨ret_bool (ckB_mk h16' HH.out (.inr (HZ.out ▸ hz0))).symm, rfl⟩

set_option maxHeartbeats 400000 in
theorem clockOk_spec (ao : Option Addr) (n cap : Nat) (xs : List Int) (w : World) (hn : xs.length = n) (h : Reads w ao xs) :
    Calls Try.prog 14 #[.slice ao n cap] w fun e w' => e = .returned (.bool (ckB xs)) ∧ w' = w := by
  subst hn
  have hl := h.len
  by_cases h16 : 16 < xs.length
  · go_enter Try.func14, Try.ntmps14
    go_wp2
    go_ret
    exact ⟨ret_bool (ckB_long h16).symm, rfl⟩
  · have h16' : xs.length ≤ 16 := by omega
    clear h16
    have key : ∀ ao : Option Addr, Reads w ao xs → (xs.length = 0 ∨ xs.getD (xs.length - 1) 0 ≠ 0) → Calls Try.prog 14 #[.slice ao xs.length cap] w fun e w' => e = .returned (.bool (ckB xs)) ∧ w' = w := by
      clear h ao
      intro ao h hlast
      have HL : Hid (xs.length = 0 ∨ xs.getD (xs.length - 1) 0 ≠ 0) := hlast
      have hex : xs.length = 0 ∨ ∃ b off z, 1 ≤ xs.length ∧ ao = some ⟨b, off, none⟩ ∧ w.cell? ⟨b, off + (xs.length - 1), none⟩ = some (.int .i64 z) ∧ (z == 0) = false := by
        rcases hlast with e | e
        · exact .inl e
        · by_cases h0 : xs.length = 0
          · exact .inl h0
          · obtain ⟨b, off, e1, hc⟩ := h.at_ (xs.length - 1) (by omega)
            exact .inr ⟨b, off, _, by omega, e1, hc _ (by omega), by simpa using e⟩
      clear hlast
      rcases hex with h0 | ⟨b, off, z, hp, rfl, hcl, hzz⟩
      · have hlt0 : ¬ 0 < xs.length := by omega
        have H0 : Hid (xs.length = 0) := h0
        clear h0
        go_enter Try.func14, Try.ntmps14
        go_wp2
        go_loop [3] (fun i => i = .int .i64 0) (fun i => 0)
        case atStart => exact rfl
        case round =>
          subst hrel
          go_wp2
          go_ret
          exact ⟨ret_bool (ckB_mk h16' (fun j hj => by have := H0.out; omega) HL.out).symm, rfl⟩
      · have hp' : 0 < xs.length := by omega
        go_enter Try.func14, Try.ntmps14
        go_wp2
        go_loop [3] (fun i => ∃ k : Nat, k ≤ xs.length ∧ i = .int .i64 k ∧ Hid (∀ j, j < k → inB 0 281474976710655 (xs.getD j 0) = true)) (fun i => xs.length - (intOf i).toNat)
        case atStart => exact ⟨0, Nat.zero_le _, rfl, fun j hj => by omega⟩
        case round =>
          obtain ⟨k, hk, rfl, HA⟩ := hrel
          by_cases hlt : k < xs.length
          · obtain ⟨b', off', hbo, hc⟩ := h.at_ k hlt
            simp only [Option.some.injEq, Addr.mk.injEq, and_true] at hbo
            obtain ⟨e1, e2⟩ := hbo
            have hck := hc k hlt
            rw [getD_at hlt, ← e1, ← e2] at hck
            clear hc e1 e2
            cases hin : inB 0 281474976710655 xs[k]
            · go_wp2_with (go_at_call 36; refine (l1In_any _ _ _ _).mono ?_; rintro e w' ⟨rfl, rfl⟩)
              go_ret
              exact ⟨ret_bool (ckB_bad hlt hin).symm, rfl⟩
            · go_wp2_with (go_at_call 36; refine (l1In_any _ _ _ _).mono ?_; rintro e w' ⟨rfl, rfl⟩)
              go_round
              case rel =>
                refine ⟨k + 1, by omega, by go_num, fun j hj => ?_⟩
                by_cases e : j = k
                · subst e; rw [getD_at hlt]; exact hin
                · exact HA.out j (by omega)
              case measure => simp [intOf]; omega
          · go_wp2
            go_ret
            exact ⟨ret_bool (ckB_mk h16' (fun j hj => HA.out j (by omega)) HL.out).symm, rfl⟩
    by_cases h0 : xs.length = 0
    · exact key ao h (.inl h0)
    · by_cases hz : xs.getD (xs.length - 1) 0 = 0
      · obtain ⟨b, off, rfl, hc⟩ := h.at_ (xs.length - 1) (by omega)
        have hck := hc (xs.length - 1) (by omega)
        rw [hz] at hck
        have HZ : Hid (xs.getD (xs.length - 1) 0 = 0) := hz
        clear hc key hz
        have hp : 0 < xs.length := by omega
        go_enter Try.func14, Try.ntmps14
        go_wp2
        go_ret
        exact ⟨ret_bool (ckB_last hp HZ.out).symm, rfl⟩
      · exact key ao h (.inr hz)

/-- What a list has at a place; 0 where it is not in it. -/
def ofL (xs : List Int) (g : Int) : Int := if 0 ≤ g then xs.getD g.toNat 0 else 0
/-- What a clock has at a place; 0 where it is none. -/
def tkL (xs : List Int) (g : Int) : Int := if ckB xs = true then ofL xs g else 0

theorem ofL_nat (xs : List Int) (k : Nat) : ofL xs (k : Int) = xs.getD k 0 := by simp [ofL]
theorem ofL_neg {xs : List Int} {g : Int} (h : g < 0) : ofL xs g = 0 := by rw [ofL, if_neg (by omega)]
theorem ofL_past {xs : List Int} {g : Int} (h : (xs.length : Int) ≤ g) : ofL xs g = 0 := by
  rw [ofL]; split
  · rw [List.getD_eq_getElem?_getD, List.getElem?_eq_none (by omega)]; rfl
  · rfl

theorem l1Of_any (ao : Option Addr) (n cap : Nat) (xs : List Int) (g : Int) (w : World) (hn : xs.length = n) (h : Reads w ao xs) :
    Calls Try.prog 45 #[.slice ao n cap, .int .i64 g] w fun e w' => e = .returned (.int .i64 (ofL xs g)) ∧ w' = w := by
  subst hn
  have hl := h.len
  by_cases hg : g < 0
  · go_enter Try.func45, Try.ntmps45
    go_wp2
    go_ret
    exact ⟨ret_int (ofL_neg hg).symm, rfl⟩
  · by_cases hp : (xs.length : Int) ≤ g
    · have hg' : ¬ g < 0 := by omega
      go_enter Try.func45, Try.ntmps45
      go_wp2
      go_ret
      exact ⟨ret_int (ofL_past hp).symm, rfl⟩
    · obtain ⟨k, rfl⟩ := Int.eq_ofNat_of_zero_le (show 0 ≤ g by omega)
      have hk : k < xs.length := by omega
      obtain ⟨b, off, rfl, hc⟩ := h.at_ k hk
      have hck := hc k hk
      obtain ⟨z, hz⟩ : ∃ z, z = xs.getD k 0 := ⟨_, rfl⟩
      rw [← hz] at hck
      have HZ : Hid (z = xs.getD k 0) := hz
      clear hz hc
      go_enter Try.func45, Try.ntmps45
      go_wp2
      go_ret
      exact ⟨ret_int (by rw [ofL_nat]; exact HZ.out), rfl⟩

theorem tkL_yes {xs : List Int} {g : Int} (h : ckB xs = true) : tkL xs g = ofL xs g := by rw [tkL, if_pos h]
theorem tkL_no {xs : List Int} {g : Int} (h : ckB xs = false) : tkL xs g = 0 := by rw [tkL, if_neg (by simp [h])]
theorem getD_nonneg {xs : List Int} (h : ckB xs = true) (k : Nat) : 0 ≤ xs.getD k 0 ∧ xs.getD k 0 ≤ 281474976710655 := by
  by_cases hk : k < xs.length
  · rw [getD_at hk]; exact (ckB_true h).2.1 _ (List.getElem_mem hk)
  · rw [List.getD_eq_getElem?_getD, List.getElem?_eq_none (by omega)]; exact ⟨by decide, by decide⟩
theorem getD_past {xs : List Int} {k : Nat} (h : xs.length ≤ k) : xs.getD k 0 = 0 := by
  rw [List.getD_eq_getElem?_getD, List.getElem?_eq_none h]; rfl

theorem tickOf_spec (ao : Option Addr) (n cap : Nat) (xs : List Int) (g : Int) (w : World) (hn : xs.length = n) (h : Reads w ao xs) :
    Calls Try.prog 27 #[.slice ao n cap, .int .i64 g] w fun e w' => e = .returned (.int .i64 (tkL xs g)) ∧ w' = w := by
  subst hn
  cases hk : ckB xs
  · rw [tkL_no hk]
    go_enter Try.func27, Try.ntmps27
    go_wp2_with (go_at_call 14; refine (clockOk_spec _ _ _ xs _ rfl h).mono ?_; rintro e w' ⟨rfl, rfl⟩)
    go_ret
    exact ⟨rfl, rfl⟩
  · rw [tkL_yes hk]
    go_enter Try.func27, Try.ntmps27
    go_wp2_with (first | (go_at_call 14; refine (clockOk_spec _ _ _ xs _ rfl h).mono ?_; rintro e w' ⟨rfl, rfl⟩) | (go_at_call 45; refine (l1Of_any _ _ _ xs _ _ rfl h).mono ?_; rintro e w' ⟨rfl, rfl⟩))
    go_ret
    exact ⟨rfl, rfl⟩

theorem tickOf_impl (ao : Option Addr) (n cap : Nat) (xs : List Int) (g : Int) (w : World) (hn : xs.length = n) (h : Reads w ao xs) :
    Calls Try.prog 20 #[.slice ao n cap, .int .i64 g] w fun e w' => e = .returned (.int .i64 (tkL xs g)) ∧ w' = w := by
  subst hn
  have hl := h.len
  cases hk : ckB xs
  · rw [tkL_no hk]
    go_enter Try.func20, Try.ntmps20
    go_wp2_with (go_at_call 18; refine (clockOk_impl _ _ _ xs _ rfl h).mono ?_; rintro e w' ⟨rfl, rfl⟩)
    go_ret
    exact ⟨rfl, rfl⟩
  · rw [tkL_yes hk]
    by_cases hg : g < 0
    · rw [ofL_neg hg]
      go_enter Try.func20, Try.ntmps20
      go_wp2_with (go_at_call 18; refine (clockOk_impl _ _ _ xs _ rfl h).mono ?_; rintro e w' ⟨rfl, rfl⟩)
      go_ret
      exact ⟨rfl, rfl⟩
    · by_cases hp : (xs.length : Int) ≤ g
      · rw [ofL_past hp]
        have hg' : ¬ g < 0 := by omega
        go_enter Try.func20, Try.ntmps20
        go_wp2_with (go_at_call 18; refine (clockOk_impl _ _ _ xs _ rfl h).mono ?_; rintro e w' ⟨rfl, rfl⟩)
        go_ret
        exact ⟨rfl, rfl⟩
      · obtain ⟨k, rfl⟩ := Int.eq_ofNat_of_zero_le (show 0 ≤ g by omega)
        rw [ofL_nat]
        have hkk : k < xs.length := by omega
        obtain ⟨b, off, rfl, hc⟩ := h.at_ k hkk
        have hck := hc k hkk
        obtain ⟨z, hz⟩ : ∃ z, z = xs.getD k 0 := ⟨_, rfl⟩
        rw [← hz] at hck ⊢
        clear hz hc
        go_enter Try.func20, Try.ntmps20
        go_wp2_with (go_at_call 18; refine (clockOk_impl _ _ _ xs _ rfl h).mono ?_; rintro e w' ⟨rfl, rfl⟩)
        go_ret
        exact ⟨rfl, rfl⟩

/-- Is the one clock under the other one? -/
def unB (xs ys : List Int) : Bool := ckB xs && (ckB ys && (List.range 16).all fun i => decide (xs.getD i 0 ≤ ys.getD i 0))

theorem unB_mk {xs ys : List Int} (h1 : ckB xs = true) (h2 : ckB ys = true) (h : ∀ i, i < 16 → xs.getD i 0 ≤ ys.getD i 0) : unB xs ys = true := by
  simp only [unB, h1, h2, Bool.true_and, List.all_eq_true, List.mem_range, decide_eq_true_eq]; exact h
theorem unB_not {xs ys : List Int} {i : Nat} (hi : i < 16) (h : ys.getD i 0 < xs.getD i 0) : unB xs ys = false := by
  have : ((List.range 16).all fun i => decide (xs.getD i 0 ≤ ys.getD i 0)) = false := by
    rw [Bool.eq_false_iff]; intro e; simp only [List.all_eq_true, List.mem_range, decide_eq_true_eq] at e; have := e i hi; omega
  rw [unB, this, Bool.and_false, Bool.and_false]
theorem unB_n1 {xs ys : List Int} (h : ckB xs = false) : unB xs ys = false := by rw [unB, h, Bool.false_and]
theorem unB_n2 {xs ys : List Int} (h : ckB ys = false) : unB xs ys = false := by rw [unB, h, Bool.false_and, Bool.and_false]

set_option maxHeartbeats 400000 in
theorem under_impl (ao bo : Option Addr) (n m c d : Nat) (xs ys : List Int) (w : World) (hn : xs.length = n) (hm : ys.length = m) (h : Reads w ao xs) (h' : Reads w bo ys) :
    Calls Try.prog 16 #[.slice ao n c, .slice bo m d] w fun e w' => e = .returned (.bool (unB xs ys)) ∧ w' = w := by
  subst hn hm
  have hl := h.len
  cases hk : ckB xs
  · rw [unB_n1 hk]
    go_enter Try.func16, Try.ntmps16
    go_wp2_with (go_at_call 18; refine (clockOk_impl _ _ _ xs _ rfl h).mono ?_; rintro e w' ⟨rfl, rfl⟩)
    go_ret
    exact ⟨rfl, rfl⟩
  · cases hk' : ckB ys
    · rw [unB_n2 hk']
      go_enter Try.func16, Try.ntmps16
      go_wp2_with fail
      refine (clockOk_impl _ _ _ xs _ rfl h).mono ?_
      rintro e w' ⟨rfl, rfl⟩
      go_wp2_with fail
      refine (clockOk_impl _ _ _ ys _ rfl h').mono ?_
      rintro e w' ⟨rfl, rfl⟩
      go_wp2_with fail
      go_ret
      exact ⟨rfl, rfl⟩
    · have h16 := (ckB_true hk).1
      go_enter Try.func16, Try.ntmps16
      go_wp2_with fail
      refine (clockOk_impl _ _ _ xs _ rfl h).mono ?_
      rintro e w' ⟨rfl, rfl⟩
      go_wp2_with fail
      refine (clockOk_impl _ _ _ ys _ rfl h').mono ?_
      rintro e w' ⟨rfl, rfl⟩
      go_wp2_with fail
      go_loop [17] (fun i => ∃ k : Nat, k ≤ xs.length ∧ i = .int .i64 k ∧ Hid (∀ j, j < k → xs.getD j 0 ≤ ys.getD j 0)) (fun i => xs.length - (intOf i).toNat)
      case atStart => exact ⟨0, Nat.zero_le _, rfl, fun j hj => by omega⟩
      case round =>
        obtain ⟨k, hkk, rfl, HA⟩ := hrel
        by_cases hlt : k < xs.length
        · obtain ⟨b, off, rfl, hc⟩ := h.at_ k hlt
          have hck := hc k hlt
          clear hc
          obtain ⟨z, hz⟩ : ∃ z, z = xs.getD k 0 := ⟨_, rfl⟩
          rw [← hz] at hck
          obtain ⟨y, hy⟩ : ∃ y, y = tkL ys (k : Int) := ⟨_, rfl⟩
          have q := tickOf_impl bo ys.length d ys (k : Int) w' rfl h'
          rw [← hy] at q
          have HZ : Hid (z = xs.getD k 0) := hz
          have HY : Hid (y = ys.getD k 0) := by rw [tkL_yes hk', ofL_nat] at hy; exact hy
          clear hz hy
          by_cases hgt : y < z
          · go_wp2_with (go_at_call 20; refine q.mono ?_; rintro e w' ⟨rfl, rfl⟩)
            go_ret
            exact ⟨ret_bool (unB_not (i := k) (by omega) (by rw [← HZ.out, ← HY.out]; exact hgt)).symm, rfl⟩
          · go_wp2_with (go_at_call 20; refine q.mono ?_; rintro e w' ⟨rfl, rfl⟩)
            go_round
            case rel =>
              refine ⟨k + 1, by omega, by go_num, fun j hj => ?_⟩
              by_cases e : j = k
              · subst e; rw [← HZ.out, ← HY.out]; omega
              · exact HA.out j (by omega)
            case measure => simp [intOf]; omega
        · go_wp2
          go_ret
          refine ⟨ret_bool (unB_mk hk hk' fun i hi => ?_).symm, rfl⟩
          by_cases hi' : i < xs.length
          · exact HA.out i (by omega)
          · rw [getD_past (by omega)]; exact (getD_nonneg hk' i).1

set_option maxHeartbeats 400000 in
theorem under_spec (ao bo : Option Addr) (n m c d : Nat) (xs ys : List Int) (w : World) (hn : xs.length = n) (hm : ys.length = m) (h : Reads w ao xs) (h' : Reads w bo ys) :
    Calls Try.prog 31 #[.slice ao n c, .slice bo m d] w fun e w' => e = .returned (.bool (unB xs ys)) ∧ w' = w := by
  subst hn hm
  cases hk : ckB xs
  · rw [unB_n1 hk]
    go_enter Try.func31, Try.ntmps31
    go_wp2_with (go_at_call 14; refine (clockOk_spec _ _ _ xs _ rfl h).mono ?_; rintro e w' ⟨rfl, rfl⟩)
    go_ret
    exact ⟨rfl, rfl⟩
  · cases hk' : ckB ys
    · rw [unB_n2 hk']
      go_enter Try.func31, Try.ntmps31
      go_wp2_with fail
      refine (clockOk_spec _ _ _ xs _ rfl h).mono ?_
      rintro e w' ⟨rfl, rfl⟩
      go_wp2_with fail
      refine (clockOk_spec _ _ _ ys _ rfl h').mono ?_
      rintro e w' ⟨rfl, rfl⟩
      go_wp2_with fail
      go_ret
      exact ⟨rfl, rfl⟩
    · go_enter Try.func31, Try.ntmps31
      go_wp2_with fail
      refine (clockOk_spec _ _ _ xs _ rfl h).mono ?_
      rintro e w' ⟨rfl, rfl⟩
      go_wp2_with fail
      refine (clockOk_spec _ _ _ ys _ rfl h').mono ?_
      rintro e w' ⟨rfl, rfl⟩
      go_wp2_with fail
      go_loop [5] (fun i => ∃ k : Nat, k ≤ 16 ∧ i = .int .i64 k ∧ Hid (∀ j, j < k → xs.getD j 0 ≤ ys.getD j 0)) (fun i => 16 - (intOf i).toNat)
      case atStart => exact ⟨0, by omega, rfl, fun j hj => by omega⟩
      case round =>
        obtain ⟨k, hkk, rfl, HA⟩ := hrel
        by_cases hlt : k < 16
        · obtain ⟨z, hz⟩ : ∃ z, z = xs.getD k 0 := ⟨_, rfl⟩
          obtain ⟨y, hy⟩ : ∃ y, y = ys.getD k 0 := ⟨_, rfl⟩
          have q1 := l1Of_any ao xs.length c xs (k : Int) w' rfl h
          have q2 := l1Of_any bo ys.length d ys (k : Int) w' rfl h'
          rw [ofL_nat, ← hz] at q1
          rw [ofL_nat, ← hy] at q2
          have HZ : Hid (z = xs.getD k 0) := hz
          have HY : Hid (y = ys.getD k 0) := hy
          clear hz hy
          by_cases hgt : y < z
          · go_wp2_with fail
            refine q1.mono ?_
            rintro e w' ⟨rfl, rfl⟩
            go_wp2_with fail
            refine q2.mono ?_
            rintro e w' ⟨rfl, rfl⟩
            go_wp2_with fail
            go_ret
            exact ⟨ret_bool (unB_not hlt (by rw [← HZ.out, ← HY.out]; exact hgt)).symm, rfl⟩
          · go_wp2_with fail
            refine q1.mono ?_
            rintro e w' ⟨rfl, rfl⟩
            go_wp2_with fail
            refine q2.mono ?_
            rintro e w' ⟨rfl, rfl⟩
            go_wp2_with fail
            go_round
            case rel =>
              refine ⟨k + 1, by omega, by go_num, fun j hj => ?_⟩
              by_cases e : j = k
              · subst e; rw [← HZ.out, ← HY.out]; omega
              · exact HA.out j (by omega)
            case measure => simp [intOf]; omega
        · go_wp2
          go_ret
          exact ⟨ret_bool (unB_mk hk hk' fun i hi => HA.out i (by omega)).symm, rfl⟩
end Go.Proofs.Yteoalolkjfeeaaa
