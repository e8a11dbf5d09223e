/-
  Periods: the program's exported functions.
-/
import Derived.Test.YtpmloeneffolpaaPrd2
namespace Go.Proofs.Ytpmloeneffolpaa
open Go.RowKit

set_option maxHeartbeats 2000000 in
theorem cfOk_impl (c : Cf) (W : World) :
    Calls Try.prog 14 #[.agg #[.int .i64 c.r, .int .i64 c.s, .int .i64 c.b, .int .i64 c.m, .int .i64 c.q, .int .i64 c.c, .int .i64 c.w]] W fun e w' => e = .returned (.bool (cfB c)) ∧ Fr W w' := by
  have cL := fun u => limited_any c u
  have cA := fun u => lcOk_any c u
  obtain ⟨r, s, b, m, q, c, w⟩ := c
  generalize cfB ⟨r, s, b, m, q, c, w⟩ = B at cA ⊢
  simp only at cL cA ⊢
  have f := Fr.alloc W (.cells #[.int .i64 r, .int .i64 s, .int .i64 b, .int .i64 m, .int .i64 q, .int .i64 c, .int .i64 w] 25)
  go_enter Try.func14, Try.ntmps14
  go_wp2_with fail
  refine (cL _).mono ?_
  rintro e u1 ⟨rfl, f1⟩
  go_wp2_with fail
  refine (cA _).mono ?_
  rintro e u2 ⟨rfl, f2⟩
  go_wp2_with fail
  go_ret
  exact ⟨rfl, (f.trans f1).trans f2⟩

set_option maxHeartbeats 2000000 in
theorem dwOk_impl (ao : Option Addr) (n cap : Nat) (xs : List Int) (W : World) (hn : xs.length = n) (h : Reads W ao xs) :
    Calls Try.prog 15 #[.slice ao n cap] W fun e w' => e = .returned (.bool (dwB xs)) ∧ Fr W w' := by
  go_enter Try.func15, Try.ntmps15
  go_wp2_with fail
  refine (limits_any _).mono ?_
  rintro e u1 ⟨rfl, f1⟩
  go_wp2_with fail
  refine (admitDraws_any ao n cap xs u1 hn (h.fr f1)).mono ?_
  rintro e u2 ⟨rfl, f2⟩
  go_wp2_with fail
  go_ret
  exact ⟨rfl, f1.trans f2⟩

set_option maxRecDepth 20000 in
set_option maxHeartbeats 2000000 in
theorem onAt_impl (c : Cf) (ao : Option Addr) (N cap : Nat) (xs : List Int) (n : Int) (W : World) (hn : xs.length = N) (h : Reads W ao xs) (hI : n ≤ 9223372036854775807) :
    Calls Try.prog 12 #[.agg #[.int .i64 c.r, .int .i64 c.s, .int .i64 c.b, .int .i64 c.m, .int .i64 c.q, .int .i64 c.c, .int .i64 c.w], .slice ao N cap, .int .i64 n] W fun e w' => e = .returned (.bool (onAtB c xs n)) ∧ Fr W w' := by
  have cL := fun u => limited_any c u
  have cS := fun u (k : Fr W u) => suits_any c ao N cap xs u hn (h.fr k)
  have cN : Hid (∀ u, Fr W u → stB c xs = true → 0 ≤ n → Calls Try.prog 31 #[.agg #[.int .i64 0, .int .i64 1, .int .i64 1, .int .i64 1, .int .i64 0, .int .i64 1, .int .i64 1, .int .i64 1000000, .int .i64 1000, .int .i64 1000, .int .i64 100000, .int .i64 100000, .int .i64 512, .int .i64 64, .int .i64 c.r, .int .i64 c.s, .int .i64 c.b, .int .i64 c.m, .int .i64 c.q, .int .i64 c.c, .int .i64 c.w], .slice ao N cap, .int .i64 n] u fun e w' => e = .returned (.bool (onB c xs n)) ∧ Fr u w') := fun u k hs h0 => by
    have h1 : cfB c = true := by simp only [stB, Bool.and_eq_true] at hs; exact hs.1
    have h2 : dwB xs = true := by simp only [stB, Bool.and_eq_true] at hs; exact hs.2
    exact on_any c ao N cap xs n u hn (hn ▸ dwB_len h2) (h.fr k) (cfB_in h1).2.1.1 h0 hI
  have hno := fun hq => onAtB_no (c := c) (xs := xs) (n := n) hq
  have hyes := fun h0 hq => onAtB_yes (c := c) (xs := xs) (n := n) h0 hq
  clear h
  obtain ⟨r, s, b, m, q, c, w⟩ := c
  generalize onAtB ⟨r, s, b, m, q, c, w⟩ xs n = G at hno hyes ⊢
  generalize onB ⟨r, s, b, m, q, c, w⟩ xs n = B at cN hyes
  generalize stB ⟨r, s, b, m, q, c, w⟩ xs = S at cS cN hno hyes
  simp only at cL cS cN ⊢
  have f := Fr.alloc W (.cells #[.int .i64 r, .int .i64 s, .int .i64 b, .int .i64 m, .int .i64 q, .int .i64 c, .int .i64 w] 25)
  by_cases h0 : 0 ≤ n
  · cases S
    · have e : G = false := hno (.inr rfl)
      subst e
      clear hno hyes cN
      go_enter Try.func12, Try.ntmps12
      go_wp2_with fail
      refine (cL _).mono ?_
      rintro e u1 ⟨rfl, f1⟩
      replace f1 := f.trans f1
      clear f
      go_wp2_with (first | (refine store_lc (c := ⟨r, s, b, m, q, c, w⟩) rfl (.tmp 7) (.tmp 9) rfl rfl rfl (heap_alloc_new _ _) rfl ?_; intro u2 kb g2) | (refine load_lc (c := ⟨r, s, b, m, q, c, w⟩) rfl (.tmp 7) rfl rfl kb ?_))
      have f2 : Fr W u2 := (f1.trans (Fr.alloc _ _)).then g2 (by intro j hj; cases hj; exact f1.size)
      refine (cS _ f2).mono ?_
      rintro e u3 ⟨rfl, f3⟩
      go_wp2_with fail
      go_ret
      exact ⟨rfl, f2.trans f3⟩
    · have HN := fun u k => cN.out u k rfl h0
      have e : G = B := hyes h0 rfl
      subst e
      clear hno hyes
      go_enter Try.func12, Try.ntmps12
      go_wp2_with fail
      refine (cL _).mono ?_
      rintro e u1 ⟨rfl, f1⟩
      replace f1 := f.trans f1
      clear f
      go_wp2_with (first | (refine store_lc (c := ⟨r, s, b, m, q, c, w⟩) rfl (.tmp 7) (.tmp 9) rfl rfl rfl (heap_alloc_new _ _) rfl ?_; intro u2 kb g2) | (refine load_lc (c := ⟨r, s, b, m, q, c, w⟩) rfl (.tmp 7) rfl rfl kb ?_))
      have f2 : Fr W u2 := (f1.trans (Fr.alloc _ _)).then g2 (by intro j hj; cases hj; exact f1.size)
      refine (cS _ f2).mono ?_
      rintro e u3 ⟨rfl, f3⟩
      have kb := kb.fr f3
      go_wp2_with (refine load_lc (c := ⟨r, s, b, m, q, c, w⟩) rfl (.tmp 7) rfl rfl kb ?_)
      refine (HN _ (f2.trans f3)).mono ?_
      rintro e u4 ⟨rfl, f4⟩
      go_wp2_with fail
      go_ret
      exact ⟨rfl, (f2.trans f3).trans f4⟩
  · have e : G = false := hno (.inl (by omega))
    subst e
    clear hno hyes cN
    go_enter Try.func12, Try.ntmps12
    go_wp2_with fail
    refine (cL _).mono ?_
    rintro e u1 ⟨rfl, f1⟩
    replace f1 := f.trans f1
    clear f
    go_wp2_with (refine store_lc (c := ⟨r, s, b, m, q, c, w⟩) rfl (.tmp 7) (.tmp 9) rfl rfl rfl (heap_alloc_new _ _) rfl ?_; intro u2 kb g2)
    have f2 : Fr W u2 := (f1.trans (Fr.alloc _ _)).then g2 (by intro j hj; cases hj; exact f1.size)
    go_ret
    exact ⟨rfl, f2⟩

set_option maxRecDepth 20000 in
set_option maxHeartbeats 2000000 in
theorem opAt_impl (c : Cf) (ao : Option Addr) (N cap : Nat) (xs : List Int) (n : Int) (W : World) (hn : xs.length = N) (h : Reads W ao xs) (hI : n ≤ 9223372036854775807) :
    Calls Try.prog 13 #[.agg #[.int .i64 c.r, .int .i64 c.s, .int .i64 c.b, .int .i64 c.m, .int .i64 c.q, .int .i64 c.c, .int .i64 c.w], .slice ao N cap, .int .i64 n] W fun e w' => e = .returned (.bool (opAtB c xs n)) ∧ Fr W w' := by
  have cL := fun u => limited_any c u
  have cS := fun u (k : Fr W u) => suits_any c ao N cap xs u hn (h.fr k)
  have cN : Hid (∀ u, Fr W u → stB c xs = true → 0 ≤ n → Calls Try.prog 32 #[.agg #[.int .i64 0, .int .i64 1, .int .i64 1, .int .i64 1, .int .i64 0, .int .i64 1, .int .i64 1, .int .i64 1000000, .int .i64 1000, .int .i64 1000, .int .i64 100000, .int .i64 100000, .int .i64 512, .int .i64 64, .int .i64 c.r, .int .i64 c.s, .int .i64 c.b, .int .i64 c.m, .int .i64 c.q, .int .i64 c.c, .int .i64 c.w], .slice ao N cap, .int .i64 n] u fun e w' => e = .returned (.bool (opB c xs n)) ∧ Fr u w') := fun u k hs h0 => by
    have h1 : cfB c = true := by simp only [stB, Bool.and_eq_true] at hs; exact hs.1
    have h2 : dwB xs = true := by simp only [stB, Bool.and_eq_true] at hs; exact hs.2
    exact opens_any c ao N cap xs n u hn (hn ▸ dwB_len h2) (h.fr k) (cfB_in h1).2.1.1 h0 hI
  have hno := fun hq => opAtB_no (c := c) (xs := xs) (n := n) hq
  have hyes := fun h0 hq => opAtB_yes (c := c) (xs := xs) (n := n) h0 hq
  clear h
  obtain ⟨r, s, b, m, q, c, w⟩ := c
  generalize opAtB ⟨r, s, b, m, q, c, w⟩ xs n = G at hno hyes ⊢
  generalize opB ⟨r, s, b, m, q, c, w⟩ xs n = B at cN hyes
  generalize stB ⟨r, s, b, m, q, c, w⟩ xs = S at cS cN hno hyes
  simp only at cL cS cN ⊢
  have f := Fr.alloc W (.cells #[.int .i64 r, .int .i64 s, .int .i64 b, .int .i64 m, .int .i64 q, .int .i64 c, .int .i64 w] 25)
  by_cases h0 : 0 ≤ n
  · cases S
    · have e : G = false := hno (.inr rfl)
      subst e
      clear hno hyes cN
      go_enter Try.func13, Try.ntmps13
      go_wp2_with fail
      refine (cL _).mono ?_
      rintro e u1 ⟨rfl, f1⟩
      replace f1 := f.trans f1
      clear f
      go_wp2_with (first | (refine store_lc (c := ⟨r, s, b, m, q, c, w⟩) rfl (.tmp 7) (.tmp 9) rfl rfl rfl (heap_alloc_new _ _) rfl ?_; intro u2 kb g2) | (refine load_lc (c := ⟨r, s, b, m, q, c, w⟩) rfl (.tmp 7) rfl rfl kb ?_))
      have f2 : Fr W u2 := (f1.trans (Fr.alloc _ _)).then g2 (by intro j hj; cases hj; exact f1.size)
      refine (cS _ f2).mono ?_
      rintro e u3 ⟨rfl, f3⟩
      go_wp2_with fail
      go_ret
      exact ⟨rfl, f2.trans f3⟩
    · have HN := fun u k => cN.out u k rfl h0
      have e : G = B := hyes h0 rfl
      subst e
      clear hno hyes
      go_enter Try.func13, Try.ntmps13
      go_wp2_with fail
      refine (cL _).mono ?_
      rintro e u1 ⟨rfl, f1⟩
      replace f1 := f.trans f1
      clear f
      go_wp2_with (first | (refine store_lc (c := ⟨r, s, b, m, q, c, w⟩) rfl (.tmp 7) (.tmp 9) rfl rfl rfl (heap_alloc_new _ _) rfl ?_; intro u2 kb g2) | (refine load_lc (c := ⟨r, s, b, m, q, c, w⟩) rfl (.tmp 7) rfl rfl kb ?_))
      have f2 : Fr W u2 := (f1.trans (Fr.alloc _ _)).then g2 (by intro j hj; cases hj; exact f1.size)
      refine (cS _ f2).mono ?_
      rintro e u3 ⟨rfl, f3⟩
      have kb := kb.fr f3
      go_wp2_with (refine load_lc (c := ⟨r, s, b, m, q, c, w⟩) rfl (.tmp 7) rfl rfl kb ?_)
      refine (HN _ (f2.trans f3)).mono ?_
      rintro e u4 ⟨rfl, f4⟩
      go_wp2_with fail
      go_ret
      exact ⟨rfl, (f2.trans f3).trans f4⟩
  · have e : G = false := hno (.inl (by omega))
    subst e
    clear hno hyes cN
    go_enter Try.func13, Try.ntmps13
    go_wp2_with fail
    refine (cL _).mono ?_
    rintro e u1 ⟨rfl, f1⟩
    replace f1 := f.trans f1
    clear f
    go_wp2_with (refine store_lc (c := ⟨r, s, b, m, q, c, w⟩) rfl (.tmp 7) (.tmp 9) rfl rfl rfl (heap_alloc_new _ _) rfl ?_; intro u2 kb g2)
    have f2 : Fr W u2 := (f1.trans (Fr.alloc _ _)).then g2 (by intro j hj; cases hj; exact f1.size)
    go_ret
    exact ⟨rfl, f2⟩
end Go.Proofs.Ytpmloeneffolpaa
