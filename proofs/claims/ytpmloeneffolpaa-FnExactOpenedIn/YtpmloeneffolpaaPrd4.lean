/-
  Periods: how many are opened: the program's OpenedIn.
-/
import Derived.Test.YtpmloeneffolpaaPrd3
namespace Go.Proofs.Ytpmloeneffolpaa
open Go.RowKit

theorem opV_no {c : Cf} {xs : List Int} {n : Int} (h : stB c xs = false ∨ inB 0 300 n = false) : opV c xs n = -1 := by
  unfold opV
  rw [if_neg]
  rcases h with h | h <;> simp [h]
theorem opV_yes {c : Cf} {xs : List Int} {n : Int} (h : stB c xs = true) (k : inB 0 300 n = true) : opV c xs n = opN c xs n.toNat := by
  unfold opV
  rw [if_pos (by simp [h, k])]

set_option maxRecDepth 20000 in
set_option maxHeartbeats 4000000 in
theorem opV_impl (c : Cf) (ao : Option Addr) (N cap : Nat) (xs : List Int) (n : Int) (W : World) (hn : xs.length = N) (h : Reads W ao xs) :
    Calls Try.prog 19 #[.agg #[.int .i64 c.r, .int .i64 c.s, .int .i64 c.b, .int .i64 c.m, .int .i64 c.q, .int .i64 c.c, .int .i64 c.w], .slice ao N cap, .int .i64 n] W fun e w' => e = .returned (.int .i64 (opV c xs n)) ∧ Fr W w' := by
  have cL := fun u => limited_any c u
  have cS := fun u (k : Fr W u) => suits_any c ao N cap xs u hn (h.fr k)
  have cW := fun u => within_any n 0 300 u
  have cN : Hid (∀ u (i : Nat), Fr W u → stB c xs = true → i ≤ 300 → Calls Try.prog 32 #[.agg #[.int .i64 0, .int .i64 1, .int .i64 1, .int .i64 1, .int .i64 0, .int .i64 1, .int .i64 1, .int .i64 1000000, .int .i64 1000, .int .i64 1000, .int .i64 100000, .int .i64 100000, .int .i64 512, .int .i64 64, .int .i64 c.r, .int .i64 c.s, .int .i64 c.b, .int .i64 c.m, .int .i64 c.q, .int .i64 c.c, .int .i64 c.w], .slice ao N cap, .int .i64 (i : Int)] u fun e w' => e = .returned (.bool (opB c xs (i : Int))) ∧ Fr u w') := fun u i k hs h0 => by
    have h1 : cfB c = true := by simp only [stB, Bool.and_eq_true] at hs; exact hs.1
    have h2 : dwB xs = true := by simp only [stB, Bool.and_eq_true] at hs; exact hs.2
    exact opens_any c ao N cap xs (i : Int) u hn (hn ▸ dwB_len h2) (h.fr k) (cfB_in h1).2.1.1 (by omega) (by omega)
  have hno := fun hq => opV_no (c := c) (xs := xs) (n := n) hq
  have hyes := fun h0 hq => opV_yes (c := c) (xs := xs) (n := n) h0 hq
  have HZ : Hid (∀ k : Nat, opN c xs (k + 1) = opN c xs k + if opB c xs (k : Int) then 1 else 0) := fun k => rfl
  have HZ0 : Hid (opN c xs 0 = 0) := rfl
  have HZB : Hid (∀ k : Nat, 0 ≤ opN c xs k ∧ opN c xs k ≤ k) := fun k => opN_in c xs k
  clear h
  obtain ⟨r, s, b, m, q, c, w⟩ := c
  generalize opV ⟨r, s, b, m, q, c, w⟩ xs n = G at hno hyes ⊢
  generalize opN ⟨r, s, b, m, q, c, w⟩ xs = Z at HZ HZ0 HZB hyes
  generalize opB ⟨r, s, b, m, q, c, w⟩ xs = B at cN HZ
  generalize stB ⟨r, s, b, m, q, c, w⟩ xs = S at cS cN hno hyes
  generalize hI : inB 0 300 n = I at cW hno hyes
  simp only at cL cS cN ⊢
  have f := Fr.alloc W (.cells #[.int .i64 r, .int .i64 s, .int .i64 b, .int .i64 m, .int .i64 q, .int .i64 c, .int .i64 w] 25)
  cases S
  · have e : G = -1 := hno (.inl rfl)
    subst e
    clear hno hyes cN
    go_enter Try.func19, Try.ntmps19
    go_wp2_with fail
    refine (cL _).mono ?_
    rintro e u1 ⟨rfl, f1⟩
    replace f1 := f.trans f1
    clear f
    go_wp2_with (first | (refine store_lc (c := ⟨r, s, b, m, q, c, w⟩) rfl (.tmp 7) (.tmp 11) rfl rfl rfl (heap_alloc_new _ _) rfl ?_; intro u2 kb g2) | (refine load_lc (c := ⟨r, s, b, m, q, c, w⟩) rfl (.tmp 7) rfl rfl kb ?_))
    have f2 : Fr W u2 := (f1.trans (Fr.alloc _ _)).then g2 (by intro j hj; cases hj; exact f1.size)
    refine (cS _ f2).mono ?_
    rintro e u3 ⟨rfl, f3⟩
    go_wp2_with fail
    go_ret
    exact ⟨rfl, f2.trans f3⟩
  cases I
  · have e : G = -1 := hno (.inr rfl)
    subst e
    clear hno hyes cN
    go_enter Try.func19, Try.ntmps19
    go_wp2_with fail
    refine (cL _).mono ?_
    rintro e u1 ⟨rfl, f1⟩
    replace f1 := f.trans f1
    clear f
    go_wp2_with (first | (refine store_lc (c := ⟨r, s, b, m, q, c, w⟩) rfl (.tmp 7) (.tmp 11) rfl rfl rfl (heap_alloc_new _ _) rfl ?_; intro u2 kb g2) | (refine load_lc (c := ⟨r, s, b, m, q, c, w⟩) rfl (.tmp 7) rfl rfl kb ?_))
    have f2 : Fr W u2 := (f1.trans (Fr.alloc _ _)).then g2 (by intro j hj; cases hj; exact f1.size)
    refine (cS _ f2).mono ?_
    rintro e u3 ⟨rfl, f3⟩
    go_wp2_with fail
    refine (cW _).mono ?_
    rintro e u4 ⟨rfl, rfl⟩
    go_wp2_with fail
    go_ret
    exact ⟨rfl, f2.trans f3⟩
  have hI := inB_true hI
  obtain ⟨K, rfl⟩ : ∃ K : Nat, n = (K : Int) := ⟨n.toNat, by omega⟩
  have hK : K ≤ 300 := by omega
  have HN := fun u i k hi => cN.out u i k rfl hi
  have e : G = Z K := by have := hyes rfl rfl; rwa [Int.toNat_natCast] at this
  subst e
  clear hno hyes hI cN
  go_enter Try.func19, Try.ntmps19
  go_wp2_with fail
  refine (cL _).mono ?_
  rintro e u1 ⟨rfl, f1⟩
  replace f1 := f.trans f1
  clear f
  go_wp2_with (first | (refine store_lc (c := ⟨r, s, b, m, q, c, w⟩) rfl (.tmp 7) (.tmp 11) rfl rfl rfl (heap_alloc_new _ _) rfl ?_; intro u2 kb g2) | (refine load_lc (c := ⟨r, s, b, m, q, c, w⟩) rfl (.tmp 7) rfl rfl kb ?_))
  have f2 : Fr W u2 := (f1.trans (Fr.alloc _ _)).then g2 (by intro j hj; cases hj; exact f1.size)
  refine (cS _ f2).mono ?_
  rintro e u3 ⟨rfl, f3⟩
  go_wp2_with fail
  refine (cW _).mono ?_
  rintro e V ⟨rfl, rfl⟩
  have kb := kb.fr f3
  have fV := f2.trans f3
  have HQ : Hid (∀ u, Fr V u → LcZ u u1.heap.size #[.int .i64 0, .int .i64 1, .int .i64 1, .int .i64 1, .int .i64 0, .int .i64 1, .int .i64 1, .int .i64 1000000, .int .i64 1000, .int .i64 1000, .int .i64 100000, .int .i64 100000, .int .i64 512, .int .i64 64, .int .i64 r, .int .i64 s, .int .i64 b, .int .i64 m, .int .i64 q, .int .i64 c, .int .i64 w]) := fun u k => kb.fr k
  clear kb cS cL cW g2 f2 f3
  go_wp2_with fail
  go_loopw [8, 22] (fun o i wr => ∃ k : Nat, k ≤ K ∧ o = .int .i64 (Z k) ∧ i = .int .i64 k ∧ Fr V wr) (fun _ i _ => K - (intOf i).toNat)
  case atStart => exact ⟨0, Nat.zero_le _, by rw [HZ0.out], rfl, Fr.refl _⟩
  case round =>
    obtain ⟨k, hk, rfl, rfl, hF⟩ := hrel
    by_cases hlt : k < K
    · have kb := HQ.out _ hF
      have cO := HN wr k (fV.trans hF) (by omega)
      have hz := HZ.out k
      have hb := HZB.out k
      obtain ⟨z, ez⟩ : ∃ z, z = Z k := ⟨_, rfl⟩
      rw [← ez] at hz hb ⊢
      clear ez
      cases hB : B (k : Int)
      · rw [hB] at cO hz
        have hz : Z (k + 1) = z := by simpa using hz
        have HE : Hid (Z (k + 1) = z) := hz
        clear hz hB
        go_wp2_with (refine load_lc (c := ⟨r, s, b, m, q, c, w⟩) rfl (.tmp 7) rfl rfl kb ?_)
        refine cO.mono ?_
        rintro e x ⟨rfl, fx⟩
        go_wp2_with fail
        go_roundw
        case rel => exact ⟨k + 1, by omega, by rw [HE.out], by go_num, hF.trans fx⟩
        case measure => simp [intOf]; omega
      · rw [hB] at cO hz
        have hz : Z (k + 1) = z + 1 := by simpa using hz
        have HE : Hid (Z (k + 1) = z + 1) := hz
        clear hz hB
        go_wp2_with (refine load_lc (c := ⟨r, s, b, m, q, c, w⟩) rfl (.tmp 7) rfl rfl kb ?_)
        refine cO.mono ?_
        rintro e x ⟨rfl, fx⟩
        go_wp2_with fail
        go_roundw
        case rel => exact ⟨k + 1, by omega, by rw [HE.out], by go_num, hF.trans fx⟩
        case measure => simp [intOf]; omega
    · have e : k = K := by omega
      subst e
      go_wp2
      go_ret
      exact ⟨rfl, fV.trans hF⟩
end Go.Proofs.Ytpmloeneffolpaa
