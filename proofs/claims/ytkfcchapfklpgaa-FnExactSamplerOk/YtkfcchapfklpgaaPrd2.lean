/-
  Periods: what is on, what opens: of the program and of its specification.
-/
import Derived.Test.YtkfcchapfklpgaaPrd
import Derived.BigQuiet
namespace Go.Proofs.Ytkfcchapfklpgaa
open Go.RowKit

/-- Is the event at n on? -/
def onB (c : Cf) (xs : List Int) (n : Int) : Bool := decide (n / c.s < (xs.length : Int)) && decide (xs.getD (n / c.s).toNat 0 < c.r)
/-- Does it open a period? -/
def opB (c : Cf) (xs : List Int) (n : Int) : Bool := onB c xs n && decide (n % c.s = 0)
def stB (c : Cf) (xs : List Int) : Bool := cfB c && dwB xs
def onAtB (c : Cf) (xs : List Int) (n : Int) : Bool := decide (0 ≤ n) && stB c xs && onB c xs n
def opAtB (c : Cf) (xs : List Int) (n : Int) : Bool := decide (0 ≤ n) && stB c xs && opB c xs n
/-- How many open below k. -/
def opN (c : Cf) (xs : List Int) : Nat → Int
  | 0 => 0
  | k + 1 => opN c xs k + if opB c xs (k : Int) then 1 else 0
def opV (c : Cf) (xs : List Int) (n : Int) : Int := if stB c xs && inB 0 300 n then opN c xs n.toNat else -1
theorem opN_in (c : Cf) (xs : List Int) (k : Nat) : 0 ≤ opN c xs k ∧ opN c xs k ≤ k := by
  induction k with
  | zero => simp [opN]
  | succ k ih => unfold opN; split <;> omega

theorem onAtB_no {c : Cf} {xs : List Int} {n : Int} (h : n < 0 ∨ stB c xs = false) : onAtB c xs n = false := by
  rcases h with h | h
  · have : decide (0 ≤ n) = false := decide_eq_false (by omega)
    simp [onAtB, this]
  · simp [onAtB, h]
theorem opAtB_no {c : Cf} {xs : List Int} {n : Int} (h : n < 0 ∨ stB c xs = false) : opAtB c xs n = false := by
  rcases h with h | h
  · have : decide (0 ≤ n) = false := decide_eq_false (by omega)
    simp [opAtB, this]
  · simp [opAtB, h]
theorem onAtB_yes {c : Cf} {xs : List Int} {n : Int} (h : 0 ≤ n) (k : stB c xs = true) : onAtB c xs n = onB c xs n := by simp [onAtB, h, k]
theorem opAtB_yes {c : Cf} {xs : List Int} {n : Int} (h : 0 ≤ n) (k : stB c xs = true) : opAtB c xs n = opB c xs n := by simp [opAtB, h, k]
theorem opAtB_on {c : Cf} {xs : List Int} {n : Int} : opAtB c xs n = (onAtB c xs n && decide (n % c.s = 0)) := by
  simp only [opAtB, onAtB, opB, Bool.and_assoc]

/-- A whole limited config is read. -/
theorem load_lc {ops : Array Oper} {rest : List Oper} {o : Oper} {a : Act} {w : World} {Q : Exit → Act → World → Prop} {b : Nat} {c : Cf} (hw : Region.wanted o (yielded ops a.tmps) = true) (x : Operand) (ho : o.op = .load 71 x)
    (hx : a.eval x = .pointer (some ⟨b, 0, none⟩)) (h : LcZ w b #[.int .i64 0, .int .i64 1, .int .i64 1, .int .i64 1, .int .i64 0, .int .i64 1, .int .i64 1, .int .i64 1000000, .int .i64 1000, .int .i64 1000, .int .i64 100000, .int .i64 100000, .int .i64 512, .int .i64 64, .int .i64 c.r, .int .i64 c.s, .int .i64 c.b, .int .i64 c.m, .int .i64 c.q, .int .i64 c.c, .int .i64 c.w]) (k : wpList Try.prog ops Q rest (a.put o.dst (.agg #[.int .i64 0, .int .i64 1, .int .i64 1, .int .i64 1, .int .i64 0, .int .i64 1, .int .i64 1, .int .i64 1000000, .int .i64 1000, .int .i64 1000, .int .i64 100000, .int .i64 100000, .int .i64 512, .int .i64 64, .int .i64 c.r, .int .i64 c.s, .int .i64 c.b, .int .i64 c.m, .int .i64 c.q, .int .i64 c.c, .int .i64 c.w])) w) : wpList Try.prog ops Q (o :: rest) a w := by
  refine wpList_step fun K hK => ?_
  rw [if_pos hw]
  have hr := run_loadVar_row (P := Try.prog) w b 71 71 #[.int .i64 0, .int .i64 1, .int .i64 1, .int .i64 1, .int .i64 0, .int .i64 1, .int .i64 1, .int .i64 1000000, .int .i64 1000, .int .i64 1000, .int .i64 100000, .int .i64 100000, .int .i64 512, .int .i64 64, .int .i64 c.r, .int .i64 c.s, .int .i64 c.b, .int .i64 c.m, .int .i64 c.q, .int .i64 c.c, .int .i64 c.w] (0, 0) _ h Try.underlying71 rfl (by kernel_rfl)
  unfold Oper.wp execOp
  simp only [ho, hx, Instr.loadAt, Instr.sureAddr, Sem.run_bind, Sem.run_pure, Result.andThen_ok, hr]
  exact hK _ _ k

set_option maxRecDepth 20000 in
set_option maxHeartbeats 2000000 in
theorem suits_any (c : Cf) (ao : Option Addr) (n cap : Nat) (xs : List Int) (W : World) (hn : xs.length = n) (h : Reads W ao xs) :
    Calls Try.prog 41 #[.agg #[.int .i64 0, .int .i64 1, .int .i64 1, .int .i64 1, .int .i64 0, .int .i64 1, .int .i64 1, .int .i64 1000000, .int .i64 1000, .int .i64 1000, .int .i64 100000, .int .i64 100000, .int .i64 512, .int .i64 64, .int .i64 c.r, .int .i64 c.s, .int .i64 c.b, .int .i64 c.m, .int .i64 c.q, .int .i64 c.c, .int .i64 c.w], .slice ao n cap] W fun e w' => e = .returned (.bool (stB c xs)) ∧ Fr W w' := by
  have cA := fun u => lcOk_any c u
  have cD := fun u (k : Fr W u) => admitDraws_any ao n cap xs u hn (h.fr k)
  obtain ⟨r, s, b, m, q, c, w⟩ := c
  unfold stB
  generalize cfB ⟨r, s, b, m, q, c, w⟩ = B at cA ⊢
  generalize dwB xs = D at cD ⊢
  simp only at cA ⊢
  have kb : LcZ (W.alloc (.cells #[.int .i64 0, .int .i64 1, .int .i64 1, .int .i64 1, .int .i64 0, .int .i64 1, .int .i64 1, .int .i64 1000000, .int .i64 1000, .int .i64 1000, .int .i64 100000, .int .i64 100000, .int .i64 512, .int .i64 64, .int .i64 r, .int .i64 s, .int .i64 b, .int .i64 m, .int .i64 q, .int .i64 c, .int .i64 w] 71)) W.heap.size #[.int .i64 0, .int .i64 1, .int .i64 1, .int .i64 1, .int .i64 0, .int .i64 1, .int .i64 1, .int .i64 1000000, .int .i64 1000, .int .i64 1000, .int .i64 100000, .int .i64 100000, .int .i64 512, .int .i64 64, .int .i64 r, .int .i64 s, .int .i64 b, .int .i64 m, .int .i64 q, .int .i64 c, .int .i64 w] := heap_alloc_new W _
  have f := Fr.alloc W (.cells #[.int .i64 0, .int .i64 1, .int .i64 1, .int .i64 1, .int .i64 0, .int .i64 1, .int .i64 1, .int .i64 1000000, .int .i64 1000, .int .i64 1000, .int .i64 100000, .int .i64 100000, .int .i64 512, .int .i64 64, .int .i64 r, .int .i64 s, .int .i64 b, .int .i64 m, .int .i64 q, .int .i64 c, .int .i64 w] 71)
  have HQ : Hid (∀ u, Fr (W.alloc (.cells #[.int .i64 0, .int .i64 1, .int .i64 1, .int .i64 1, .int .i64 0, .int .i64 1, .int .i64 1, .int .i64 1000000, .int .i64 1000, .int .i64 1000, .int .i64 100000, .int .i64 100000, .int .i64 512, .int .i64 64, .int .i64 r, .int .i64 s, .int .i64 b, .int .i64 m, .int .i64 q, .int .i64 c, .int .i64 w] 71)) u → LcZ u W.heap.size #[.int .i64 0, .int .i64 1, .int .i64 1, .int .i64 1, .int .i64 0, .int .i64 1, .int .i64 1, .int .i64 1000000, .int .i64 1000, .int .i64 1000, .int .i64 100000, .int .i64 100000, .int .i64 512, .int .i64 64, .int .i64 r, .int .i64 s, .int .i64 b, .int .i64 m, .int .i64 q, .int .i64 c, .int .i64 w]) := fun u k => kb.fr k
  go_enter Try.func41, Try.ntmps41
  go_wp2_with (refine load_lc (c := ⟨r, s, b, m, q, c, w⟩) rfl (.tmp 2) rfl rfl kb ?_)
  clear kb
  obtain ⟨U, hU⟩ : ∃ U, U = W.alloc (.cells #[.int .i64 0, .int .i64 1, .int .i64 1, .int .i64 1, .int .i64 0, .int .i64 1, .int .i64 1, .int .i64 1000000, .int .i64 1000, .int .i64 1000, .int .i64 100000, .int .i64 100000, .int .i64 512, .int .i64 64, .int .i64 r, .int .i64 s, .int .i64 b, .int .i64 m, .int .i64 q, .int .i64 c, .int .i64 w] 71) := ⟨_, rfl⟩
  rw [← hU] at f HQ ⊢
  clear hU
  refine (cA _).mono ?_
  rintro e u1 ⟨rfl, f1⟩
  cases B
  · go_wp2_with fail
    go_ret
    exact ⟨rfl, f.trans f1⟩
  have kb := HQ.out _ f1
  obtain ⟨⟨m0, m1, m2, m3, m4, m5, m6, n0, n1, n2, n3, n4, n5, n6⟩, ⟨k0, k1, k2, k3, k4, k5, k6⟩⟩ := LcZ.at (c := ⟨r, s, b, m, q, c, w⟩) kb
  simp only [Nat.reduceAdd] at k0 k1 k2 k3 k4 k5 k6
  clear kb
  go_wp2_with fail
  refine (cD _ (f.trans f1)).mono ?_
  rintro e u2 ⟨rfl, f2⟩
  go_wp2_with fail
  go_ret
  exact ⟨rfl, (f.trans f1).trans f2⟩

set_option maxRecDepth 20000 in
set_option maxHeartbeats 2000000 in
theorem period_any (c : Cf) (n : Int) (W : World) (hs : 1 ≤ c.s) (h0 : 0 ≤ n) (hI : n ≤ 9223372036854775807) :
    Calls Try.prog 60 #[.agg #[.int .i64 0, .int .i64 1, .int .i64 1, .int .i64 1, .int .i64 0, .int .i64 1, .int .i64 1, .int .i64 1000000, .int .i64 1000, .int .i64 1000, .int .i64 100000, .int .i64 100000, .int .i64 512, .int .i64 64, .int .i64 c.r, .int .i64 c.s, .int .i64 c.b, .int .i64 c.m, .int .i64 c.q, .int .i64 c.c, .int .i64 c.w], .int .i64 n] W fun e w' => e = .returned (.int .i64 (n / c.s)) ∧ Fr W w' := by
  obtain ⟨r, s, b, m, q, c, w⟩ := c
  simp only at hs ⊢
  have hq0 : 0 ≤ n / s := Int.ediv_nonneg h0 (by omega)
  have kb : LcZ (W.alloc (.cells #[.int .i64 0, .int .i64 1, .int .i64 1, .int .i64 1, .int .i64 0, .int .i64 1, .int .i64 1, .int .i64 1000000, .int .i64 1000, .int .i64 1000, .int .i64 100000, .int .i64 100000, .int .i64 512, .int .i64 64, .int .i64 r, .int .i64 s, .int .i64 b, .int .i64 m, .int .i64 q, .int .i64 c, .int .i64 w] 71)) W.heap.size #[.int .i64 0, .int .i64 1, .int .i64 1, .int .i64 1, .int .i64 0, .int .i64 1, .int .i64 1, .int .i64 1000000, .int .i64 1000, .int .i64 1000, .int .i64 100000, .int .i64 100000, .int .i64 512, .int .i64 64, .int .i64 r, .int .i64 s, .int .i64 b, .int .i64 m, .int .i64 q, .int .i64 c, .int .i64 w] := heap_alloc_new W _
  have f := Fr.alloc W (.cells #[.int .i64 0, .int .i64 1, .int .i64 1, .int .i64 1, .int .i64 0, .int .i64 1, .int .i64 1, .int .i64 1000000, .int .i64 1000, .int .i64 1000, .int .i64 100000, .int .i64 100000, .int .i64 512, .int .i64 64, .int .i64 r, .int .i64 s, .int .i64 b, .int .i64 m, .int .i64 q, .int .i64 c, .int .i64 w] 71)
  obtain ⟨⟨m0, m1, m2, m3, m4, m5, m6, n0, n1, n2, n3, n4, n5, n6⟩, ⟨k0, k1, k2, k3, k4, k5, k6⟩⟩ := LcZ.at (c := ⟨r, s, b, m, q, c, w⟩) kb
  simp only [Nat.reduceAdd] at k0 k1 k2 k3 k4 k5 k6
  have hle := Int.ediv_le_self s h0
  have hw : wrap64 (n.tdiv s) = n / s := by rw [Int.tdiv_eq_ediv_of_nonneg h0, IntWalk.wrap64_in _ ⟨by omega, by omega⟩]
  clear hle hq0
  go_enter Try.func60, Try.ntmps60
  go_wp2_with fail
  go_ret
  exact ⟨rfl, f⟩

set_option maxRecDepth 20000 in
set_option maxHeartbeats 2000000 in
theorem on_any (c : Cf) (ao : Option Addr) (N cap : Nat) (xs : List Int) (n : Int) (W : World) (hn : xs.length = N) (hl : N ≤ 300) (h : Reads W ao xs) (hs : 1 ≤ c.s) (h0 : 0 ≤ n) (hI : n ≤ 9223372036854775807) :
    Calls Try.prog 59 #[.agg #[.int .i64 0, .int .i64 1, .int .i64 1, .int .i64 1, .int .i64 0, .int .i64 1, .int .i64 1, .int .i64 1000000, .int .i64 1000, .int .i64 1000, .int .i64 100000, .int .i64 100000, .int .i64 512, .int .i64 64, .int .i64 c.r, .int .i64 c.s, .int .i64 c.b, .int .i64 c.m, .int .i64 c.q, .int .i64 c.c, .int .i64 c.w], .slice ao N cap, .int .i64 n] W fun e w' => e = .returned (.bool (onB c xs n)) ∧ Fr W w' := by
  subst hn
  have cP := fun u => period_any c n u hs h0 hI
  obtain ⟨r, s, b, m, q, c, w⟩ := c
  simp only at hs cP
  have hq0 : 0 ≤ n / s := Int.ediv_nonneg h0 (by omega)
  unfold onB
  simp only
  have kb : LcZ (W.alloc (.cells #[.int .i64 0, .int .i64 1, .int .i64 1, .int .i64 1, .int .i64 0, .int .i64 1, .int .i64 1, .int .i64 1000000, .int .i64 1000, .int .i64 1000, .int .i64 100000, .int .i64 100000, .int .i64 512, .int .i64 64, .int .i64 r, .int .i64 s, .int .i64 b, .int .i64 m, .int .i64 q, .int .i64 c, .int .i64 w] 71)) W.heap.size #[.int .i64 0, .int .i64 1, .int .i64 1, .int .i64 1, .int .i64 0, .int .i64 1, .int .i64 1, .int .i64 1000000, .int .i64 1000, .int .i64 1000, .int .i64 100000, .int .i64 100000, .int .i64 512, .int .i64 64, .int .i64 r, .int .i64 s, .int .i64 b, .int .i64 m, .int .i64 q, .int .i64 c, .int .i64 w] := heap_alloc_new W _
  have f := Fr.alloc W (.cells #[.int .i64 0, .int .i64 1, .int .i64 1, .int .i64 1, .int .i64 0, .int .i64 1, .int .i64 1, .int .i64 1000000, .int .i64 1000, .int .i64 1000, .int .i64 100000, .int .i64 100000, .int .i64 512, .int .i64 64, .int .i64 r, .int .i64 s, .int .i64 b, .int .i64 m, .int .i64 q, .int .i64 c, .int .i64 w] 71)
  obtain ⟨⟨m0, m1, m2, m3, m4, m5, m6, n0, n1, n2, n3, n4, n5, n6⟩, ⟨k0, k1, k2, k3, k4, k5, k6⟩⟩ := LcZ.at (c := ⟨r, s, b, m, q, c, w⟩) kb
  simp only [Nat.reduceAdd] at k0 k1 k2 k3 k4 k5 k6
  have h := h.fr f
  by_cases hp : n / s < (xs.length : Int)
  · obtain ⟨p, hpe⟩ : ∃ p : Nat, n / s = (p : Int) := ⟨(n / s).toNat, by omega⟩
    have hlt : p < xs.length := by omega
    obtain ⟨bb, off, rfl, hc⟩ := h.at_ p hlt
    have hck := hc p hlt
    rw [hpe, Int.toNat_natCast]
    obtain ⟨z, hz⟩ : ∃ z, z = xs.getD p 0 := ⟨_, rfl⟩
    rw [← hz] at hck ⊢
    have hd : decide ((p : Int) < (xs.length : Int)) = true := decide_eq_true (by omega)
    rw [hd, Bool.true_and]
    clear hz hc hd
    rw [hpe] at cP
    go_enter Try.func59, Try.ntmps59
    go_wp2_with (refine load_lc (c := ⟨r, s, b, m, q, c, w⟩) rfl (.tmp 3) rfl rfl kb ?_)
    obtain ⟨U, hU⟩ : ∃ U, U = W.alloc (.cells #[.int .i64 0, .int .i64 1, .int .i64 1, .int .i64 1, .int .i64 0, .int .i64 1, .int .i64 1, .int .i64 1000000, .int .i64 1000, .int .i64 1000, .int .i64 100000, .int .i64 100000, .int .i64 512, .int .i64 64, .int .i64 r, .int .i64 s, .int .i64 b, .int .i64 m, .int .i64 q, .int .i64 c, .int .i64 w] 71) := ⟨_, rfl⟩
    rw [← hU] at f k0 hck ⊢
    clear hU kb m0 m1 m2 m3 m4 m5 m6 n0 n1 n2 n3 n4 n5 n6 k1 k2 k3 k4 k5 k6
    refine (cP _).mono ?_
    rintro e u1 ⟨rfl, f1⟩
    replace k0 := f1.cell k0
    replace hck := f1.cell hck
    have hd : decide ((p : Int) < (xs.length : Int)) = true := decide_eq_true (by omega)
    clear hpe hp cP
    go_wp2_with fail
    go_quiet (fail)
    go_wp2
    go_ret
    exact ⟨rfl, (f.trans f1).trans (Fr.drewN _ _)⟩
  · have hd : decide (n / s < (xs.length : Int)) = false := decide_eq_false hp
    rw [hd, Bool.false_and]
    obtain ⟨z, hz⟩ : ∃ z, z = n / s := ⟨_, rfl⟩
    rw [← hz] at hd cP
    clear hz hp hq0
    go_enter Try.func59, Try.ntmps59
    go_wp2_with (refine load_lc (c := ⟨r, s, b, m, q, c, w⟩) rfl (.tmp 3) rfl rfl kb ?_)
    obtain ⟨U, hU⟩ : ∃ U, U = W.alloc (.cells #[.int .i64 0, .int .i64 1, .int .i64 1, .int .i64 1, .int .i64 0, .int .i64 1, .int .i64 1, .int .i64 1000000, .int .i64 1000, .int .i64 1000, .int .i64 100000, .int .i64 100000, .int .i64 512, .int .i64 64, .int .i64 r, .int .i64 s, .int .i64 b, .int .i64 m, .int .i64 q, .int .i64 c, .int .i64 w] 71) := ⟨_, rfl⟩
    rw [← hU] at f ⊢
    clear hU kb m0 m1 m2 m3 m4 m5 m6 n0 n1 n2 n3 n4 n5 n6 k0 k1 k2 k3 k4 k5 k6 h
    refine (cP _).mono ?_
    rintro e u1 ⟨rfl, f1⟩
    clear cP
    go_wp2_with fail
    go_quiet (fail)
    go_wp2
    go_ret
    exact ⟨rfl, (f.trans f1).trans (Fr.drewN _ _)⟩

/-- A limited config is stored into a new block. -/
theorem store_lc {ops : Array Oper} {rest : List Oper} {o : Oper} {a : Act} {w : World} {Q : Exit → Act → World → Prop} {b : Nat} {c : Cf} {old : Array Value} (hgd : o.guard = none) (x y : Operand) (ho : o.op = .store 71 x y)
    (hx : a.eval x = .pointer (some ⟨b, 0, none⟩)) (hy : a.eval y = .agg #[.int .i64 0, .int .i64 1, .int .i64 1, .int .i64 1, .int .i64 0, .int .i64 1, .int .i64 1, .int .i64 1000000, .int .i64 1000, .int .i64 1000, .int .i64 100000, .int .i64 100000, .int .i64 512, .int .i64 64, .int .i64 c.r, .int .i64 c.s, .int .i64 c.b, .int .i64 c.m, .int .i64 c.q, .int .i64 c.c, .int .i64 c.w]) (h : LcZ w b old) (hs : old.size = 21)
    (k : ∀ w', LcZ w' b #[.int .i64 0, .int .i64 1, .int .i64 1, .int .i64 1, .int .i64 0, .int .i64 1, .int .i64 1, .int .i64 1000000, .int .i64 1000, .int .i64 1000, .int .i64 100000, .int .i64 100000, .int .i64 512, .int .i64 64, .int .i64 c.r, .int .i64 c.s, .int .i64 c.b, .int .i64 c.m, .int .i64 c.q, .int .i64 c.c, .int .i64 c.w] → w.grownBy w' (some b) → wpList Try.prog ops Q rest (a.put o.dst undef) w') : wpList Try.prog ops Q (o :: rest) a w :=
  wpList_store_row hgd 71 x y ho b #[.int .i64 0, .int .i64 1, .int .i64 1, .int .i64 1, .int .i64 0, .int .i64 1, .int .i64 1, .int .i64 1000000, .int .i64 1000, .int .i64 1000, .int .i64 100000, .int .i64 100000, .int .i64 512, .int .i64 64, .int .i64 c.r, .int .i64 c.s, .int .i64 c.b, .int .i64 c.m, .int .i64 c.q, .int .i64 c.c, .int .i64 c.w] hx hy 71 old h (by kernel_rfl) (by rw [hs]; rfl) (by simp [Value.oneCell']) (k _ h.set (LcZ.grown w b _))
end Go.Proofs.Ytkfcchapfklpgaa
