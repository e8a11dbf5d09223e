/-
  Periods: what is on, what opens: of the program and of its specification.
-/
import Derived.Test.YtkfcchapfklpgaaPackAA
import Derived.BigQuiet
import Derived.Laws.Bits128
import Derived.Laws.Shifts
import Derived.Laws.Pointers
namespace Go.Proofs.Ytkfcchapfklpgaa
open Go.RowKit

/-- Is the event at n on? -/
def onB (c : Cf) (xs : List Int) (n : Int) : Bool := decide (n / c.s < (xs.length : Int)) && decide (xs.getD (n / c.s).toNat 0 < c.r)
/-- Does it open a period? -/
def opB (c : Cf) (xs : List Int) (n : Int) : Bool := onB c xs n && decide (n % c.s = 0)
def stB (c : Cf) (xs : List Int) : Bool := cfB c && dwB xs
def onAtB (c : Cf) (xs : List Int) (n : Int) : Bool := decide (0 ≤ n) && stB c xs && onB c xs n
def opAtB (c : Cf) (xs : List Int) (n : Int) : Bool := decide (0 ≤ n) && stB c xs && opB c xs n
/-- How many open below k. -/
def opN (c : Cf) (xs : List Int) : Nat → Int
  | 0 => 0
  | k + 1 => opN c xs k + if opB c xs (k : Int) then 1 else 0
def opV (c : Cf) (xs : List Int) (n : Int) : Int := if stB c xs && inB 0 300 n then opN c xs n.toNat else -1
theorem opN_in (c : Cf) (xs : List Int) (k : Nat) : 0 ≤ opN c xs k ∧ opN c xs k ≤ k := by
  induction k with
  | zero => simp [opN]
  | succ k ih => unfold opN; split <;> omega

theorem onAtB_no {c : Cf} {xs : List Int} {n : Int} (h : n < 0 ∨ stB c xs = false) : onAtB c xs n = false := by
  rcases h with h | h
  · have : decide (0 ≤ n) = false := decide_eq_false (by omega)
    simp [onAtB, this]
  · simp [onAtB, h]
theorem opAtB_no {c : Cf} {xs : List Int} {n : Int} (h : n < 0 ∨ stB c xs = false) : opAtB c xs n = false := by
  rcases h with h | h
  · have : decide (0 ≤ n) = false := decide_eq_false (by omega)
    simp [opAtB, this]
  · simp [opAtB, h]
theorem onAtB_yes {c : Cf} {xs : List Int} {n : Int} (h : 0 ≤ n) (k : stB c xs = true) : onAtB c xs n = onB c xs n := by simp [onAtB, h, k]
theorem opAtB_yes {c : Cf} {xs : List Int} {n : Int} (h : 0 ≤ n) (k : stB c xs = true) : opAtB c xs n = opB c xs n := by simp [opAtB, h, k]
theorem opAtB_on {c : Cf} {xs : List Int} {n : Int} : opAtB c xs n = (onAtB c xs n && decide (n % c.s = 0)) := by
  simp only [opAtB, onAtB, opB, Bool.and_assoc]

/-- A whole limited config is read. -/
theorem load_lc {ops : Array Oper} {rest : List Oper} {o : Oper} {a : Act} {w : World} {Q : Exit → Act → World → Prop} {b : Nat} {c : Cf} (hw : Region.wanted o (yielded ops a.tmps) = true) (x : Operand) (ho : o.op = .load 71 x)
    (hx : a.eval x = .pointer (some ⟨b, 0, none⟩)) (h : LcZ w b #[.int .i64 0, .int .i64 1, .int .i64 1, .int .i64 1, .int .i64 0, .int .i64 1, .int .i64 1, .int .i64 1000000, .int .i64 1000, .int .i64 1000, .int .i64 100000, .int .i64 100000, .int .i64 512, .int .i64 64, .int .i64 c.r, .int .i64 c.s, .int .i64 c.b, .int .i64 c.m, .int .i64 c.q, .int .i64 c.c, .int .i64 c.w]) (k : wpList Try.prog ops Q rest (a.put o.dst (.agg #[.int .i64 0, .int .i64 1, .int .i64 1, .int .i64 1, .int .i64 0, .int .i64 1, .int .i64 1, .int .i64 1000000, .int .i64 1000, .int .i64 1000, .int .i64 100000, .int .i64 100000, .int .i64 512, .int .i64 64, .int .i64 c.r, .int .i64 c.s, .int .i64 c.b, .int .i64 c.m, .int .i64 c.q, .int .i64 c.c, .int .i64 c.w])) w) : wpList Try.prog ops Q (o :: rest) a w := by
  refine wpList_step fun K hK => ?_
  rw [if_pos hw]
  have hr := run_loadVar_row (P := Try.prog) w b 71 71 #[.int .i64 0, .int .i64 1, .int .i64 1, .int .i64 1, .int .i64 0, .int .i64 1, .int .i64 1, .int .i64 1000000, .int .i64 1000, .int .i64 1000, .int .i64 100000, .int .i64 100000, .int .i64 512, .int .i64 64, .int .i64 c.r, .int .i64 c.s, .int .i64 c.b, .int .i64 c.m, .int .i64 c.q, .int .i64 c.c, .int .i64 c.w] (0, 0) _ h Try.underlying71 rfl (by kernel_rfl)
  unfold Oper.wp execOp
  simp only [ho, hx, Instr.loadAt, Instr.sureAddr, Sem.run_bind, Sem.run_pure, Result.andThen_ok, hr]
  exact hK _ _ k

set_option maxRecDepth 20000 in
set_option maxHeartbeats 2000000 in
theorem suits_any (c : Cf) (ao : Option Addr) (n cap : Nat) (xs : List Int) (W : World) (hn : xs.length = n) (h : Reads W ao xs) :
    Calls Try.prog 41 #[.agg #[.int .i64 0, .int .i64 1, .int .i64 1, .int .i64 1, .int .i64 0, .int .i64 1, .int .i64 1, .int .i64 1000000, .int .i64 1000, .int .i64 1000, .int .i64 100000, .int .i64 100000, .int .i64 512, .int .i64 64, .int .i64 c.r, .int .i64 c.s, .int .i64 c.b, .int .i64 c.m, .int .i64 c.q, .int .i64 c.c, .int .i64 c.w], .slice ao n cap] W fun e w' => e = .returned (.bool (stB c xs)) ∧ Fr W w' := by
  have cA := fun u => lcOk_any c u
  have cD := fun u (k : Fr W u) => admitDraws_any ao n cap xs u hn (h.fr k)
  obtain ⟨r, s, b, m, q, c, w⟩ := c
  unfold stB
  generalize cfB ⟨r, s, b, m, q, c, w⟩ = B at cA ⊢
  generalize dwB xs = D at cD ⊢
  simp only at cA ⊢
  have kb : LcZ (W.alloc (.cells #[.int .i64 0, .int .i64 1, .int .i64 1, .int .i64 1, .int .i64 0, .int .i64 1, .int .i64 1, .int .i64 1000000, .int .i64 1000, .int .i64 1000, .int .i64 100000, .int .i64 100000, .int .i64 512, .int .i64 64, .int .i64 r, .int .i64 s, .int .i64 b, .int .i64 m, .int .i64 q, .int .i64 c, .int .i64 w] 71)) W.heap.size #[.int .i64 0, .int .i64 1, .int .i64 1, .int .i64 1, .int .i64 0, .int .i64 1, .int .i64 1, .int .i64 1000000, .int .i64 1000, .int .i64 1000, .int .i64 100000, .int .i64 100000, .int .i64 512, .int .i64 64, .int .i64 r, .int .i64 s, .int .i64 b, .int .i64 m, .int .i64 q, .int .i64 c, .int .i64 w] := heap_alloc_new W _
  have f := Fr.alloc W (.cells #[.int .i64 0, .int .i64 1, .int .i64 1, .int .i64 1, .int .i64 0, .int .i64 1, .int .i64 1, .int .i64 1000000, .int .i64 1000, .int .i64 1000, .int .i64 100000, .int .i64 100000, .int .i64 512, .int .i64 64, .int .i64 r, .int .i64 s, .int .i64 b, .int .i64 m, .int .i64 q, .int .i64 c, .int .i64 w] 71)
  have HQ : Hid (∀ u, Fr (W.alloc (.cells #[.int .i64 0, .int .i64 1, .int .i64 1, .int .i64 1, .int .i64 0, .int .i64 1, .int .i64 1, .int .i64 1000000, .int .i64 1000, .int .i64 1000, .int .i64 100000, .int .i64 100000, .int .i64 512, .int .i64 64, .int .i64 r, .int .i64 s, .int .i64 b, .int .i64 m, .int .i64 q, .int .i64 c, .int .i64 w] 71)) u → LcZ u W.heap.size #[.int .i64 0, .int .i64 1, .int .i64 1, .int .i64 1, .int .i64 0, .int .i64 1, .int .i64 1, .int .i64 1000000, .int .i64 1000, .int .i64 1000, .int .i64 100000, .int .i64 100000, .int .i64 512, .int .i64 64, .int .i64 r, .int .i64 s, .int .i64 b, .int .i64 m, .int .i64 q, .int .i64 c, .int .i64 w]) := fun u k => kb.fr k
  go_enter Try.func41, Try.ntmps41
  go_wp2_with (refine load_lc (c := ⟨r, s, b, m, q, c, w⟩) rfl (.tmp 2) rfl rfl kb ?_)
  clear kb
  obtain ⟨U, hU⟩ : ∃ U, U = W.alloc (.cells #[.int .i64 0, .int .i64 1, .int .i64 1, .int .i64 1, .int .i64 0, .int .i64 1, .int .i64 1, .int .i64 1000000, .int .i64 1000, .int .i64 1000, .int .i64 100000, .int .i64 100000, .int .i64 512, .int .i64 64, .int .i64 r, .int .i64 s, .int .i64 b, .int .i64 m, .int .i64 q, .int .i64 c, .int .i64 w] 71) := ⟨_, rfl⟩
  rw [← hU] at f HQ ⊢
  clear hU
  refine (cA _).mono ?_
  rintro e u1 ⟨rfl, f1⟩
  cases B
  · go_wp2_with fail
    go_ret
    exact ⟨rfl, f.trans f1⟩
  have kb := HQ.out _ f1
  obtain ⟨⟨m0, m1, m2, m3, m4, m5, m6, n0, n1, n2, n3, n4, n5, n6⟩, ⟨k0, k1, k2, k3, k4, k5, k6⟩⟩ := LcZ.at (c := ⟨r, s, b, m, q, c, w⟩) kb
  simp only [Nat.reduceAdd] at k0 k1 k2 k3 k4 k5 k6
  clear kb
  go_wp2_with fail
  refine (cD _ (f.trans f1)).mono ?_
  rintro e u2 ⟨rfl, f2⟩
  go_wp2_with fail
  go_ret
  exact ⟨rfl, (f.trans f1).trans f2⟩

set_option maxRecDepth 20000 in
set_option maxHeartbeats 2000000 in
theorem period_any (c : Cf) (n : Int) (W : World) (hs : 1 ≤ c.s) (h0 : 0 ≤ n) (hI : n ≤ 9223372036854775807) :
    Calls Try.prog 60 #[.agg #[.int .i64 0, .int .i64 1, .int .i64 1, .int .i64 1, .int .i64 0, .int .i64 1, .int .i64 1, .int .i64 1000000, .int .i64 1000, .int .i64 1000, .int .i64 100000, .int .i64 100000, .int .i64 512, .int .i64 64, .int .i64 c.r, .int .i64 c.s, .int .i64 c.b, .int .i64 c.m, .int .i64 c.q, .int .i64 c.c, .int .i64 c.w], .int .i64 n] W fun e w' => e = .returned (.int .i64 (n / c.s)) ∧ Fr W w' := by
  obtain ⟨r, s, b, m, q, c, w⟩ := c
  simp only at hs ⊢
  have hq0 : 0 ≤ n / s := Int.ediv_nonneg h0 (by omega)
  have kb : LcZ (W.alloc (.cells #[.int .i64 0, .int .i64 1, .int .i64 1, .int .i64 1, .int .i64 0, .int .i64 1, .int .i64 1, .int .i64 1000000, .int .i64 1000, .int .i64 1000, .int .i64 100000, .int .i64 100000, .int .i64 512, .int .i64 64, .int .i64 r, .int .i64 s, .int .i64 b, .int .i64 m, .int .i64 q, .int .i64 c, .int .i64 w] 71)) W.heap.size #[.int .i64 0, .int .i64 1, .int .i64 1, .int .i64 1, .int .i64 0, .int .i64 1, .int .i64 1, .int .i64 1000000, .int .i64 1000, .int .i64 1000, .int .i64 100000, .int .i64 100000, .int .i64 512, .int .i64 64, .int .i64 r, .int .i64 s, .int .i64 b, .int .i64 m, .int .i64 q, .int .i64 c, .int .i64 w] := heap_alloc_new W _
  have f := Fr.alloc W (.cells #[.int .i64 0, .int .i64 1, .int .i64 1, .int .i64 1, .int .i64 0, .int .i64 1, .int .i64 1, .int .i64 1000000, .int .i64 1000, .int .i64 1000, .int .i64 100000, .int .i64 100000, .int .i64 512, .int .i64 64, .int .i64 r, .int .i64 s, .int .i64 b, .int .i64 m, .int .i64 q, .int .i64 c, .int .i64 w] 71)
  obtain ⟨⟨m0, m1, m2, m3, m4, m5, m6, n0, n1, n2, n3, n4, n5, n6⟩, ⟨k0, k1, k2, k3, k4, k5, k6⟩⟩ := LcZ.at (c := ⟨r, s, b, m, q, c, w⟩) kb
  simp only [Nat.reduceAdd] at k0 k1 k2 k3 k4 k5 k6
  have hle := Int.ediv_le_self s h0
  have hw : wrap64 (n.tdiv s) = n / s := by rw [Int.tdiv_eq_ediv_of_nonneg h0, IntWalk.wrap64_in _ ⟨by omega, by omega⟩]
  clear hle hq0
  go_enter Try.func60, Try.ntmps60
  go_wp2_with fail
  go_ret
  exact ⟨rfl, f⟩

set_option maxRecDepth 20000 in
set_option maxHeartbeats 2000000 in
theorem on_any (c : Cf) (ao : Option Addr) (N cap : Nat) (xs : List Int) (n : Int) (W : World) (hn : xs.length = N) (hl : N ≤ 300) (h : Reads W ao xs) (hs : 1 ≤ c.s) (h0 : 0 ≤ n) (hI : n ≤ 9223372036854775807) :
    Calls Try.prog 59 #[.agg #[.int .i64 0, .int .i64 1, .int .i64 1, .int .i64 1, .int .i64 0, .int .i64 1, .int .i64 1, .int .i64 1000000, .int .i64 1000, .int .i64 1000, .int .i64 100000, .int .i64 100000, .int .i64 512, .int .i64 64, .int .i64 c.r, .int .i64 c.s, .int .i64 c.b, .int .i64 c.m, .int .i64 c.q, .int .i64 c.c, .int .i64 c.w], .slice ao N cap, .int .i64 n] W fun e w' => e = .returned (.bool (onB c xs n)) ∧ Fr W w' := by
  subst hn
  have cP := fun u => period_any c n u hs h0 hI
  obtain ⟨r, s, b, m, q, c, w⟩ := c
  simp only at hs cP
  have hq0 : 0 ≤ n / s := Int.ediv_nonneg h0 (by omega)
  unfold onB
  simp only
  have kb : LcZ (W.alloc (.cells #[.int .i64 0, .int .i64 1, .int .i64 1, .int .i64 1, .int .i64 0, .int .i64 1, .int .i64 1, .int .i64 1000000, .int .i64 1000, .int .i64 1000, .int .i64 100000, .int .i64 100000, .int .i64 512, .int .i64 64, .int .i64 r, .int .i64 s, .int .i64 b, .int .i64 m, .int .i64 q, .int .i64 c, .int .i64 w] 71)) W.heap.size #[.int .i64 0, .int .i64 1, .int .i64 1, .int .i64 1, .int .i64 0, .int .i64 1, .int .i64 1, .int .i64 1000000, .int .i64 1000, .int .i64 1000, .int .i64 100000, .int .i64 100000, .int .i64 512, .int .i64 64, .int .i64 r, .int .i64 s, .int .i64 b, .int .i64 m, .int .i64 q, .int .i64 c, .int .i64 w] := heap_alloc_new W _
  have f := Fr.alloc W (.cells #[.int .i64 0, .int .i64 1, .int .i64 1, .int .i64 1, .int .i64 0, .int .i64 1, .int .i64 1, .int .i64 1000000, .int .i64 1000, .int .i64 1000, .int .i64 100000, .int .i64 100000, .int .i64 512, .int .i64 64, .int .i64 r, .int .i64 s, .int .i64 b, .int .i64 m, .int .i64 q, .int .i64 c, .int .i64 w] 71)
  obtain ⟨⟨m0, m1, m2, m3, m4, m5, m6, n0, n1, n2, n3, n4, n5, n6⟩, ⟨k0, k1, k2, k3, k4, k5, k6⟩⟩ := LcZ.at (c := ⟨r, s, b, m, q, c, w⟩) kb
  simp only [Nat.reduceAdd] at k0 k1 k2 k3 k4 k5 k6
  have h := h.fr f
  by_cases hp : n / s < (xs.length : Int)
  · obtain ⟨p, hpe⟩ : ∃ p : Nat, n / s = (p : Int) := ⟨(n / s).toNat, by omega⟩
    have hlt : p < xs.length := by omega
    obtain ⟨bb, off, rfl, hc⟩ := h.at_ p hlt
    have hck := hc p hlt
    rw [hpe, Int.toNat_natCast]
    obtain ⟨z, hz⟩ : ∃ z, z = xs.getD p 0 := ⟨_, rfl⟩
    rw [← hz] at hck ⊢
    have hd : decide ((p : Int) < (xs.length : Int)) = true := decide_eq_true (by omega)
    rw [hd, Bool.true_and]
    clear hz hc hd
    rw [hpe] at cP
    go_enter Try.func59, Try.ntmps59
    go_wp2_with (refine load_lc (c := ⟨r, s, b, m, q, c, w⟩) rfl (.tmp 3) rfl rfl kb ?_)
    obtain ⟨U, hU⟩ : ∃ U, U = W.alloc (.cells #[.int .i64 0, .int .i64 1, .int .i64 1, .int .i64 1, .int .i64 0, .int .i64 1, .int .i64 1, .int .i64 1000000, .int .i64 1000, .int .i64 1000, .int .i64 100000, .int .i64 100000, .int .i64 512, .int .i64 64, .int .i64 r, .int .i64 s, .int .i64 b, .int .i64 m, .int .i64 q, .int .i64 c, .int .i64 w] 71) := ⟨_, rfl⟩
    rw [← hU] at f k0 hck ⊢
    clear hU kb m0 m1 m2 m3 m4 m5 m6 n0 n1 n2 n3 n4 n5 n6 k1 k2 k3 k4 k5 k6
    refine (cP _).mono ?_
    rintro e u1 ⟨rfl, f1⟩
    replace k0 := f1.cell k0
    replace hck := f1.cell hck
    have hd : decide ((p : Int) < (xs.length : Int)) = true := decide_eq_true (by omega)
    clear hpe hp cP
    go_wp2_with fail
    go_quiet (fail)
    go_wp2
    go_ret
    exact ⟨rfl, (f.trans f1).trans (Fr.drewN _ _)⟩
  · have hd : decide (n / s < (xs.length : Int)) = false := decide_eq_false hp
    rw [hd, Bool.false_and]
    obtain ⟨z, hz⟩ : ∃ z, z = n / s := ⟨_, rfl⟩
    rw [← hz] at hd cP
    clear hz hp hq0
    go_enter Try.func59, Try.ntmps59
    go_wp2_with (refine load_lc (c := ⟨r, s, b, m, q, c, w⟩) rfl (.tmp 3) rfl rfl kb ?_)
    obtain ⟨U, hU⟩ : ∃ U, U = W.alloc (.cells #[.int .i64 0, .int .i64 1, .int .i64 1, .int .i64 1, .int .i64 0, .int .i64 1, .int .i64 1, .int .i64 1000000, .int .i64 1000, .int .i64 1000, .int .i64 100000, .int .i64 100000, .int .i64 512, .int .i64 64, .int .i64 r, .int .i64 s, .int .i64 b, .int .i64 m, .int .i64 q, .int .i64 c, .int .i64 w] 71) := ⟨_, rfl⟩
    rw [← hU] at f ⊢
    clear hU kb m0 m1 m2 m3 m4 m5 m6 n0 n1 n2 n3 n4 n5 n6 k0 k1 k2 k3 k4 k5 k6 h
    refine (cP _).mono ?_
    rintro e u1 ⟨rfl, f1⟩
    clear cP
    go_wp2_with fail
    go_quiet (fail)
    go_wp2
    go_ret
    exact ⟨rfl, (f.trans f1).trans (Fr.drewN _ _)⟩

/-- A limited config is stored into a new block. -/
theorem store_lc {ops : Array Oper} {rest : List Oper} {o : Oper} {a : Act} {w : World} {Q : Exit → Act → World → Prop} {b : Nat} {c : Cf} {old : Array Value} (hgd : o.guard = none) (x y : Operand) (ho : o.op = .store 71 x y)
    (hx : a.eval x = .pointer (some ⟨b, 0, none⟩)) (hy : a.eval y = .agg #[.int .i64 0, .int .i64 1, .int .i64 1, .int .i64 1, .int .i64 0, .int .i64 1, .int .i64 1, .int .i64 1000000, .int .i64 1000, .int .i64 1000, .int .i64 100000, .int .i64 100000, .int .i64 512, .int .i64 64, .int .i64 c.r, .int .i64 c.s, .int .i64 c.b, .int .i64 c.m, .int .i64 c.q, .int .i64 c.c, .int .i64 c.w]) (h : LcZ w b old) (hs : old.size = 21)
    (k : ∀ w', LcZ w' b #[.int .i64 0, .int .i64 1, .int .i64 1, .int .i64 1, .int .i64 0, .int .i64 1, .int .i64 1, .int .i64 1000000, .int .i64 1000, .int .i64 1000, .int .i64 100000, .int .i64 100000, .int .i64 512, .int .i64 64, .int .i64 c.r, .int .i64 c.s, .int .i64 c.b, .int .i64 c.m, .int .i64 c.q, .int .i64 c.c, .int .i64 c.w] → w.grownBy w' (some b) → wpList Try.prog ops Q rest (a.put o.dst undef) w') : wpList Try.prog ops Q (o :: rest) a w :=
  wpList_store_row hgd 71 x y ho b #[.int .i64 0, .int .i64 1, .int .i64 1, .int .i64 1, .int .i64 0, .int .i64 1, .int .i64 1, .int .i64 1000000, .int .i64 1000, .int .i64 1000, .int .i64 100000, .int .i64 100000, .int .i64 512, .int .i64 64, .int .i64 c.r, .int .i64 c.s, .int .i64 c.b, .int .i64 c.m, .int .i64 c.q, .int .i64 c.c, .int .i64 c.w] hx hy 71 old h (by kernel_rfl) (by rw [hs]; rfl) (by simp [Value.oneCell']) (k _ h.set (LcZ.grown w b _))
end Go.Proofs.Ytkfcchapfklpgaa
/-
  Periods: the program's exported functions.
-/
namespace Go.Proofs.Ytkfcchapfklpgaa
open Go.RowKit

set_option maxHeartbeats 2000000 in
theorem cfOk_impl (c : Cf) (W : World) :
    Calls Try.prog 28 #[.agg #[.int .i64 c.r, .int .i64 c.s, .int .i64 c.b, .int .i64 c.m, .int .i64 c.q, .int .i64 c.c, .int .i64 c.w]] W fun e w' => e = .returned (.bool (cfB c)) ∧ Fr W w' := by
  have cL := fun u => limited_any c u
  have cA := fun u => lcOk_any c u
  obtain ⟨r, s, b, m, q, c, w⟩ := c
  generalize cfB ⟨r, s, b, m, q, c, w⟩ = B at cA ⊢
  simp only at cL cA ⊢
  have f := Fr.alloc W (.cells #[.int .i64 r, .int .i64 s, .int .i64 b, .int .i64 m, .int .i64 q, .int .i64 c, .int .i64 w] 29)
  go_enter Try.func28, Try.ntmps28
  go_wp2_with fail
  refine (cL _).mono ?_
  rintro e u1 ⟨rfl, f1⟩
  go_wp2_with fail
  refine (cA _).mono ?_
  rintro e u2 ⟨rfl, f2⟩
  go_wp2_with fail
  go_ret
  exact ⟨rfl, (f.trans f1).trans f2⟩

end Go.Proofs.Ytkfcchapfklpgaa
/-
  The drawing cursor of the specification (l1Cur): what is drawn is in range, and a draw writes into the cursor alone.
-/
namespace Go.Proofs.Ytkfcchapfklpgaa
open Go.RowKit

theorem i64_and255 (n : Int) : bits .and .i64 n 255 = n % 256 := by
  have h255 : (BitVec.ofInt 64 255).toNat = 2 ^ 8 - 1 := by decide
  have key : (BitVec.ofInt 64 n &&& BitVec.ofInt 64 255).toNat = (n % ((2 ^ 64 : Nat) : Int)).toNat % 2 ^ 8 := by
    rw [BitVec.toNat_and, BitVec.toNat_ofInt, h255, Nat.and_two_pow_sub_one_eq_mod]
  show IntKind.i64.wrap ((BitVec.ofInt 64 n &&& BitVec.ofInt 64 255).toNat : Nat) = n % 256
  rw [key, IntKind.wrap_i64]
  omega
theorem i64_and30 (n : Int) : bits .and .i64 n 1073741823 = n % 1073741824 := by
  have h30 : (BitVec.ofInt 64 1073741823).toNat = 2 ^ 30 - 1 := by decide
  have key : (BitVec.ofInt 64 n &&& BitVec.ofInt 64 1073741823).toNat = (n % ((2 ^ 64 : Nat) : Int)).toNat % 2 ^ 30 := by
    rw [BitVec.toNat_and, BitVec.toNat_ofInt, h30, Nat.and_two_pow_sub_one_eq_mod]
  show IntKind.i64.wrap ((BitVec.ofInt 64 n &&& BitVec.ofInt 64 1073741823).toNat : Nat) = n % 1073741824
  rw [key, IntKind.wrap_i64]
  omega

/-- The bytes of a slice: n of them at the address ao. -/
def Bytes (w : World) (g : Nat) (ao : Option Addr) (n : Nat) : Prop :=
  ∀ i, i < n → ∃ b off, ao = some ⟨b, off, none⟩ ∧ b < g ∧ ∀ j, j < n → ∃ x : Int, w.cell? ⟨b, off + j, none⟩ = some (.int .u8 x) ∧ 0 ≤ x ∧ x ≤ 255

theorem Bytes.keep {w w' : World} {g n : Nat} {ao : Option Addr} (h : Bytes w g ao n) (k : w.grownBy w' (some g)) : Bytes w' g ao n := by
  intro i hi
  obtain ⟨b, off, e, hb, hc⟩ := h i hi
  refine ⟨b, off, e, hb, fun j hj => ?_⟩
  obtain ⟨x, hx, h0, h1⟩ := hc j hj
  exact ⟨x, k.cell hx (by simp; omega), h0, h1⟩

theorem cur_set {w : World} {g : Nat} {a0 a1 a2 : Value} {t : TypeId} (hg : w.heap[g]? = some (.cells #[a0, a1, a2] t (0, 0))) (v : Value) :
    (w.setCell ⟨g, 2, none⟩ v).heap[g]? = some (.cells #[a0, a1, v] t (0, 0)) ∧ (w.setCell ⟨g, 1, none⟩ v).heap[g]? = some (.cells #[a0, v, a2] t (0, 0)) := by
  have h1 := heap_setCell_same w g 2 #[a0, a1, a2] t v hg
  have h2 := heap_setCell_same w g 1 #[a0, a1, a2] t v hg
  exact ⟨by simpa using h1, by simpa using h2⟩

theorem emod_le_self (a n : Int) (h0 : 0 ≤ a) (hn : 0 < n) : a % n ≤ a := by
  have h1 := Int.mul_nonneg (show 0 ≤ n by omega) (Int.ediv_nonneg h0 (show 0 ≤ n by omega))
  rw [Int.emod_def]
  omega
theorem byte_in (n : Int) : 0 ≤ bits .and .i64 n 255 ∧ bits .and .i64 n 255 ≤ 255 := by rw [i64_and255]; omega

/-- What is new, and writes into it, beside the writes into the block g. -/
theorem grown_then {a b c : World} {g : Nat} {row : Option Nat} (h : a.grownBy b (some g)) (k : b.grownBy c row) (hr : ∀ j, row = some j → a.heap.size ≤ j ∨ j = g) : a.grownBy c (some g) :=
  ⟨k.os.trans h.os, k.tape.trans h.tape, k.output.trans h.output, Nat.le_trans h.size k.size,
    fun i hi hne => (k.block i (Nat.lt_of_lt_of_le hi h.size) (fun e => by rcases hr i e.symm with q | q; omega; exact hne (by rw [q]))).trans (h.block i hi hne)⟩
theorem grown_refl (w : World) (row : Option Nat) : w.grownBy w row := ⟨rfl, rfl, rfl, Nat.le_refl _, fun _ _ _ => rfl⟩

/-- One of some numbers that lie in a block of their own. -/
theorem lit_cell {w : World} {t : TypeId} (zs : List Int) (hz : ∀ z ∈ zs, I64 z) (k : Nat) (hk : k < zs.length) :
    ∃ z, I64 z ∧ (w.alloc (.cells (zs.map (Value.int .i64)).toArray t)).cell? ⟨w.heap.size, k, none⟩ = some (.int .i64 z) := by
  refine ⟨zs[k], hz _ (List.getElem_mem hk), ?_⟩
  rw [cell_of_row _ _ _ _ _ _ (heap_alloc_new w _)]
  simp [hk]

set_option maxHeartbeats 400000 in
theorem l1Min_any (a b : Int) (w : World) :
    Calls Try.prog 53 #[.int .i64 a, .int .i64 b] w fun e w' => e = .returned (.int .i64 (min a b)) ∧ w' = w := by
  by_cases h : a < b
  · go_enter Try.func53, Try.ntmps53
    go_wp2
    go_ret
    exact ⟨ret_int (by omega), rfl⟩
  · go_enter Try.func53, Try.ntmps53
    go_wp2
    go_ret
    exact ⟨ret_int (by omega), rfl⟩

end Go.Proofs.Ytkfcchapfklpgaa
/-
  A region that draws its order and whose callees make new blocks alone: one walk, in the order of the text, serves every order.
-/
namespace Go.Proofs.Ytkfcchapfklpgaa
open Go.RowKit

/-- A world that is w and new blocks. -/
structure Later (w : World) where
  u : World
  fr : Fr w u

theorem Later.some (w : World) : Nonempty (Later w) := ⟨⟨w, Fr.refl w⟩⟩

theorem wp_region_grown {P : Program} {id : Nat} {Q : Exit → Act → World → Prop} {a : Act} {w : World} {l : List Oper} (hm : P.follows .mixedOrders = true) (hB : Region.lexB .any l.toArray = true)
    (h : wpQuiet P l.toArray (fun w' => ∃ s : Later w, w' = s.u) (fun a' => ∀ w', (∃ s : Later w, w' = s.u) → Q .normal a' w') l a) : (Code.region id l.toArray true).wp P Q a w :=
  wp_region_quiet (C := fun w' => ∃ s : Later w, w' = s.u) hm hB ⟨⟨w.drew, Fr.drew w⟩, rfl⟩ (by simpa using h)

theorem Calls.grown_of {P : Program} {f : FuncId} {args : Array Value} {w : World} {s : Later w} {v : Value}
    (h : Calls P f args s.u fun e w' => e = .returned v ∧ Fr s.u w') : Calls P f args s.u fun e w'' => e = .returned v ∧ ∃ s' : Later w, w'' = s'.u :=
  h.mono fun _ w' ⟨he, hf⟩ => ⟨he, ⟨w', s.fr.trans hf⟩, rfl⟩
theorem Calls.grown_same {P : Program} {f : FuncId} {args : Array Value} {w : World} {s : Later w} {v : Value}
    (h : Calls P f args s.u fun e w' => e = .returned v ∧ w' = s.u) : Calls P f args s.u fun e w'' => e = .returned v ∧ ∃ s' : Later w, w'' = s'.u :=
  h.mono fun _ _ ⟨he, hm⟩ => ⟨he, s, hm⟩
end Go.Proofs.Ytkfcchapfklpgaa
/-
  A burst: its three numbers, and whether it is right: the program's and the specification's BurstOk; NewBurst.
-/
namespace Go.Proofs.Ytkfcchapfklpgaa
open Go.RowKit

/-- A burst's three numbers. -/
structure Bu where
  l : Int
  s : Int
  g : Int

/-- Is it right? -/
def bkB (c : Cf) (b : Bu) : Bool := cfB c && inB 0 c.b b.l && inB 0 c.m b.s && inB 1 c.m b.g && (decide (b.l = 0) != decide (b.s = 0))

theorem bkB_in {c : Cf} {b : Bu} (h : bkB c b = true) : cfB c = true ∧ (0 ≤ b.l ∧ b.l ≤ c.b) ∧ (0 ≤ b.s ∧ b.s ≤ c.m) ∧ (1 ≤ b.g ∧ b.g ≤ c.m) ∧ (b.l = 0 ↔ b.s ≠ 0) := by
  simp only [bkB, Bool.and_eq_true] at h
  obtain ⟨⟨⟨⟨h0, h1⟩, h2⟩, h3⟩, h4⟩ := h
  refine ⟨h0, inB_true h1, inB_true h2, inB_true h3, ?_⟩
  by_cases p : b.l = 0 <;> by_cases q : b.s = 0 <;> simp [p, q] at h4 ⊢
theorem bkB_mk {c : Cf} {b : Bu} (h0 : cfB c = true) (h1 : 0 ≤ b.l ∧ b.l ≤ c.b) (h2 : 0 ≤ b.s ∧ b.s ≤ c.m) (h3 : 1 ≤ b.g ∧ b.g ≤ c.m) (h4 : b.l = 0 ↔ b.s ≠ 0) : bkB c b = true := by
  simp only [bkB, h0, inB_mk h1.1 h1.2, inB_mk h2.1 h2.2, inB_mk h3.1 h3.2, Bool.true_and]
  by_cases p : b.l = 0 <;> by_cases q : b.s = 0 <;> simp [p, q] at h4 ⊢

/-- A new burst. -/
def nwB (c : Cf) : Bu := if cfB c then ⟨c.b, 0, min c.b c.m⟩ else ⟨0, 0, 0⟩
/-- A burst's next step, and whether it is looked at. -/
def stB1 (c : Cf) (b : Bu) : Bu :=
  if bkB c b then
    if b.l ≠ 0 then (if b.l - 1 = 0 then ⟨b.l - 1, b.g, min (2 * b.g) c.m⟩ else ⟨b.l - 1, b.s, b.g⟩)
    else (if b.s - 1 = 0 then ⟨c.b, b.s - 1, b.g⟩ else ⟨b.l, b.s - 1, b.g⟩)
  else ⟨0, 0, 0⟩
def stB2 (c : Cf) (b : Bu) : Bool := bkB c b && decide (b.l ≠ 0)

/-- A block that is a burst. -/
def BuZ (w : World) (b : Nat) (cs : Array Value) : Prop := w.heap[b]? = some (.cells cs 51 (0, 0))
theorem BuZ.lt {w : World} {b : Nat} {c : Array Value} (h : BuZ w b c) : b < w.heap.size := (Array.getElem?_eq_some_iff.1 h).1
theorem BuZ.keep {w w' : World} {b : Nat} {c : Array Value} {row : Option Nat} (h : BuZ w b c) (k : w.grownBy w' row) (hr : row ≠ some b) : BuZ w' b c := (k.block b h.lt (fun q => hr q.symm)).trans h
theorem BuZ.fr {w w' : World} {b : Nat} {c : Array Value} (h : BuZ w b c) (k : Fr w w') : BuZ w' b c := h.keep k (by simp)
theorem BuZ.free {w : World} {b : Nat} {c : Array Value} (h : BuZ w b c) (i : Nat) : w.frozen? ⟨b, i, none⟩ = false := frozen_of_row w b i _ _ h
theorem BuZ.c0 {w : World} {b : Nat} {x y z : Value} (h : BuZ w b #[x, y, z]) : w.cell? ⟨b, 0, none⟩ = some x := by rw [cell_of_row _ _ _ _ _ _ h]; rfl
theorem BuZ.c1 {w : World} {b : Nat} {x y z : Value} (h : BuZ w b #[x, y, z]) : w.cell? ⟨b, 1, none⟩ = some y := by rw [cell_of_row _ _ _ _ _ _ h]; rfl
theorem BuZ.c2 {w : World} {b : Nat} {x y z : Value} (h : BuZ w b #[x, y, z]) : w.cell? ⟨b, 2, none⟩ = some z := by rw [cell_of_row _ _ _ _ _ _ h]; rfl
theorem BuZ.set0 {w : World} {b : Nat} {x y z : Value} (h : BuZ w b #[x, y, z]) (v : Value) : BuZ (w.setCell ⟨b, 0, none⟩ v) b #[v, y, z] := heap_setCell_same w b 0 _ _ v h
theorem BuZ.set1 {w : World} {b : Nat} {x y z : Value} (h : BuZ w b #[x, y, z]) (v : Value) : BuZ (w.setCell ⟨b, 1, none⟩ v) b #[x, v, z] := heap_setCell_same w b 1 _ _ v h
theorem BuZ.set2 {w : World} {b : Nat} {x y z : Value} (h : BuZ w b #[x, y, z]) (v : Value) : BuZ (w.setCell ⟨b, 2, none⟩ v) b #[x, y, v] := heap_setCell_same w b 2 _ _ v h


set_option maxRecDepth 20000 in
set_option maxHeartbeats 4000000 in
theorem buOk_spec (c : Cf) (x : Bu) (W : World) :
    Calls Try.prog 25 #[.agg #[.int .i64 c.r, .int .i64 c.s, .int .i64 c.b, .int .i64 c.m, .int .i64 c.q, .int .i64 c.c, .int .i64 c.w], .agg #[.int .i64 x.l, .int .i64 x.s, .int .i64 x.g]] W fun e w' => e = .returned (.bool (bkB c x)) ∧ Fr W w' := by
  have cS := fun u => cfOk_spec c u
  simp only [bkB]
  generalize cfB c = B at cS ⊢
  obtain ⟨r, s, b, m, q, c, w⟩ := c
  obtain ⟨xl, xs, xg⟩ := x
  simp only at cS ⊢
  have aC := CfAt.new W ⟨r, s, b, m, q, c, w⟩ 29
  have f := Fr.alloc W (.cells #[.int .i64 r, .int .i64 s, .int .i64 b, .int .i64 m, .int .i64 q, .int .i64 c, .int .i64 w] 29)
  have aB : BuZ ((W.alloc (.cells #[.int .i64 r, .int .i64 s, .int .i64 b, .int .i64 m, .int .i64 q, .int .i64 c, .int .i64 w] 29)).alloc (.cells #[.int .i64 xl, .int .i64 xs, .int .i64 xg] 51)) (W.alloc (.cells #[.int .i64 r, .int .i64 s, .int .i64 b, .int .i64 m, .int .i64 q, .int .i64 c, .int .i64 w] 29)).heap.size #[.int .i64 xl, .int .i64 xs, .int .i64 xg] := heap_alloc_new _ _
  have f' := Fr.alloc (W.alloc (.cells #[.int .i64 r, .int .i64 s, .int .i64 b, .int .i64 m, .int .i64 q, .int .i64 c, .int .i64 w] 29)) (.cells #[.int .i64 xl, .int .i64 xs, .int .i64 xg] 51)
  replace f := f.trans f'
  replace aC := aC.fr f'
  clear f'
  have hs : (W.alloc (.cells #[.int .i64 r, .int .i64 s, .int .i64 b, .int .i64 m, .int .i64 q, .int .i64 c, .int .i64 w] 29)).heap.size = W.heap.size + 1 := by simp
  rw [hs] at aB
  clear hs
  have c1 := fun u => l1In_any xl 0 b u
  have c2 := fun u => l1In_any xs 0 m u
  have c3 := fun u => l1In_any xg 1 m u
  generalize inB 0 b xl = b1 at c1 ⊢
  generalize inB 0 m xs = b2 at c2 ⊢
  generalize inB 1 m xg = b3 at c3 ⊢
  go_enter Try.func25, Try.ntmps25
  go_wp2_with fail
  obtain ⟨U, hU⟩ : ∃ U, U = (W.alloc (.cells #[.int .i64 r, .int .i64 s, .int .i64 b, .int .i64 m, .int .i64 q, .int .i64 c, .int .i64 w] 29)).alloc (.cells #[.int .i64 xl, .int .i64 xs, .int .i64 xg] 51) := ⟨_, rfl⟩
  rw [← hU] at aC aB f ⊢
  clear hU
  refine (cS _).mono ?_
  rintro e u0 ⟨rfl, f0⟩
  clear cS
  obtain ⟨k0, k1, k2, k3, k4, k5, k6⟩ := aC.fr f0
  simp only [Nat.zero_add] at k0 k1 k2 k3 k4 k5 k6
  replace aB := aB.fr f0
  have l0 := aB.c0
  have l1 := aB.c1
  have l2 := aB.c2
  replace f := f.trans f0
  clear f0 aB aC
  cases B
  · go_wp2_with fail
    go_ret
    exact ⟨rfl, f⟩
  go_wp2_with fail
  refine (c1 _).mono ?_
  rintro e u1 ⟨rfl, rfl⟩
  clear c1
  cases b1
  · go_wp2_with fail
    go_ret
    exact ⟨rfl, f⟩
  go_wp2_with fail
  refine (c2 _).mono ?_
  rintro e u2 ⟨rfl, rfl⟩
  clear c2
  cases b2
  · go_wp2_with fail
    go_ret
    exact ⟨rfl, f⟩
  go_wp2_with fail
  refine (c3 _).mono ?_
  rintro e u3 ⟨rfl, rfl⟩
  clear c3
  cases b3
  · go_wp2_with fail
    go_ret
    exact ⟨rfl, f⟩
  go_wp2_with fail
  go_ret
  exact ⟨rfl, f⟩

set_option maxRecDepth 20000 in
set_option maxHeartbeats 4000000 in
theorem buOk_impl (c : Cf) (x : Bu) (W : World) :
    Calls Try.prog 50 #[.agg #[.int .i64 c.r, .int .i64 c.s, .int .i64 c.b, .int .i64 c.m, .int .i64 c.q, .int .i64 c.c, .int .i64 c.w], .agg #[.int .i64 x.l, .int .i64 x.s, .int .i64 x.g]] W fun e w' => e = .returned (.bool (bkB c x)) ∧ Fr W w' := by
  have cS := fun u => cfOk_impl c u
  simp only [bkB]
  generalize cfB c = B at cS ⊢
  obtain ⟨r, s, b, m, q, c, w⟩ := c
  obtain ⟨xl, xs, xg⟩ := x
  simp only at cS ⊢
  have aC := CfAt.new W ⟨r, s, b, m, q, c, w⟩ 29
  have f := Fr.alloc W (.cells #[.int .i64 r, .int .i64 s, .int .i64 b, .int .i64 m, .int .i64 q, .int .i64 c, .int .i64 w] 29)
  have aB : BuZ ((W.alloc (.cells #[.int .i64 r, .int .i64 s, .int .i64 b, .int .i64 m, .int .i64 q, .int .i64 c, .int .i64 w] 29)).alloc (.cells #[.int .i64 xl, .int .i64 xs, .int .i64 xg] 51)) (W.alloc (.cells #[.int .i64 r, .int .i64 s, .int .i64 b, .int .i64 m, .int .i64 q, .int .i64 c, .int .i64 w] 29)).heap.size #[.int .i64 xl, .int .i64 xs, .int .i64 xg] := heap_alloc_new _ _
  have f' := Fr.alloc (W.alloc (.cells #[.int .i64 r, .int .i64 s, .int .i64 b, .int .i64 m, .int .i64 q, .int .i64 c, .int .i64 w] 29)) (.cells #[.int .i64 xl, .int .i64 xs, .int .i64 xg] 51)
  replace f := f.trans f'
  replace aC := aC.fr f'
  clear f'
  have hs : (W.alloc (.cells #[.int .i64 r, .int .i64 s, .int .i64 b, .int .i64 m, .int .i64 q, .int .i64 c, .int .i64 w] 29)).heap.size = W.heap.size + 1 := by simp
  rw [hs] at aB
  clear hs
  have c1 := fun u => within_any xl 0 b u
  have c2 := fun u => within_any xs 0 m u
  have c3 := fun u => within_any xg 1 m u
  generalize inB 0 b xl = b1 at c1 ⊢
  generalize inB 0 m xs = b2 at c2 ⊢
  generalize inB 1 m xg = b3 at c3 ⊢
  go_enter Try.func50, Try.ntmps50
  go_wp2_with fail
  obtain ⟨U, hU⟩ : ∃ U, U = (W.alloc (.cells #[.int .i64 r, .int .i64 s, .int .i64 b, .int .i64 m, .int .i64 q, .int .i64 c, .int .i64 w] 29)).alloc (.cells #[.int .i64 xl, .int .i64 xs, .int .i64 xg] 51) := ⟨_, rfl⟩
  rw [← hU] at aC aB f ⊢
  clear hU
  refine (cS _).mono ?_
  rintro e u0 ⟨rfl, f0⟩
  clear cS
  obtain ⟨k0, k1, k2, k3, k4, k5, k6⟩ := aC.fr f0
  simp only [Nat.zero_add] at k0 k1 k2 k3 k4 k5 k6
  replace aB := aB.fr f0
  have l0 := aB.c0
  have l1 := aB.c1
  have l2 := aB.c2
  replace f := f.trans f0
  clear f0 aB aC
  cases B
  · go_wp2_with fail
    go_ret
    exact ⟨rfl, f⟩
  go_wp2_with fail
  refine (c1 _).mono ?_
  rintro e u1 ⟨rfl, rfl⟩
  clear c1
  cases b1
  · go_wp2_with fail
    go_ret
    exact ⟨rfl, f⟩
  go_wp2_with fail
  refine (c2 _).mono ?_
  rintro e u2 ⟨rfl, rfl⟩
  clear c2
  cases b2
  · go_wp2_with fail
    go_ret
    exact ⟨rfl, f⟩
  go_wp2_with fail
  refine (c3 _).mono ?_
  rintro e u3 ⟨rfl, rfl⟩
  clear c3
  cases b3
  · go_wp2_with fail
    go_ret
    exact ⟨rfl, f⟩
  go_wp2_with fail
  go_ret
  exact ⟨rfl, f⟩
end Go.Proofs.Ytkfcchapfklpgaa
/-
  Samplers: what a look makes of one: the model.
-/
namespace Go.Proofs.Ytkfcchapfklpgaa
open Go.RowKit

/-- An Own: whose it is, and the burst. -/
structure Ow where
  g : Int
  f : Int
  b : Bu
/-- A sampler. -/
structure Smp where
  os : List Ow
  p : Int
  u : Int

/-- Is (g, f) ahead of (h, k)? -/
def ahB (g f h k : Int) : Bool := decide (g < h) || (decide (g = h) && decide (f < k))
theorem ahB_true {g f h k : Int} : ahB g f h k = true ↔ g < h ∨ g = h ∧ f < k := by simp [ahB]
theorem ahB_false {g f h k : Int} : ahB g f h k = false ↔ ¬ (g < h ∨ g = h ∧ f < k) := by rw [← ahB_true]; simp
/-- Is the Own theirs? -/
def samB (o : Ow) (g f : Int) : Bool := decide (o.g = g) && decide (o.f = f)
theorem samB_true {o : Ow} {g f : Int} : samB o g f = true ↔ o.g = g ∧ o.f = f := by simp [samB]
theorem samB_false {o : Ow} {g f : Int} : samB o g f = false ↔ ¬ (o.g = g ∧ o.f = f) := by rw [← samB_true]; simp
/-- Is an Own right? -/
def owB (c : Cf) (o : Ow) : Bool := inB 0 15 o.g && inB 0 999 o.f && bkB c o.b
def owAt (c : Cf) (os : List Ow) : Nat → Bool
  | 0 => match os[0]? with
    | none => true
    | some o => owB c o
  | j + 1 => match os[j]?, os[j + 1]? with
    | some q, some o => owB c o && ahB q.g q.f o.g o.f
    | _, _ => true
def rowO (c : Cf) (os : List Ow) : Bool := (List.range os.length).all (owAt c os)
def smB (c : Cf) (s : Smp) : Bool := cfB c && decide (s.os.length ≤ 300) && inB (-1) 300 s.p && inB 0 c.q s.u && rowO c s.os

theorem owAt_zero {c : Cf} {os : List Ow} (h : 0 < os.length) : owAt c os 0 = owB c os[0] := by simp [owAt, List.getElem?_eq_getElem h]
theorem owAt_succ {c : Cf} {os : List Ow} {k : Nat} (h : k + 1 < os.length) : owAt c os (k + 1) = (owB c os[k + 1] && ahB os[k].g os[k].f os[k + 1].g os[k + 1].f) := by
  simp [owAt, List.getElem?_eq_getElem h, List.getElem?_eq_getElem (show k < os.length by omega)]
theorem owAt_bad {c : Cf} {os : List Ow} {k : Nat} (h : k < os.length) (hb : owB c os[k] = false) : owAt c os k = false := by
  cases k with
  | zero => rw [owAt_zero h, hb]
  | succ k => rw [owAt_succ h, hb, Bool.false_and]
theorem rowO_no {c : Cf} {os : List Ow} {k : Nat} (h : k < os.length) (hb : owAt c os k = false) : rowO c os = false := by
  rw [rowO, List.all_eq_false]
  exact ⟨k, List.mem_range.2 h, by simp [hb]⟩
theorem rowO_yes {c : Cf} {os : List Ow} (h : ∀ j, j < os.length → owAt c os j = true) : rowO c os = true := by
  rw [rowO, List.all_eq_true]
  exact fun j hj => h j (List.mem_range.1 hj)
theorem rowO_next {p : Nat → Prop} {k : Nat} (h : ∀ j, j < k → p j) (h2 : p k) : ∀ j, j < k + 1 → p j := fun j hj => by
  by_cases e : j = k
  · exact e ▸ h2
  · exact h j (by omega)
/-- They rise. -/
def RisO (os : List Ow) : Prop := os.Pairwise fun a b => ahB a.g a.f b.g b.f = true
theorem ah_trans {a b c : Ow} (h : ahB a.g a.f b.g b.f = true) (k : ahB b.g b.f c.g c.f = true) : ahB a.g a.f c.g c.f = true := by
  rw [ahB_true] at h k ⊢; omega
theorem rowO_iff {c : Cf} {os : List Ow} : rowO c os = true ↔ (∀ o ∈ os, owB c o = true) ∧ RisO os := by
  constructor
  · intro h
    rw [rowO, List.all_eq_true] at h
    have h : ∀ j, j < os.length → owAt c os j = true := fun j hj => h j (List.mem_range.2 hj)
    refine ⟨fun o ho => ?_, ?_⟩
    · obtain ⟨j, hj, rfl⟩ := List.mem_iff_getElem.1 ho
      cases hb : owB c os[j] with
      | true => rfl
      | false => have := h j hj; rw [owAt_bad hj hb] at this; cases this
    · have adj : ∀ j (hj : j + 1 < os.length), ahB os[j].g os[j].f os[j + 1].g os[j + 1].f = true := fun j hj => by
        have := h (j + 1) hj
        rw [owAt_succ hj, Bool.and_eq_true] at this
        exact this.2
      have far : ∀ d i (hj : i + d + 1 < os.length), ahB (os[i]'(by omega)).g (os[i]'(by omega)).f os[i + d + 1].g os[i + d + 1].f = true := by
        intro d
        induction d with
        | zero => intro i hj; exact adj i hj
        | succ d ih => intro i hj; exact ah_trans (ih i (by omega)) (adj (i + d + 1) (by omega))
      rw [RisO, List.pairwise_iff_getElem]
      intro i j hi hj hij
      have := far (j - i - 1) i (by omega)
      have e : i + (j - i - 1) + 1 = j := by omega
      simpa only [e] using this
  · rintro ⟨h1, h2⟩
    refine rowO_yes fun j hj => ?_
    cases j with
    | zero => rw [owAt_zero hj]; exact h1 _ (List.getElem_mem _)
    | succ k =>
      rw [owAt_succ hj, h1 _ (List.getElem_mem _), Bool.true_and]
      exact (List.pairwise_iff_getElem.1 h2) k (k + 1) (by omega) hj (by omega)
theorem smB_in {c : Cf} {s : Smp} (h : smB c s = true) : cfB c = true ∧ s.os.length ≤ 300 ∧ (-1 ≤ s.p ∧ s.p ≤ 300) ∧ (0 ≤ s.u ∧ s.u ≤ c.q) ∧ (∀ o ∈ s.os, owB c o = true) ∧ RisO s.os := by
  simp only [smB, Bool.and_eq_true, decide_eq_true_eq] at h
  obtain ⟨⟨⟨⟨h0, h1⟩, h2⟩, h3⟩, h4⟩ := h
  exact ⟨h0, h1, inB_true h2, inB_true h3, (rowO_iff.1 h4).1, (rowO_iff.1 h4).2⟩
theorem smB_mk {c : Cf} {s : Smp} (h0 : cfB c = true) (h1 : s.os.length ≤ 300) (h2 : -1 ≤ s.p ∧ s.p ≤ 300) (h3 : 0 ≤ s.u ∧ s.u ≤ c.q) (h4 : ∀ o ∈ s.os, owB c o = true) (h5 : RisO s.os) : smB c s = true := by
  simp only [smB, Bool.and_eq_true, decide_eq_true_eq]
  exact ⟨⟨⟨⟨h0, h1⟩, inB_mk h2.1 h2.2⟩, inB_mk h3.1 h3.2⟩, rowO_iff.2 ⟨h4, h5⟩⟩
theorem owB_in {c : Cf} {o : Ow} (h : owB c o = true) : (0 ≤ o.g ∧ o.g ≤ 15) ∧ (0 ≤ o.f ∧ o.f ≤ 999) ∧ bkB c o.b = true := by
  simp only [owB, Bool.and_eq_true] at h
  exact ⟨inB_true h.1.1, inB_true h.1.2, h.2⟩
theorem owB_mk {c : Cf} {o : Ow} (h1 : 0 ≤ o.g ∧ o.g ≤ 15) (h2 : 0 ≤ o.f ∧ o.f ≤ 999) (h3 : bkB c o.b = true) : owB c o = true := by
  simp only [owB, Bool.and_eq_true]
  exact ⟨⟨inB_mk h1.1 h1.2, inB_mk h2.1 h2.2⟩, h3⟩

/-- What a list has of (g, f). -/
def getO : List Ow → Int → Int → Option Bu
  | [], _, _ => none
  | o :: os, g, f => if samB o g f then some o.b else getO os g f
/-- Theirs, or a new one. -/
def ofO (c : Cf) (os : List Ow) (g f : Int) : Bu := (getO os g f).getD (nwB c)
/-- With x in its place. -/
def putO : List Ow → Ow → List Ow
  | [], x => [x]
  | o :: os, x => if ahB o.g o.f x.g x.f then o :: putO os x else if samB o x.g x.f then x :: os else x :: o :: os

theorem getO_some {os : List Ow} {g f : Int} {b : Bu} (h : getO os g f = some b) : ⟨g, f, b⟩ ∈ os := by
  induction os with
  | nil => cases h
  | cons o os ih =>
    unfold getO at h
    by_cases e : samB o g f = true
    · rw [if_pos e] at h
      obtain ⟨rfl, rfl⟩ := samB_true.1 e
      cases h
      exact List.mem_cons_self
    · rw [if_neg e] at h
      exact List.mem_cons_of_mem _ (ih h)
theorem getO_mem {os : List Ow} (hr : RisO os) {o : Ow} (h : o ∈ os) : getO os o.g o.f = some o.b := by
  induction os with
  | nil => cases h
  | cons q os ih =>
    obtain ⟨h1, h2⟩ := List.pairwise_cons.1 hr
    unfold getO
    rcases List.mem_cons.1 h with rfl | hm
    · rw [if_pos (samB_true.2 ⟨rfl, rfl⟩)]
    · have := h1 o hm
      rw [ahB_true] at this
      rw [if_neg (by rw [samB_true]; omega)]
      exact ih h2 hm
theorem getO_none {os : List Ow} {g f : Int} : getO os g f = none ↔ ∀ o ∈ os, ¬ (o.g = g ∧ o.f = f) := by
  induction os with
  | nil => simp [getO]
  | cons q os ih =>
    unfold getO
    by_cases e : samB q g f = true
    · rw [if_pos e]
      constructor
      · intro h; cases h
      · intro h; exact absurd (samB_true.1 e) (h q List.mem_cons_self)
    · rw [if_neg e, ih]
      simp only [List.mem_cons, forall_eq_or_imp]
      exact ⟨fun h => ⟨fun q => e (samB_true.2 q), h⟩, fun h => h.2⟩
theorem putO_mem {os : List Ow} {x o : Ow} (h : o ∈ putO os x) : o = x ∨ o ∈ os := by
  induction os with
  | nil => simpa [putO] using h
  | cons q os ih =>
    unfold putO at h
    split at h
    · rcases List.mem_cons.1 h with rfl | hm
      · exact .inr List.mem_cons_self
      · rcases ih hm with e | e
        · exact .inl e
        · exact .inr (List.mem_cons_of_mem _ e)
    · split at h
      · rcases List.mem_cons.1 h with e | hm
        · exact .inl e
        · exact .inr (List.mem_cons_of_mem _ hm)
      · rcases List.mem_cons.1 h with e | hm
        · exact .inl e
        · exact .inr hm
theorem putO_ris {os : List Ow} (hr : RisO os) (x : Ow) : RisO (putO os x) := by
  induction os with
  | nil => simp [putO, RisO]
  | cons q os ih =>
    obtain ⟨h1, h2⟩ := List.pairwise_cons.1 hr
    unfold putO
    by_cases ha : ahB q.g q.f x.g x.f = true
    · rw [if_pos ha]
      refine List.pairwise_cons.2 ⟨fun o ho => ?_, ih h2⟩
      rcases putO_mem ho with rfl | hm
      · exact ha
      · exact h1 o hm
    · rw [if_neg ha]
      by_cases hs : samB q x.g x.f = true
      · rw [if_pos hs]
        obtain ⟨e1, e2⟩ := samB_true.1 hs
        refine List.pairwise_cons.2 ⟨fun o ho => ?_, h2⟩
        rw [← e1, ← e2]
        exact h1 o ho
      · rw [if_neg hs]
        rw [ahB_true] at ha
        rw [samB_true] at hs
        have hx : ahB x.g x.f q.g q.f = true := by rw [ahB_true]; omega
        refine List.pairwise_cons.2 ⟨fun o ho => ?_, hr⟩
        rcases List.mem_cons.1 ho with rfl | hm
        · exact hx
        · exact ah_trans hx (h1 o hm)
theorem putO_get {os : List Ow} (hr : RisO os) (x : Ow) (g f : Int) : getO (putO os x) g f = if samB x g f then some x.b else getO os g f := by
  induction os with
  | nil => simp [putO, getO]
  | cons q os ih =>
    obtain ⟨h1, h2⟩ := List.pairwise_cons.1 hr
    unfold putO
    by_cases ha : ahB q.g q.f x.g x.f = true
    · rw [if_pos ha]
      rw [getO, ih h2, getO]
      by_cases hs : samB q g f = true
      · rw [if_pos hs, if_pos hs]
        rw [ahB_true] at ha
        rw [samB_true] at hs
        rw [if_neg (by rw [samB_true]; omega)]
      · rw [if_neg hs, if_neg hs]
    · rw [if_neg ha]
      by_cases hs : samB q x.g x.f = true
      · rw [if_pos hs]
        rw [getO, getO]
        by_cases hx : samB x g f = true
        · rw [if_pos hx, if_pos hx]
        · rw [if_neg hx, if_neg hx]
          rw [samB_true] at hs hx
          rw [if_neg (by rw [samB_true]; omega)]
      · rw [if_neg hs, getO]
theorem putO_len {os : List Ow} (hr : RisO os) (x : Ow) : (putO os x).length = if (getO os x.g x.f).isSome then os.length else os.length + 1 := by
  induction os with
  | nil => simp [putO, getO]
  | cons q os ih =>
    obtain ⟨h1, h2⟩ := List.pairwise_cons.1 hr
    unfold putO
    by_cases ha : ahB q.g q.f x.g x.f = true
    · rw [if_pos ha, getO]
      have ha := ahB_true.1 ha
      have hs : ¬ samB q x.g x.f = true := by rw [samB_true]; omega
      rw [if_neg hs, List.length_cons, ih h2, List.length_cons]
      split <;> rfl
    · rw [if_neg ha]
      by_cases hs : samB q x.g x.f = true
      · rw [if_pos hs, getO, if_pos hs]; rfl
      · rw [if_neg hs]
        have hn : getO (q :: os) x.g x.f = none := by
          rw [getO_none]
          intro o ho
          rw [ahB_true] at ha
          rw [samB_true] at hs
          rcases List.mem_cons.1 ho with rfl | hm
          · omega
          · have := h1 o hm
            rw [ahB_true] at this
            omega
        rw [hn]; rfl

theorem putO_putO (os : List Ow) (g f : Int) (b b' : Bu) : putO (putO os ⟨g, f, b⟩) ⟨g, f, b'⟩ = putO os ⟨g, f, b'⟩ := by
  have hi : ahB g f g f = false := by rw [ahB_false]; omega
  have hs : ∀ b, samB ⟨g, f, b⟩ g f = true := fun b => samB_true.2 ⟨rfl, rfl⟩
  induction os with
  | nil => simp [putO, hi, hs]
  | cons o os ih =>
    by_cases h1 : ahB o.g o.f g f = true
    · simp [putO, h1, ih]
    · have h1 : ahB o.g o.f g f = false := by simpa using h1
      by_cases h2 : samB o g f = true
      · simp [putO, h1, h2, hi, hs]
      · have h2 : samB o g f = false := by simpa using h2
        simp [putO, h1, h2, hi, hs]
theorem putO_same {os : List Ow} (hr : RisO os) {g f : Int} {b : Bu} (h : getO os g f = some b) : putO os ⟨g, f, b⟩ = os := by
  induction os with
  | nil => cases h
  | cons o os ih =>
    obtain ⟨h1, h2⟩ := List.pairwise_cons.1 hr
    unfold getO at h
    by_cases e : samB o g f = true
    · rw [if_pos e] at h
      obtain ⟨rfl, rfl⟩ := samB_true.1 e
      cases h
      have hi : ahB o.g o.f o.g o.f = false := by rw [ahB_false]; omega
      simp [putO, hi, e]
    · rw [if_neg e] at h
      have ha := h1 _ (getO_some h)
      simp only at ha
      simp [putO, ha, ih h2 h]
theorem putO_self {os : List Ow} (hr : RisO os) (x : Ow) : x ∈ putO os x := by
  have := putO_get hr x x.g x.f
  rw [if_pos (samB_true.2 ⟨rfl, rfl⟩)] at this
  exact getO_some this
/-- Who is in the list and is not x was there, and is not theirs. -/
theorem putO_old {os : List Ow} (hr : RisO os) {x o : Ow} (h : o ∈ putO os x) : o = x ∨ (o ∈ os ∧ ¬ (o.g = x.g ∧ o.f = x.f)) := by
  by_cases e : o.g = x.g ∧ o.f = x.f
  · left
    have h1 := getO_mem (putO_ris hr x) h
    rw [putO_get hr x, e.1, e.2, if_pos (samB_true.2 ⟨rfl, rfl⟩)] at h1
    obtain ⟨og, of, ob⟩ := o
    obtain ⟨xg, xf, xb⟩ := x
    simp only at e h1
    obtain ⟨rfl, rfl⟩ := e
    cases h1
    rfl
  · rcases putO_mem h with rfl | hm
    · exact .inl rfl
    · exact .inr ⟨hm, e⟩

/-- Behind all. -/
theorem putO_last {os : List Ow} {x : Ow} (h : ∀ o ∈ os, ahB o.g o.f x.g x.f = true) : putO os x = os ++ [x] := by
  induction os with
  | nil => rfl
  | cons o os ih =>
    unfold putO
    rw [if_pos (h o List.mem_cons_self), ih (fun q hq => h q (List.mem_cons_of_mem _ hq))]
    rfl
theorem ris_take {os : List Ow} (hr : RisO os) {k : Nat} (hk : k < os.length) : putO (os.take k) os[k] = os.take (k + 1) ∧ getO (os.take k) os[k].g os[k].f = none ∧ RisO (os.take k) := by
  have h : ∀ o ∈ os.take k, ahB o.g o.f os[k].g os[k].f = true := fun o ho => by
    obtain ⟨j, hj, rfl⟩ := List.mem_iff_getElem.1 ho
    rw [List.length_take] at hj
    rw [List.getElem_take]
    exact (List.pairwise_iff_getElem.1 hr) j k (by omega) hk (by omega)
  refine ⟨?_, ?_, hr.sublist (List.take_sublist _ _)⟩
  · rw [putO_last h, List.take_add_one, List.getElem?_eq_getElem hk]
    rfl
  · rw [getO_none]
    intro o ho e
    have := h o ho
    rw [ahB_true] at this
    omega

/-- The specification's way to put: the list so far, and whether x is in it. -/
def stP (x : Ow) (s : List Ow × Bool) (o : Ow) : List Ow × Bool :=
  ((if !s.2 && !ahB o.g o.f x.g x.f then s.1 ++ [x] else s.1) ++ (if samB o x.g x.f then [] else [o]), s.2 || !ahB o.g o.f x.g x.f)
def putL (os : List Ow) (x : Ow) : List Ow := (os.foldl (stP x) ([], false)).1 ++ (if (os.foldl (stP x) ([], false)).2 then [] else [x])
theorem putL_past {os : List Ow} {x : Ow} (h : ∀ o ∈ os, ahB x.g x.f o.g o.f = true) (acc : List Ow) : os.foldl (stP x) (acc, true) = (acc ++ os, true) := by
  induction os generalizing acc with
  | nil => simp
  | cons q os ih =>
    have hq := ahB_true.1 (h q List.mem_cons_self)
    have hs : samB q x.g x.f = false := by rw [samB_false]; omega
    rw [List.foldl_cons]
    have : stP x (acc, true) q = (acc ++ [q], true) := by simp [stP, hs]
    rw [this, ih (fun o ho => h o (List.mem_cons_of_mem _ ho))]
    simp
theorem putL_at {os : List Ow} (hr : RisO os) (x : Ow) (acc : List Ow) : (os.foldl (stP x) (acc, false)).1 ++ (if (os.foldl (stP x) (acc, false)).2 then [] else [x]) = acc ++ putO os x := by
  induction os generalizing acc with
  | nil => simp [putO]
  | cons q os ih =>
    obtain ⟨h1, h2⟩ := List.pairwise_cons.1 hr
    rw [List.foldl_cons]
    unfold putO
    by_cases ha : ahB q.g q.f x.g x.f = true
    · rw [if_pos ha]
      have hs : samB q x.g x.f = false := by
        have ha := ahB_true.1 ha
        rw [samB_false]; omega
      have : stP x (acc, false) q = (acc ++ [q], false) := by simp [stP, hs, ha]
      rw [this, ih h2]
      simp
    · rw [if_neg ha]
      have ha' : ahB q.g q.f x.g x.f = false := by simpa using ha
      by_cases hs : samB q x.g x.f = true
      · rw [if_pos hs]
        have : stP x (acc, false) q = (acc ++ [x], true) := by simp [stP, hs, ha']
        obtain ⟨e1, e2⟩ := samB_true.1 hs
        rw [this, putL_past (fun o ho => by rw [← e1, ← e2]; exact h1 o ho)]
        simp
      · rw [if_neg hs]
        have hs' : samB q x.g x.f = false := by simpa using hs
        have : stP x (acc, false) q = (acc ++ [x, q], true) := by simp [stP, hs', ha']
        rw [ahB_true] at ha
        rw [samB_true] at hs
        have hx : ahB x.g x.f q.g q.f = true := by rw [ahB_true]; omega
        rw [this, putL_past (fun o ho => ah_trans hx (h1 o ho))]
        simp
theorem putL_eq {os : List Ow} (hr : RisO os) (x : Ow) : putL os x = putO os x := by
  have := putL_at hr x []
  simpa [putL] using this

/-- What a look makes of a sampler, and whether it is looked at. -/
def lkU (c : Cf) (s : Smp) (n : Int) : Int := if s.p = n / c.s then s.u else 0
def lkT (c : Cf) (s : Smp) (n g f : Int) : Bool := stB2 c (ofO c s.os g f) && decide (lkU c s n < c.q)
def lkS (c : Cf) (xs : List Int) (s : Smp) (n g f : Int) : Smp :=
  if onB c xs n then ⟨putO s.os ⟨g, f, stB1 c (ofO c s.os g f)⟩, n / c.s, if lkT c s n g f then lkU c s n + 1 else lkU c s n⟩ else s
def lkB (c : Cf) (xs : List Int) (s : Smp) (n g f : Int) : Bool := onB c xs n && lkT c s n g f
/-- Is a look refused? -/
def lkOk (c : Cf) (xs : List Int) (s : Smp) (n g f : Int) : Bool := stB c xs && smB c s && inB 0 299 n && inB 0 15 g && inB 0 999 f
def fullB (c : Cf) (xs : List Int) (s : Smp) (n g f : Int) : Bool := onB c xs n && !(getO s.os g f).isSome && decide (300 ≤ s.os.length)

theorem st_ok {c : Cf} {x : Bu} (h : bkB c x = true) : bkB c (stB1 c x) = true := by
  have q := bkB_in h
  have qc := cfB_in q.1
  obtain ⟨q0, q1, q2, q3, q4⟩ := q
  unfold stB1
  rw [if_pos h]
  by_cases h1 : x.l = 0
  · have h2 := q4.1 h1
    rw [if_neg (fun e => e h1)]
    by_cases h3 : x.s - 1 = 0
    · rw [if_pos h3]
      exact bkB_mk q0 (by simp only; omega) (by simp only; omega) (by simp only; omega) (by simp only; omega)
    · rw [if_neg h3]
      exact bkB_mk q0 (by simp only; omega) (by simp only; omega) (by simp only; omega) (by simp only; omega)
  · have h2 : x.s = 0 := by
      by_cases e : x.s = 0
      · exact e
      · exact absurd (q4.2 e) h1
    rw [if_pos h1]
    by_cases h3 : x.l - 1 = 0
    · rw [if_pos h3]
      exact bkB_mk q0 (by simp only; omega) (by simp only; omega) (by simp only; omega) (by simp only; omega)
    · rw [if_neg h3]
      exact bkB_mk q0 (by simp only; omega) (by simp only; omega) (by simp only; omega) (by simp only; omega)
theorem nw_ok {c : Cf} (h : cfB c = true) : bkB c (nwB c) = true := by
  have q := cfB_in h
  unfold nwB
  rw [if_pos h]
  exact bkB_mk h (by simp only; omega) (by simp only; omega) (by simp only; omega) (by simp only; omega)
theorem of_ok {c : Cf} {os : List Ow} (hc : cfB c = true) (h : ∀ o ∈ os, owB c o = true) (g f : Int) : bkB c (ofO c os g f) = true := by
  unfold ofO
  cases e : getO os g f with
  | none => exact nw_ok hc
  | some b => exact (owB_in (h _ (getO_some e))).2.2
theorem put_ok {c : Cf} {os : List Ow} (h : ∀ o ∈ os, owB c o = true) {x : Ow} (hx : owB c x = true) : ∀ o ∈ putO os x, owB c o = true := fun o ho => by
  rcases putO_mem ho with rfl | hm
  · exact hx
  · exact h o hm
/-- A right sampler stays right, but for the number of its Owns. -/
theorem lk_ok {c : Cf} {xs : List Int} {s : Smp} {n g f : Int} (h : smB c s = true) (hn : 0 ≤ n ∧ n ≤ 299) (hg : 0 ≤ g ∧ g ≤ 15) (hf : 0 ≤ f ∧ f ≤ 999) (hl : (lkS c xs s n g f).os.length ≤ 300) : smB c (lkS c xs s n g f) = true := by
  unfold lkS at hl ⊢
  split
  · rename_i ho
    rw [if_pos ho] at hl
    obtain ⟨h0, h1, h2, h3, h4, h5⟩ := smB_in h
    have qc := cfB_in h0
    have d0 : 0 ≤ n / c.s := Int.ediv_nonneg hn.1 (by omega)
    have d1 : n / c.s ≤ n := Int.ediv_le_self _ hn.1
    refine smB_mk h0 hl ⟨by simp only; omega, by simp only; omega⟩ ?_ (put_ok h4 (owB_mk hg hf (st_ok (of_ok h0 h4 g f)))) (putO_ris h5 _)
    have hu : 0 ≤ lkU c s n ∧ lkU c s n ≤ c.q := by unfold lkU; split <;> omega
    simp only
    split
    · rename_i ht
      simp only [lkT, Bool.and_eq_true, decide_eq_true_eq] at ht
      omega
    · exact hu
  · exact h
theorem lk_len {c : Cf} {xs : List Int} {s : Smp} {n g f : Int} (hr : RisO s.os) : (lkS c xs s n g f).os.length ≤ s.os.length + 1 ∧ (300 < (lkS c xs s n g f).os.length ↔ (fullB c xs s n g f = true ∨ 300 < s.os.length)) := by
  unfold lkS fullB
  by_cases ho : onB c xs n = true
  · rw [if_pos ho, ho]
    simp only [putO_len hr]
    cases hg : (getO s.os g f).isSome
    · simp; omega
    · simp
  · rw [if_neg ho]
    simp [ho]
end Go.Proofs.Ytkfcchapfklpgaa
