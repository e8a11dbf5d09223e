/-
  Periods: what is on, what opens: of the program and of its specification.
-/
import Derived.Test.YtcdjblgjcdkdnaaPrd
import Derived.BigQuiet
namespace Go.Proofs.Ytcdjblgjcdkdnaa
open Go.RowKit

/-- Is the event at n on? -/
def onB (c : Cf) (xs : List Int) (n : Int) : Bool := decide (n / c.s < (xs.length : Int)) && decide (xs.getD (n / c.s).toNat 0 < c.r)
/-- Does it open a period? -/
def opB (c : Cf) (xs : List Int) (n : Int) : Bool := onB c xs n && decide (n % c.s = 0)
def stB (c : Cf) (xs : List Int) : Bool := cfB c && dwB xs
def onAtB (c : Cf) (xs : List Int) (n : Int) : Bool := decide (0 ≤ n) && stB c xs && onB c xs n
def opAtB (c : Cf) (xs : List Int) (n : Int) : Bool := decide (0 ≤ n) && stB c xs && opB c xs n
/-- How many open below k. -/
def opN (c : Cf) (xs : List Int) : Nat → Int
  | 0 => 0
  | k + 1 => opN c xs k + if opB c xs (k : Int) then 1 else 0
def opV (c : Cf) (xs : List Int) (n : Int) : Int := if stB c xs && inB 0 300 n then opN c xs n.toNat else -1
theorem opN_in (c : Cf) (xs : List Int) (k : Nat) : 0 ≤ opN c xs k ∧ opN c xs k ≤ k := by
  induction k with
  | zero => simp [opN]
  | succ k ih => unfold opN; split <;> omega

theorem onAtB_no {c : Cf} {xs : List Int} {n : Int} (h : n < 0 ∨ stB c xs = false) : onAtB c xs n = false := by
  rcases h with h | h
  · have : decide (0 ≤ n) = false := decide_eq_false (by omega)
    simp [onAtB, this]
  · simp [onAtB, h]
theorem opAtB_no {c : Cf} {xs : List Int} {n : Int} (h : n < 0 ∨ stB c xs = false) : opAtB c xs n = false := by
  rcases h with h | h
  · have : decide (0 ≤ n) = false := decide_eq_false (by omega)
    simp [opAtB, this]
  · simp [opAtB, h]
theorem onAtB_yes {c : Cf} {xs : List Int} {n : Int} (h : 0 ≤ n) (k : stB c xs = true) : onAtB c xs n = onB c xs n := by simp [onAtB, h, k]
theorem opAtB_yes {c : Cf} {xs : List Int} {n : Int} (h : 0 ≤ n) (k : stB c xs = true) : opAtB c xs n = opB c xs n := by simp [opAtB, h, k]
theorem opAtB_on {c : Cf} {xs : List Int} {n : Int} : opAtB c xs n = (onAtB c xs n && decide (n % c.s = 0)) := by
  simp only [opAtB, onAtB, opB, Bool.and_assoc]

/-- A whole limited config is read. -/
theorem load_lc {ops : Array Oper} {rest : List Oper} {o : Oper} {a : Act} {w : World} {Q : Exit → Act → World → Prop} {b : Nat} {c : Cf} (hw : Region.wanted o (yielded ops a.tmps) = true) (x : Operand) (ho : o.op = .load 58 x)
    (hx : a.eval x = .pointer (some ⟨b, 0, none⟩)) (h : LcZ w b #[.int .i64 0, .int .i64 1, .int .i64 1, .int .i64 1, .int .i64 0, .int .i64 1, .int .i64 1, .int .i64 1000000, .int .i64 1000, .int .i64 1000, .int .i64 100000, .int .i64 100000, .int .i64 512, .int .i64 64, .int .i64 c.r, .int .i64 c.s, .int .i64 c.b, .int .i64 c.m, .int .i64 c.q, .int .i64 c.c, .int .i64 c.w]) (k : wpList Try.prog ops Q rest (a.put o.dst (.agg #[.int .i64 0, .int .i64 1, .int .i64 1, .int .i64 1, .int .i64 0, .int .i64 1, .int .i64 1, .int .i64 1000000, .int .i64 1000, .int .i64 1000, .int .i64 100000, .int .i64 100000, .int .i64 512, .int .i64 64, .int .i64 c.r, .int .i64 c.s, .int .i64 c.b, .int .i64 c.m, .int .i64 c.q, .int .i64 c.c, .int .i64 c.w])) w) : wpList Try.prog ops Q (o :: rest) a w := by
  refine wpList_step fun K hK => ?_
  rw [if_pos hw]
  have hr := run_loadVar_row (P := Try.prog) w b 58 58 #[.int .i64 0, .int .i64 1, .int .i64 1, .int .i64 1, .int .i64 0, .int .i64 1, .int .i64 1, .int .i64 1000000, .int .i64 1000, .int .i64 1000, .int .i64 100000, .int .i64 100000, .int .i64 512, .int .i64 64, .int .i64 c.r, .int .i64 c.s, .int .i64 c.b, .int .i64 c.m, .int .i64 c.q, .int .i64 c.c, .int .i64 c.w] (0, 0) _ h Try.underlying58 rfl (by kernel_rfl)
  unfold Oper.wp execOp
  simp only [ho, hx, Instr.loadAt, Instr.sureAddr, Sem.run_bind, Sem.run_pure, Result.andThen_ok, hr]
  exact hK _ _ k

/-- A limited config is stored into a new block. -/
theorem store_lc {ops : Array Oper} {rest : List Oper} {o : Oper} {a : Act} {w : World} {Q : Exit → Act → World → Prop} {b : Nat} {c : Cf} {old : Array Value} (hgd : o.guard = none) (x y : Operand) (ho : o.op = .store 58 x y)
    (hx : a.eval x = .pointer (some ⟨b, 0, none⟩)) (hy : a.eval y = .agg #[.int .i64 0, .int .i64 1, .int .i64 1, .int .i64 1, .int .i64 0, .int .i64 1, .int .i64 1, .int .i64 1000000, .int .i64 1000, .int .i64 1000, .int .i64 100000, .int .i64 100000, .int .i64 512, .int .i64 64, .int .i64 c.r, .int .i64 c.s, .int .i64 c.b, .int .i64 c.m, .int .i64 c.q, .int .i64 c.c, .int .i64 c.w]) (h : LcZ w b old) (hs : old.size = 21)
    (k : ∀ w', LcZ w' b #[.int .i64 0, .int .i64 1, .int .i64 1, .int .i64 1, .int .i64 0, .int .i64 1, .int .i64 1, .int .i64 1000000, .int .i64 1000, .int .i64 1000, .int .i64 100000, .int .i64 100000, .int .i64 512, .int .i64 64, .int .i64 c.r, .int .i64 c.s, .int .i64 c.b, .int .i64 c.m, .int .i64 c.q, .int .i64 c.c, .int .i64 c.w] → w.grownBy w' (some b) → wpList Try.prog ops Q rest (a.put o.dst undef) w') : wpList Try.prog ops Q (o :: rest) a w :=
  wpList_store_row hgd 58 x y ho b #[.int .i64 0, .int .i64 1, .int .i64 1, .int .i64 1, .int .i64 0, .int .i64 1, .int .i64 1, .int .i64 1000000, .int .i64 1000, .int .i64 1000, .int .i64 100000, .int .i64 100000, .int .i64 512, .int .i64 64, .int .i64 c.r, .int .i64 c.s, .int .i64 c.b, .int .i64 c.m, .int .i64 c.q, .int .i64 c.c, .int .i64 c.w] hx hy 58 old h (by kernel_rfl) (by rw [hs]; rfl) (by simp [Value.oneCell']) (k _ h.set (LcZ.grown w b _))
end Go.Proofs.Ytcdjblgjcdkdnaa
