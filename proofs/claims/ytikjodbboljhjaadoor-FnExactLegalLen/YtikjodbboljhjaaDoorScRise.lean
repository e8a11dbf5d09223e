/-
  The program's small words on scenes: within, the numbers of things, risesTo.
-/
import Derived.Test.YtikjodbboljhjaaDoorScRow
namespace Go.Proofs.YtikjodbboljhjaaDoor
open Go.RowKit

theorem itself_any (x : Int) (w : World) :
    Calls Tryd.prog 43 #[.int .i64 x] w fun e w' => e = .returned (.int .i64 x) ∧ w' = w := by
  go_enter Tryd.func43, Tryd.ntmps43
  go_wp2
  go_ret
  exact ⟨rfl, rfl⟩
theorem lockNumber_any (l : Lv) (w : World) :
    Calls Tryd.prog 37 #[.agg #[.int .i64 l.o, .int .i64 l.wr, .slice l.ro l.rn l.rc]] w fun e w' => e = .returned (.int .i64 l.o) ∧ Fr w w' := by
  obtain ⟨o, wr, ro, rn, rc⟩ := l
  simp only
  go_enter Tryd.func37, Tryd.ntmps37
  go_wp2
  go_ret
  exact ⟨rfl, Fr.alloc _ _⟩
theorem chanNumber_any (l : Ch) (w : World) :
    Calls Tryd.prog 39 #[.agg #[.int .i64 l.o, .int .i64 l.cap, .int .i64 l.sent, .int .i64 l.got, .bool l.cl]] w fun e w' => e = .returned (.int .i64 l.o) ∧ Fr w w' := by
  obtain ⟨o, cap, sent, got, cl⟩ := l
  simp only
  go_enter Tryd.func39, Tryd.ntmps39
  go_wp2
  go_ret
  exact ⟨rfl, Fr.alloc _ _⟩
theorem countNumber_any (l : Ct) (w : World) :
    Calls Tryd.prog 41 #[.agg #[.int .i64 l.o, .int .i64 l.n]] w fun e w' => e = .returned (.int .i64 l.o) ∧ Fr w w' := by
  obtain ⟨o, n⟩ := l
  simp only
  go_enter Tryd.func41, Tryd.ntmps41
  go_wp2
  go_ret
  exact ⟨rfl, Fr.alloc _ _⟩

/-- Do the numbers rise from last on, up to most? -/
def upFrom (most : Int) : Int → List Int → Bool
  | _, [] => true
  | last, x :: xs => decide (last < x) && decide (x ≤ most) && upFrom most x xs
theorem upFrom_yes {most last : Int} {xs : List Int} {k : Nat} (hk : k < xs.length) (h1 : last < xs[k]) (h2 : xs[k] ≤ most) : upFrom most last (xs.drop k) = upFrom most xs[k] (xs.drop (k + 1)) := by
  rw [List.drop_eq_getElem_cons hk, upFrom, decide_eq_true h1, decide_eq_true h2]
  rfl
theorem upFrom_no {most last : Int} {xs : List Int} {k : Nat} (hk : k < xs.length) (h : xs[k] ≤ last ∨ most < xs[k]) : upFrom most last (xs.drop k) = false := by
  rw [List.drop_eq_getElem_cons hk, upFrom]
  rcases h with h | h
  · rw [decide_eq_false (by omega)]; rfl
  · rw [decide_eq_false (show ¬ xs[k] ≤ most by omega), Bool.and_false, Bool.false_and]

end Go.Proofs.YtikjodbboljhjaaDoor
