/-
  Look-ups in a scene: l4CountOf, l4LockOf, l4ChanOf.
-/
import Derived.Test.YtnekojcgbokhpaaSc
namespace Go.Proofs.Ytnekojcgbokhpaa
open Go.RowKit

theorem count_yes (gs : List Ct) (o : Int) (k : Nat) (hk : k < gs.length) (h : ∀ j (hj : j < gs.length), j < k → (gs[j].o == o) = false) (he : (gs[k].o == o) = true) : countOf gs o = gs[k].n := by
  rw [countOf, find_at _ gs k hk h he]; rfl
theorem count_no (gs : List Ct) (o : Int) (h : ∀ j (hj : j < gs.length), (gs[j].o == o) = false) : countOf gs o = 0 := by
  rw [countOf, find_none _ gs h]; rfl
theorem upto_step {α : Type} (p : α → Bool) (xs : List α) (k : Nat) (h : ∀ j (hj : j < xs.length), j < k → p xs[j] = false) (hk : k < xs.length) (he : p xs[k] = false) : ∀ j (hj : j < xs.length), j < k + 1 → p xs[j] = false := by
  intro j hj hjk
  by_cases e : j = k
  · subst e; exact he
  · exact h j hj (by omega)

theorem lock_yes (ls : List Lk) (o : Int) (k : Nat) (hk : k < ls.length) (h : ∀ j (hj : j < ls.length), j < k → (ls[j].o == o) = false) (he : (ls[k].o == o) = true) : lockOf ls o = ls[k] := by
  rw [lockOf, find_at _ ls k hk h he]; rfl
theorem lock_no (ls : List Lk) (o : Int) (h : ∀ j (hj : j < ls.length), (ls[j].o == o) = false) : lockOf ls o = ⟨o, -1, []⟩ := by
  rw [lockOf, find_none _ ls h]; rfl
theorem i64_m1 : I64 (-1) := ⟨by decide, by decide⟩
/-- A lock's three cells. -/
theorem lvB_new (w : World) (l : Lv) : (w.alloc (.cells #[.int .i64 l.o, .int .i64 l.wr, .slice l.ro l.rn l.rc] 48)).cell? ⟨w.heap.size, 0, none⟩ = some (.int .i64 l.o) ∧ (w.alloc (.cells #[.int .i64 l.o, .int .i64 l.wr, .slice l.ro l.rn l.rc] 48)).cell? ⟨w.heap.size, 1, none⟩ = some (.int .i64 l.wr) ∧ (w.alloc (.cells #[.int .i64 l.o, .int .i64 l.wr, .slice l.ro l.rn l.rc] 48)).cell? ⟨w.heap.size, 2, none⟩ = some (.slice l.ro l.rn l.rc) :=
  ⟨by simp [go_sem], by simp [go_sem], by simp [go_sem]⟩

theorem chan_yes (cs : List Ch) (o : Int) (k : Nat) (hk : k < cs.length) (h : ∀ j (hj : j < cs.length), j < k → (cs[j].o == o) = false) (he : (cs[k].o == o) = true) : chanOf cs o = cs[k] ∧ isChan cs o = true := by
  rw [chanOf, isChan, find_at _ cs k hk h he]; exact ⟨rfl, rfl⟩
theorem chan_no (cs : List Ch) (o : Int) (h : ∀ j (hj : j < cs.length), (cs[j].o == o) = false) : chanOf cs o = ⟨o, 0, 0, 0, false⟩ ∧ isChan cs o = false := by
  rw [chanOf, isChan, find_none _ cs h]; exact ⟨rfl, rfl⟩

end Go.Proofs.Ytnekojcgbokhpaa
