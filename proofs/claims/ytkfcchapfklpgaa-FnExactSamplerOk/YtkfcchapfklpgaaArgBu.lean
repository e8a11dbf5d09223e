/-
  A burst that came in; the laws' own copy of it, and their comparison.
-/
import Derived.Test.YtkfcchapfklpgaaBrs
import Derived.Test.YtkfcchapfklpgaaArgCf
namespace Go.Proofs.Ytkfcchapfklpgaa
open Go.ChangeShapes Go.WideShapes Go.ChangeAt Go.RowKit

/-- The numbers of a burst fit. -/
def BuI (b : Bu) : Prop := I64 b.l ∧ I64 b.s ∧ I64 b.g

theorem cells_bu : Try.prog.cellsOf 79 = 3 := by kernel_rfl

set_option maxRecDepth 20000 in
/-- A burst that came in. -/
theorem bu_of_arg {H : Type} {enc : TypeId × Value → H} {W : World} {base b0 : Nat} {sp : Nat → Bool} {held : Bool} {r : Reach} {v : Value} {d : DataW H} {p : List MemPlace}
    (hv : Value.okWide Try.prog W r b0 79 v) (h : DataW.Trod enc Try.prog W base sp held 79 v d p) : ∃ e : Bu, v = .agg #[.int .i64 e.l, .int .i64 e.s, .int .i64 e.g] ∧ BuI e := by
  obtain ⟨cs, rfl, hsz⟩ := okWide_struct Try.underlying79 hv
  obtain ⟨fuel, hf⟩ := h
  obtain ⟨xs, m, -, hx, hl, hn, hfs⟩ := DataW.trod_struct Try.underlying79 hf
  rw [cells_bu] at hsz
  obtain ⟨l⟩ := cs
  match l, hsz with
  | [c0, c1, c2], _ =>
    match xs, hn with
    | [x0, x1, x2], _ =>
      have h0 := hfs 0 _ rfl
      have h1 := hfs 1 _ rfl
      have h2 := hfs 2 _ rfl
      simp [cells_c64, Value.cells] at h0 h1 h2
      obtain ⟨n0, e0, -, w0⟩ := DataW.trod_int Try.underlying2 h0
      obtain ⟨n1, e1, -, w1⟩ := DataW.trod_int Try.underlying2 h1
      obtain ⟨n2, e2, -, w2⟩ := DataW.trod_int Try.underlying2 h2
      simp at e0 e1 e2
      subst e0 e1 e2
      exact ⟨⟨n0, n1, n2⟩, rfl, fitC w0, fitC w1, fitC w2⟩

set_option maxHeartbeats 1000000 in
theorem toBurst_any (c : Bu) (w : World) :
    Calls Try.prog 64 #[.agg #[.int .i64 c.l, .int .i64 c.s, .int .i64 c.g]] w fun x w' => x = .returned (.agg #[.int .i64 c.l, .int .i64 c.s, .int .i64 c.g]) ∧ Fr w w' := by
  obtain ⟨c0, c1, c2⟩ := c
  simp only
  go_enter Try.func64, Try.ntmps64
  go_wp2_with fail
  refine bodyPost_ret (v := .agg #[.int .i64 c0, .int .i64 c1, .int .i64 c2]) (by simp [results, Try.results64, go_sem]) rfl ⟨rfl, ?_⟩
  exact ((Fr.alloc _ _).trans (Fr.alloc _ _)).trans (Fr.alloc _ _)

set_option maxHeartbeats 1000000 in
/-- A burst is the same as itself. -/
theorem eqBurst_same (c : Bu) (w : World) :
    Calls Try.prog 68 #[.agg #[.int .i64 c.l, .int .i64 c.s, .int .i64 c.g], .agg #[.int .i64 c.l, .int .i64 c.s, .int .i64 c.g]] w fun x w' => x = .returned (.bool true) ∧ Fr w w' := by
  obtain ⟨c0, c1, c2⟩ := c
  simp only
  go_enter Try.func68, Try.ntmps68
  go_wp2_with fail
  go_ret
  exact ⟨rfl, (Fr.alloc _ _).trans (Fr.alloc _ _)⟩
end Go.Proofs.Ytkfcchapfklpgaa
