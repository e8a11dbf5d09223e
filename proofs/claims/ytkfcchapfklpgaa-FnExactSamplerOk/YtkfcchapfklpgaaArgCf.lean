/-
  A config that came in; the laws' own copy of it.
-/
import Derived.Test.YtkfcchapfklpgaaCfg
import Derived.WalkKit
import Derived.ProofKit
import Derived.LaidMore
import Derived.OpenShut
import Derived.Stop.Joined
import Derived.OpenVars
namespace Go.Proofs.Ytkfcchapfklpgaa
open Go.ChangeShapes Go.WideShapes Go.ChangeAt Go.RowKit

/-- The numbers of a config fit. -/
def CfI (c : Cf) : Prop := I64 c.r ∧ I64 c.s ∧ I64 c.b ∧ I64 c.m ∧ I64 c.q ∧ I64 c.c ∧ I64 c.w

theorem cells_c64 : Try.prog.cellsOf 2 = 1 := by kernel_rfl
theorem cells_cf : Try.prog.cellsOf 23 = 7 := by kernel_rfl

theorem fitC {n : Int} (h : (Lit.int .i64 n).wf = true) : I64 n := by
  have := bounds_i64 h
  exact ⟨by omega, by omega⟩

set_option maxRecDepth 20000 in
/-- A config that came in. -/
theorem cf_of_arg {H : Type} {enc : TypeId × Value → H} {W : World} {base b0 : Nat} {sp : Nat → Bool} {held : Bool} {r : Reach} {v : Value} {d : DataW H} {p : List MemPlace}
    (hv : Value.okWide Try.prog W r b0 23 v) (h : DataW.Trod enc Try.prog W base sp held 23 v d p) : ∃ e : Cf, v = .agg #[.int .i64 e.r, .int .i64 e.s, .int .i64 e.b, .int .i64 e.m, .int .i64 e.q, .int .i64 e.c, .int .i64 e.w] ∧ CfI e := by
  obtain ⟨cs, rfl, hsz⟩ := okWide_struct Try.underlying23 hv
  obtain ⟨fuel, hf⟩ := h
  obtain ⟨xs, m, -, hx, hl, hn, hfs⟩ := DataW.trod_struct Try.underlying23 hf
  rw [cells_cf] at hsz
  obtain ⟨l⟩ := cs
  match l, hsz with
  | [c0, c1, c2, c3, c4, c5, c6], _ =>
    match xs, hn with
    | [x0, x1, x2, x3, x4, x5, x6], _ =>
      have h0 := hfs 0 _ rfl
      have h1 := hfs 1 _ rfl
      have h2 := hfs 2 _ rfl
      have h3 := hfs 3 _ rfl
      have h4 := hfs 4 _ rfl
      have h5 := hfs 5 _ rfl
      have h6 := hfs 6 _ rfl
      simp [cells_c64, Value.cells] at h0 h1 h2 h3 h4 h5 h6
      obtain ⟨n0, e0, -, w0⟩ := DataW.trod_int Try.underlying2 h0
      obtain ⟨n1, e1, -, w1⟩ := DataW.trod_int Try.underlying2 h1
      obtain ⟨n2, e2, -, w2⟩ := DataW.trod_int Try.underlying2 h2
      obtain ⟨n3, e3, -, w3⟩ := DataW.trod_int Try.underlying2 h3
      obtain ⟨n4, e4, -, w4⟩ := DataW.trod_int Try.underlying2 h4
      obtain ⟨n5, e5, -, w5⟩ := DataW.trod_int Try.underlying2 h5
      obtain ⟨n6, e6, -, w6⟩ := DataW.trod_int Try.underlying2 h6
      simp at e0 e1 e2 e3 e4 e5 e6
      subst e0 e1 e2 e3 e4 e5 e6
      exact ⟨⟨n0, n1, n2, n3, n4, n5, n6⟩, rfl, fitC w0, fitC w1, fitC w2, fitC w3, fitC w4, fitC w5, fitC w6⟩

set_option maxHeartbeats 1000000 in
theorem toConfig_any (c : Cf) (w : World) :
    Calls Try.prog 8 #[.agg #[.int .i64 c.r, .int .i64 c.s, .int .i64 c.b, .int .i64 c.m, .int .i64 c.q, .int .i64 c.c, .int .i64 c.w]] w fun x w' => x = .returned (.agg #[.int .i64 c.r, .int .i64 c.s, .int .i64 c.b, .int .i64 c.m, .int .i64 c.q, .int .i64 c.c, .int .i64 c.w]) ∧ Fr w w' := by
  obtain ⟨c0, c1, c2, c3, c4, c5, c6⟩ := c
  simp only
  go_enter Try.func8, Try.ntmps8
  go_wp2_with fail
  refine bodyPost_ret (v := .agg #[.int .i64 c0, .int .i64 c1, .int .i64 c2, .int .i64 c3, .int .i64 c4, .int .i64 c5, .int .i64 c6]) (by simp [results, Try.results8, go_sem]) rfl ⟨rfl, ?_⟩
  exact ((Fr.alloc _ _).trans (Fr.alloc _ _)).trans (Fr.alloc _ _)
end Go.Proofs.Ytkfcchapfklpgaa
