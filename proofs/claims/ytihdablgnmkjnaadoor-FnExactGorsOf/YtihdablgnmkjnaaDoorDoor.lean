/-
  What the row's condition says of the program's table; the world that the program's own initialisers leave meets it. An event that comes in as an argument.
-/
import Derived.Test.YtihdablgnmkjnaaDoorEvOk
import Derived.ProofKit
import Derived.LaidMore
import Derived.OpenShut
import Derived.Stop.Joined
import Derived.OpenVars
namespace Go.Proofs.YtihdablgnmkjnaaDoor
open Go.ChangeShapes Go.WideShapes Go.ChangeAt Go.RowKit

theorem gShapes : Tryd.prog.globalNamed "loop.example/g00720/impl.shapes" = some 0 := by kernel_rfl
theorem tShapes : (Tryd.prog.globals[0]?).map (·.type) = some 41 := by kernel_rfl
theorem cells_int64 : Tryd.prog.cellsOf 2 = 1 := by kernel_rfl
theorem cells_shape : Tryd.prog.cellsOf 40 = 3 := by kernel_rfl

set_option maxRecDepth 20000 in
/-- A row of three numbers, read. -/
theorem three_of {H : Type} {enc : TypeId × Value → H} {W : World} {base : Nat} {sp : Nat → Bool} {held : Bool} {fuel : Nat} {cs : List Value} {p : List MemPlace} {a b c : Int}
    (h : DataW.trod enc Tryd.prog W base sp held fuel 40 cs = some (.agg [.lit (.int .i64 a), .lit (.int .i64 b), .lit (.int .i64 c)], p)) : cs = [.int .i64 a, .int .i64 b, .int .i64 c] := by
  obtain ⟨xs, m, -, hx, hl, hn, hf⟩ := DataW.trod_struct Tryd.underlying40 h
  rw [cells_shape] at hl
  match cs, hl with
  | [c0, c1, c2], _ =>
    match xs, hn with
    | [x0, x1, x2], _ =>
      have h0 := hf 0 _ rfl
      have h1 := hf 1 _ rfl
      have h2 := hf 2 _ rfl
      simp [cells_int64] at h0 h1 h2
      obtain ⟨n0, e0, rfl, _⟩ := DataW.trod_int Tryd.underlying2 h0
      obtain ⟨n1, e1, rfl, _⟩ := DataW.trod_int Tryd.underlying2 h1
      obtain ⟨n2, e2, rfl, _⟩ := DataW.trod_int Tryd.underlying2 h2
      simp at e0 e1 e2
      simp at hx
      obtain ⟨⟨rfl, rfl, rfl⟩, _⟩ := hx
      rw [e0, e1, e2]

theorem laid_row (n : Nat) (h : n < 22) : (match (Rows.laid_loop_example_g00720_impl_shapes : DataW Unit) with | .agg l => l[n + 1]? | _ => none) = some (.agg [.lit (.int .i64 (fldN n)), .lit (.int .i64 (loV ((n : Int) + 1))), .lit (.int .i64 (hiV ((n : Int) + 1)))]) :=
  match n, h with
  | 0, _ => rfl
  | 1, _ => rfl
  | 2, _ => rfl
  | 3, _ => rfl
  | 4, _ => rfl
  | 5, _ => rfl
  | 6, _ => rfl
  | 7, _ => rfl
  | 8, _ => rfl
  | 9, _ => rfl
  | 10, _ => rfl
  | 11, _ => rfl
  | 12, _ => rfl
  | 13, _ => rfl
  | 14, _ => rfl
  | 15, _ => rfl
  | 16, _ => rfl
  | 17, _ => rfl
  | 18, _ => rfl
  | 19, _ => rfl
  | 20, _ => rfl
  | 21, _ => rfl
  | m + 22, h => absurd h (by omega)

theorem shapes_of {W : World} {ps : List MemPlace} {rest : List (String × DataW Unit)} (h : DataW.LaidVars Tryd.prog W (("loop.example/g00720/impl.shapes", Rows.laid_loop_example_g00720_impl_shapes) :: rest) ps) : Shapes W := by
  obtain ⟨g, t, cs, fuel, p, q, hg, ht, hv, hd, -, -⟩ := h
  obtain rfl := Option.some.inj (gShapes.symm.trans hg)
  obtain rfl := Option.some.inj (tShapes.symm.trans ht)
  obtain ⟨xs, m, -, hx, hl, hn, hel⟩ := DataW.trod_array Tryd.underlying41 hd
  simp only [Prod.mk.injEq] at hx
  have hrow : ∀ n, n < 22 → (xs.map (·.1))[n + 1]? = some (.agg [.lit (.int .i64 (fldN n)), .lit (.int .i64 (loV ((n : Int) + 1))), .lit (.int .i64 (hiV ((n : Int) + 1)))]) := fun n hn => by
    have := laid_row n hn
    rw [hx.1] at this
    exact this
  intro n hn22
  have h1 := hrow n hn22
  rw [List.getElem?_map, Option.map_eq_some_iff] at h1
  obtain ⟨⟨y, py⟩, hy, hy2⟩ := h1
  simp only at hy2
  subst hy2
  have h2 := hel (n + 1) (by omega)
  rw [hy, cells_shape] at h2
  have h3 := three_of h2
  have hc : ∀ j, W.cell? ⟨0, j, none⟩ = cs[j]? := World.var?_cell gShapes hv
  have at_ : ∀ j, j < 3 → W.cell? ⟨0, (n + 1) * 3 + j, none⟩ = ([.int .i64 (fldN n), .int .i64 (loV ((n : Int) + 1)), .int .i64 (hiV ((n : Int) + 1))] : List Value)[j]? := fun j hj => by
    rw [hc, ← h3, List.getElem?_take, if_pos hj, List.getElem?_drop]
    simp
  exact ⟨by simpa using at_ 0 (by omega), by simpa using at_ 1 (by omega), by simpa using at_ 2 (by omega)⟩

/-- The numbers of an event fit. -/
def EvI (e : Ev) : Prop := I64 e.k ∧ I64 e.g ∧ I64 e.o ∧ I64 e.w ∧ I64 e.l ∧ I64 e.s ∧ I64 e.f ∧ I64 e.t

theorem cells_ev : Tryd.prog.cellsOf 23 = 8 := by kernel_rfl

theorem fit64 {n : Int} (h : (Lit.int .i64 n).wf = true) : I64 n := by
  have := bounds_i64 h
  exact ⟨by omega, by omega⟩

set_option maxRecDepth 20000 in
/-- An event that came in. -/
theorem ev_of_arg {H : Type} {enc : TypeId × Value → H} {W : World} {base b0 : Nat} {sp : Nat → Bool} {held : Bool} {r : Reach} {v : Value} {d : DataW H} {p : List MemPlace}
    (hv : Value.okWide Tryd.prog W r b0 23 v) (h : DataW.Trod enc Tryd.prog W base sp held 23 v d p) : ∃ e : Ev, v = .agg #[.int .i64 e.k, .int .i64 e.g, .int .i64 e.o, .int .i64 e.w, .int .i64 e.l, .int .i64 e.s, .int .i64 e.f, .int .i64 e.t] ∧ EvI e := by
  obtain ⟨cs, rfl, hsz⟩ := okWide_struct Tryd.underlying23 hv
  obtain ⟨fuel, hf⟩ := h
  obtain ⟨xs, m, -, hx, hl, hn, hfs⟩ := DataW.trod_struct Tryd.underlying23 hf
  rw [cells_ev] at hsz
  obtain ⟨l⟩ := cs
  match l, hsz with
  | [c0, c1, c2, c3, c4, c5, c6, c7], _ =>
    match xs, hn with
    | [x0, x1, x2, x3, x4, x5, x6, x7], _ =>
      have h0 := hfs 0 _ rfl
      have h1 := hfs 1 _ rfl
      have h2 := hfs 2 _ rfl
      have h3 := hfs 3 _ rfl
      have h4 := hfs 4 _ rfl
      have h5 := hfs 5 _ rfl
      have h6 := hfs 6 _ rfl
      have h7 := hfs 7 _ rfl
      simp [cells_int64, Value.cells] at h0 h1 h2 h3 h4 h5 h6 h7
      obtain ⟨n0, e0, -, w0⟩ := DataW.trod_int Tryd.underlying2 h0
      obtain ⟨n1, e1, -, w1⟩ := DataW.trod_int Tryd.underlying2 h1
      obtain ⟨n2, e2, -, w2⟩ := DataW.trod_int Tryd.underlying2 h2
      obtain ⟨n3, e3, -, w3⟩ := DataW.trod_int Tryd.underlying2 h3
      obtain ⟨n4, e4, -, w4⟩ := DataW.trod_int Tryd.underlying2 h4
      obtain ⟨n5, e5, -, w5⟩ := DataW.trod_int Tryd.underlying2 h5
      obtain ⟨n6, e6, -, w6⟩ := DataW.trod_int Tryd.underlying2 h6
      obtain ⟨n7, e7, -, w7⟩ := DataW.trod_int Tryd.underlying2 h7
      simp at e0 e1 e2 e3 e4 e5 e6 e7
      subst e0 e1 e2 e3 e4 e5 e6 e7
      exact ⟨⟨n0, n1, n2, n3, n4, n5, n6, n7⟩, rfl, fit64 w0, fit64 w1, fit64 w2, fit64 w3, fit64 w4, fit64 w5, fit64 w6, fit64 w7⟩
end Go.Proofs.YtihdablgnmkjnaaDoor
