/-
  What the frames of the laws use of the doors.
-/
import Derived.Test.YtplnijpolkflcaaGreatDoorPqAA
import Derived.Test.YtplnijpolkflcaaGreatDoorPqAI
import Derived.Test.YtplnijpolkflcaaGreatDoorPqBA
import Derived.ProofKit
import Derived.LaidMore
import Derived.OpenShut
import Derived.Stop.Joined
import Derived.OpenVars
import Derived.WalkKit
import Derived.WalkLawsBesides
import Derived.Below
import Derived.BigQuiet
import Derived.Deep.QuietTactic
namespace Go.Proofs.YtplnijpolkflcaaGreatDoor
open Go.ChangeShapes Go.WideShapes Go.ChangeAt Go.RowKit

theorem reads_of_row {w : World} {a : Option Addr} {len cap : Nat} {zs : List Int}
    (h : (a = none ∧ len = 0 ∧ cap = 0 ∧ zs = []) ∨ ∃ x, a = some x ∧ len ≤ cap ∧ cap ≤ maxLen ∧ zs.length = cap ∧ (∀ i, i < zs.length → w.cell? (x.add i) = some (.int .i64 (zs.getD i 0))) ∧ ∀ n ∈ zs, (Lit.int .i64 n).wf = true)
    (hl : len ≤ 4294967296) : Reads w a (zs.take len) ∧ (zs.take len).length = len := by
  rcases h with ⟨rfl, rfl, rfl, rfl⟩ | ⟨x, rfl, h1, h2, h3, h4, h5⟩
  · exact ⟨Reads.nil _ _, rfl⟩
  · have hlen : (zs.take len).length = len := by simp; omega
    refine ⟨⟨by omega, fun x hx => ?_, fun i hi => ?_⟩, hlen⟩
    · have := bounds_i64 (h5 x (List.mem_of_mem_take hx))
      exact ⟨by omega, by omega⟩
    · rw [hlen] at hi
      obtain ⟨b, off, spot⟩ := x
      have hc := h4 0 (by omega)
      have hspot : spot = none := by
        have := World.cell?_spot hc
        simpa [Addr.add] using this
      subst hspot
      refine ⟨b, off, rfl, fun j hj => ?_⟩
      rw [hlen] at hj
      have := h4 j (by omega)
      simp only [List.getD_eq_getElem?_getD, List.getElem?_take, if_pos hj] at this ⊢
      have e : (⟨b, off, none⟩ : Addr).add j = ⟨b, off + j, none⟩ := by
        by_cases h0 : j = 0
        · subst h0; rfl
        · simp [Addr.add, h0]
      rwa [e] at this

theorem gShapes : Tryz.prog.globalNamed "loop.example/g00720/impl.shapes" = some 0 := by kernel_rfl
theorem tShapes : (Tryz.prog.globals[0]?).map (·.type) = some 208 := by kernel_rfl
theorem cells_int64 : Tryz.prog.cellsOf 2 = 1 := by kernel_rfl
theorem cells_shape : Tryz.prog.cellsOf 207 = 3 := by kernel_rfl

set_option maxRecDepth 20000 in
theorem three_of {H : Type} {enc : TypeId × Value → H} {W : World} {base : Nat} {sp : Nat → Bool} {held : Bool} {fuel : Nat} {cs : List Value} {p : List MemPlace} {a b c : Int}
    (h : DataW.trod enc Tryz.prog W base sp held fuel 207 cs = some (.agg [.lit (.int .i64 a), .lit (.int .i64 b), .lit (.int .i64 c)], p)) : cs = [.int .i64 a, .int .i64 b, .int .i64 c] := by
  obtain ⟨xs, m, -, hx, hl, hn, hf⟩ := DataW.trod_struct Tryz.underlying207 h
  rw [cells_shape] at hl
  match cs, hl with
  | [c0, c1, c2], _ =>
    match xs, hn with
    | [x0, x1, x2], _ =>
      have h0 := hf 0 _ rfl
      have h1 := hf 1 _ rfl
      have h2 := hf 2 _ rfl
      simp [cells_int64] at h0 h1 h2
      obtain ⟨n0, e0, rfl, _⟩ := DataW.trod_int Tryz.underlying2 h0
      obtain ⟨n1, e1, rfl, _⟩ := DataW.trod_int Tryz.underlying2 h1
      obtain ⟨n2, e2, rfl, _⟩ := DataW.trod_int Tryz.underlying2 h2
      simp at e0 e1 e2
      simp at hx
      obtain ⟨⟨rfl, rfl, rfl⟩, _⟩ := hx
      rw [e0, e1, e2]

theorem laid_row (n : Nat) (h : n < 22) : (match (Rows.laid_loop_example_g00720_impl_shapes : DataW Unit) with | .agg l => l[n + 1]? | _ => none) = some (.agg [.lit (.int .i64 (fldN n)), .lit (.int .i64 (loV ((n : Int) + 1))), .lit (.int .i64 (hiV ((n : Int) + 1)))]) :=
  match n, h with
  | 0, _ => rfl
  | 1, _ => rfl
  | 2, _ => rfl
  | 3, _ => rfl
  | 4, _ => rfl
  | 5, _ => rfl
  | 6, _ => rfl
  | 7, _ => rfl
  | 8, _ => rfl
  | 9, _ => rfl
  | 10, _ => rfl
  | 11, _ => rfl
  | 12, _ => rfl
  | 13, _ => rfl
  | 14, _ => rfl
  | 15, _ => rfl
  | 16, _ => rfl
  | 17, _ => rfl
  | 18, _ => rfl
  | 19, _ => rfl
  | 20, _ => rfl
  | 21, _ => rfl
  | m + 22, h => absurd h (by omega)

theorem shapes_of {W : World} {ps : List MemPlace} {rest : List (String × DataW Unit)} (h : DataW.LaidVars Tryz.prog W (("loop.example/g00720/impl.shapes", Rows.laid_loop_example_g00720_impl_shapes) :: rest) ps) : Shapes W := by
  obtain ⟨g, t, cs, fuel, p, q, hg, ht, hv, hd, -, -⟩ := h
  obtain rfl := Option.some.inj (gShapes.symm.trans hg)
  obtain rfl := Option.some.inj (tShapes.symm.trans ht)
  obtain ⟨xs, m, -, hx, hl, hn, hel⟩ := DataW.trod_array Tryz.underlying208 hd
  simp only [Prod.mk.injEq] at hx
  have hrow : ∀ n, n < 22 → (xs.map (·.1))[n + 1]? = some (.agg [.lit (.int .i64 (fldN n)), .lit (.int .i64 (loV ((n : Int) + 1))), .lit (.int .i64 (hiV ((n : Int) + 1)))]) := fun n hn => by
    have := laid_row n hn
    rw [hx.1] at this
    exact this
  intro n hn22
  have h1 := hrow n hn22
  rw [List.getElem?_map, Option.map_eq_some_iff] at h1
  obtain ⟨⟨y, py⟩, hy, hy2⟩ := h1
  simp only at hy2
  subst hy2
  have h2 := hel (n + 1) (by omega)
  rw [hy, cells_shape] at h2
  have h3 := three_of h2
  have hc : ∀ j, W.cell? ⟨0, j, none⟩ = cs[j]? := World.var?_cell gShapes hv
  have at_ : ∀ j, j < 3 → W.cell? ⟨0, (n + 1) * 3 + j, none⟩ = ([.int .i64 (fldN n), .int .i64 (loV ((n : Int) + 1)), .int .i64 (hiV ((n : Int) + 1))] : List Value)[j]? := fun j hj => by
    rw [hc, ← h3, List.getElem?_take, if_pos hj, List.getElem?_drop]
    simp
  exact ⟨by simpa using at_ 0 (by omega), by simpa using at_ 1 (by omega), by simpa using at_ 2 (by omega)⟩

def EvI (e : Ev) : Prop := I64 e.k ∧ I64 e.g ∧ I64 e.o ∧ I64 e.w ∧ I64 e.l ∧ I64 e.s ∧ I64 e.f ∧ I64 e.t

theorem cells_ev : Tryz.prog.cellsOf 55 = 8 := by kernel_rfl

theorem fit64 {n : Int} (h : (Lit.int .i64 n).wf = true) : I64 n := by
  have := bounds_i64 h
  exact ⟨by omega, by omega⟩

set_option maxRecDepth 20000 in
theorem ev_of_arg {H : Type} {enc : TypeId × Value → H} {W : World} {base b0 : Nat} {sp : Nat → Bool} {held : Bool} {r : Reach} {v : Value} {d : DataW H} {p : List MemPlace}
    (hv : Value.okWide Tryz.prog W r b0 55 v) (h : DataW.Trod enc Tryz.prog W base sp held 55 v d p) : ∃ e : Ev, v = .agg #[.int .i64 e.k, .int .i64 e.g, .int .i64 e.o, .int .i64 e.w, .int .i64 e.l, .int .i64 e.s, .int .i64 e.f, .int .i64 e.t] ∧ EvI e := by
  obtain ⟨cs, rfl, hsz⟩ := okWide_struct Tryz.underlying55 hv
  obtain ⟨fuel, hf⟩ := h
  obtain ⟨xs, m, -, hx, hl, hn, hfs⟩ := DataW.trod_struct Tryz.underlying55 hf
  rw [cells_ev] at hsz
  obtain ⟨l⟩ := cs
  match l, hsz with
  | [c0, c1, c2, c3, c4, c5, c6, c7], _ =>
    match xs, hn with
    | [x0, x1, x2, x3, x4, x5, x6, x7], _ =>
      have h0 := hfs 0 _ rfl
      have h1 := hfs 1 _ rfl
      have h2 := hfs 2 _ rfl
      have h3 := hfs 3 _ rfl
      have h4 := hfs 4 _ rfl
      have h5 := hfs 5 _ rfl
      have h6 := hfs 6 _ rfl
      have h7 := hfs 7 _ rfl
      simp [cells_int64, Value.cells] at h0 h1 h2 h3 h4 h5 h6 h7
      obtain ⟨n0, e0, -, w0⟩ := DataW.trod_int Tryz.underlying2 h0
      obtain ⟨n1, e1, -, w1⟩ := DataW.trod_int Tryz.underlying2 h1
      obtain ⟨n2, e2, -, w2⟩ := DataW.trod_int Tryz.underlying2 h2
      obtain ⟨n3, e3, -, w3⟩ := DataW.trod_int Tryz.underlying2 h3
      obtain ⟨n4, e4, -, w4⟩ := DataW.trod_int Tryz.underlying2 h4
      obtain ⟨n5, e5, -, w5⟩ := DataW.trod_int Tryz.underlying2 h5
      obtain ⟨n6, e6, -, w6⟩ := DataW.trod_int Tryz.underlying2 h6
      obtain ⟨n7, e7, -, w7⟩ := DataW.trod_int Tryz.underlying2 h7
      simp at e0 e1 e2 e3 e4 e5 e6 e7
      subst e0 e1 e2 e3 e4 e5 e6 e7
      exact ⟨⟨n0, n1, n2, n3, n4, n5, n6, n7⟩, rfl, fit64 w0, fit64 w1, fit64 w2, fit64 w3, fit64 w4, fit64 w5, fit64 w6, fit64 w7⟩
set_option maxRecDepth 20000 in
theorem ev_of_cells {H : Type} {enc : TypeId × Value → H} {W : World} {base : Nat} {sp : Nat → Bool} {held : Bool} {fuel : Nat} {cs : List Value} {x : DataW H × List MemPlace}
    (hf : DataW.trod enc Tryz.prog W base sp held fuel 55 cs = some x) : ∃ e : Ev, cs = evCells e := by
  obtain ⟨xs, m, -, hx, hl, hn, hfs⟩ := DataW.trod_struct Tryz.underlying55 hf
  rw [cells_ev] at hl
  match cs, hl with
  | [c0, c1, c2, c3, c4, c5, c6, c7], _ =>
    match xs, hn with
    | [x0, x1, x2, x3, x4, x5, x6, x7], _ =>
      have h0 := hfs 0 _ rfl
      have h1 := hfs 1 _ rfl
      have h2 := hfs 2 _ rfl
      have h3 := hfs 3 _ rfl
      have h4 := hfs 4 _ rfl
      have h5 := hfs 5 _ rfl
      have h6 := hfs 6 _ rfl
      have h7 := hfs 7 _ rfl
      simp [cells_int64] at h0 h1 h2 h3 h4 h5 h6 h7
      obtain ⟨n0, e0, -, w0⟩ := DataW.trod_int Tryz.underlying2 h0
      obtain ⟨n1, e1, -, w1⟩ := DataW.trod_int Tryz.underlying2 h1
      obtain ⟨n2, e2, -, w2⟩ := DataW.trod_int Tryz.underlying2 h2
      obtain ⟨n3, e3, -, w3⟩ := DataW.trod_int Tryz.underlying2 h3
      obtain ⟨n4, e4, -, w4⟩ := DataW.trod_int Tryz.underlying2 h4
      obtain ⟨n5, e5, -, w5⟩ := DataW.trod_int Tryz.underlying2 h5
      obtain ⟨n6, e6, -, w6⟩ := DataW.trod_int Tryz.underlying2 h6
      obtain ⟨n7, e7, -, w7⟩ := DataW.trod_int Tryz.underlying2 h7
      simp at e0 e1 e2 e3 e4 e5 e6 e7
      subst e0 e1 e2 e3 e4 e5 e6 e7
      exact ⟨⟨n0, n1, n2, n3, n4, n5, n6, n7⟩, rfl⟩

theorem list_of {α : Type} (n : Nat) (P : Nat → α → Prop) (h : ∀ i, i < n → ∃ x, P i x) : ∃ l : List α, l.length = n ∧ ∀ i (hi : i < l.length), P i l[i] := by
  induction n with
  | zero => exact ⟨[], rfl, by simp⟩
  | succ n ih =>
    obtain ⟨l, hl, hp⟩ := ih (fun i hi => h i (by omega))
    obtain ⟨x, hx⟩ := h n (by omega)
    refine ⟨l ++ [x], by simp [hl], fun i hi => ?_⟩
    by_cases hin : i < l.length
    · rw [List.getElem_append_left hin]; exact hp i hin
    · have : i = n := by simp at hi; omega
      subst this
      rw [List.getElem_append_right (by omega)]
      simpa [hl] using hx

def IsEvs (w : World) (ao : Option Addr) (len : Nat) : Prop := len ≤ maxLen ∧ ∃ es : List Ev, es.length = len ∧ (len ≤ 16777216 → ReadsE w ao es)

theorem evs_of_arg {H : Type} {enc : TypeId × Value → H} {W : World} {base : Nat} {sp : Nat → Bool} {held : Bool} {ao : Option Addr} {len cap : Nat} {d : DataW H} {p : List MemPlace}
    (h : DataW.Trod enc Tryz.prog W base sp held 61 (.slice ao len cap) d p) : IsEvs W ao len := by
  obtain ⟨fuel, hf⟩ := h
  rcases DataW.trod_slice Tryz.underlying61 hf with ⟨hcs, _⟩ | ⟨a, l, c, elems, rest, n, -, hcs, -, hb, hlc, hcm, hel, hat, -, -⟩
  · simp [Value.cells] at hcs
    obtain ⟨rfl, rfl, rfl⟩ := hcs
    exact ⟨by unfold maxLen; omega, [], rfl, fun _ => ReadsE.nil _ _⟩
  · simp [Value.cells] at hcs
    obtain ⟨rfl, rfl, rfl⟩ := hcs
    rw [cells_ev] at hat
    have each : ∀ i, i < len → ∃ e : Ev, ∀ k, k < 8 → W.cell? ((a.add (i * 8)).add k) = (evCells e)[k]? := by
      intro i hi
      have h1 := hat i hi
      rw [List.getElem?_eq_getElem (by omega)] at h1
      obtain ⟨cs, hcs, htr⟩ := Option.bind_eq_some_iff.1 h1
      obtain ⟨e, rfl⟩ := ev_of_cells htr
      refine ⟨e, fun k hk => ?_⟩
      exact (World.cells?_some hcs).2.2 k hk
    obtain ⟨es, hl, he⟩ := list_of len _ each
    refine ⟨by omega, es, hl, fun hlen => ⟨by omega, fun i hi => ?_⟩⟩
    obtain ⟨b, off, spot⟩ := a
    have hi0 : 0 < es.length := by omega
    have hc := he 0 hi0 0 (by omega)
    have hspot : spot = none := by
      have h2 : W.cell? (((⟨b, off, spot⟩ : Addr).add (0 * 8)).add 0) = some (.int .i64 es[0].k) := hc
      have := World.cell?_spot h2
      simpa [Addr.add] using this
    subst hspot
    refine ⟨b, off, rfl, fun j hj => EvC.of fun k hk => ?_⟩
    have := he j hj k hk
    rw [Addr.add_lit, Addr.add_lit] at this
    exact this
theorem gTab : Tryz.prog.globalNamed "math/bits.deBruijn64tab" = some 1 := by kernel_rfl
theorem tTab : (Tryz.prog.globals[1]?).map (·.type) = some 213 := by kernel_rfl
theorem cells_u8 : Tryz.prog.cellsOf 5 = 1 := by kernel_rfl
theorem laid_tab : (Rows.laid_math_bits_deBruijn64tab : DataW Unit) = .agg (Lib.deBruijn64tab.map fun x => .lit (.int .u8 ((x : Nat) : Int))) := rfl
def laidT : List (String × DataW Unit) := [("math/bits.deBruijn64tab", Rows.laid_math_bits_deBruijn64tab), ("loop.example/g00720/impl.shapes", Rows.laid_loop_example_g00720_impl_shapes)]
theorem laidT_plain (W : World) : laidMetH Tryz.prog laidT W = laidMet Tryz.prog laidT W := rfl
theorem tab_of {W : World} (h : laidMetH Tryz.prog laidT W) : Shapes W ∧ Tab W := by
  rw [laidT_plain] at h
  refine ⟨?_, ?_⟩
  · obtain ⟨ps, hl, -⟩ := h
    obtain ⟨g, t, cs, fuel, p, q, hg, ht, hv, hd, hrest, -⟩ := hl
    exact shapes_of hrest
  · obtain ⟨ps, hl, -⟩ := h
    obtain ⟨g, t, cs, fuel, p, q, hg, ht, hv, hd, -, -⟩ := hl
    obtain rfl := Option.some.inj (gTab.symm.trans hg)
    obtain rfl := Option.some.inj (tTab.symm.trans ht)
    obtain ⟨xs, m, -, hx, hl, hn, hel⟩ := DataW.trod_array Tryz.underlying213 hd
    simp only [Prod.mk.injEq] at hx
    have hc : ∀ j, W.cell? ⟨1, j, none⟩ = cs[j]? := World.var?_cell gTab hv
    have hx1 : xs.map (·.1) = Lib.deBruijn64tab.map fun x => .lit (.int .u8 ((x : Nat) : Int)) := by
      have := hx.1
      rw [laid_tab] at this
      injection this with e
      exact e.symm
    intro j hj
    have hj64 : j < 64 := hj
    have h1 : (xs.map (·.1))[j]? = some (.lit (.int .u8 ((Lib.deBruijn64tab.getD j 0 : Nat) : Int))) := by
      rw [hx1, List.getElem?_map, List.getElem?_eq_getElem hj, List.getD_eq_getElem?_getD, List.getElem?_eq_getElem hj]
      rfl
    rw [List.getElem?_map, Option.map_eq_some_iff] at h1
    obtain ⟨⟨y, py⟩, hy, hy2⟩ := h1
    simp only at hy2
    subst hy2
    have h2 := hel j (by omega)
    rw [hy, cells_u8] at h2
    obtain ⟨n0, e0, e1, _⟩ := DataW.trod_int Tryz.underlying5 h2
    simp only [Prod.mk.injEq, DataW.lit.injEq, Lit.int.injEq, true_and] at e1
    have e2 : cs.toList[j]? = some (.int .u8 n0) := by
      have := congrArg (fun l => l[0]?) e0
      simpa [List.getElem?_take, List.getElem?_drop] using this
    rw [hc, ← Array.getElem?_toList, e2]
    simp_all
end Go.Proofs.YtplnijpolkflcaaGreatDoor
