/-
  What a call of a law finds in the program's table and its four errors, as the program's text lays them.
-/
import Derived.Test.YtnekojcgbokhpaaDoorDoorE
import Derived.Test.YtnekojcgbokhpaaDoorCode
namespace Go.Proofs.YtnekojcgbokhpaaDoor
open Go.ChangeShapes Go.WideShapes Go.ChangeAt Go.RowKit

theorem laid_skip {P : Program} {x y : String × DataW Unit} {r : List (String × DataW Unit)} {w : World} (h : laidMet P (x :: y :: r) w) : laidMet P (x :: r) w := by
  obtain ⟨ps, hv, hnd, hrows⟩ := h
  obtain ⟨n, d⟩ := x
  obtain ⟨n', d'⟩ := y
  obtain ⟨g, t, cs, fuel, p, q, h1, h2, h3, h4, ⟨g', t', cs', fuel', p', q', _, _, _, _, hq', rfl⟩, rfl⟩ := hv
  refine ⟨MemPlace.row ⟨g, 0, none⟩ cs.size ++ p ++ q', ⟨g, t, cs, fuel, p, q', h1, h2, h3, h4, hq', rfl⟩, ?_, fun b off hm => hrows b off ?_⟩
  · exact List.Nodup.sublist (List.Sublist.append (List.Sublist.refl _) (List.sublist_append_right _ _)) hnd
  · rcases List.mem_append.1 hm with hm | hm
    · exact List.mem_append_left _ hm
    · exact List.mem_append_right _ (List.mem_append_right _ hm)

/-- Two errors of the laid list. -/
theorem two_of {W : World} {n0 n1 : String} {t0 t1 : List UInt8} {r : List (String × DataW Unit)} {g0 g1 : Nat}
    (h : laidMet Tryd.prog ((n0, .iface "*errors.errorString" (.ptr (.agg [.lit (.string t0)]))) :: (n1, .iface "*errors.errorString" (.ptr (.agg [.lit (.string t1)]))) :: r) W)
    (hg0 : Tryd.prog.globalNamed n0 = some g0) (ht0 : (Tryd.prog.globals[g0]?).map (·.type) = some 67) (hg1 : Tryd.prog.globalNamed n1 = some g1) (ht1 : (Tryd.prog.globals[g1]?).map (·.type) = some 67) :
    ∃ a0 a1 : Addr, W.cell? ⟨g0, 0, none⟩ = some (.iface 195 (.pointer (some a0))) ∧ W.cell? ⟨g1, 0, none⟩ = some (.iface 195 (.pointer (some a1))) ∧ a0 ≠ a1 ∧ (∃ c t, W.heap[a0.block]? = some (.cells c t (0, 0))) ∧ (∃ c t, W.heap[a1.block]? = some (.cells c t (0, 0))) := by
  obtain ⟨a0, a1, s0, s1, c0, c1, u0, u1, hv0, hv1, -, -, -, -, -, -, hne, hb0, hb1⟩ := laid_sentinels2 h hg0 ht0 hg1 ht1 Tryd.underlying67 Tryd.rowErr Tryd.underlying195 Tryd.underlying222 rfl rfl Tryd.underlying9 Tryd.cellsErr Tryd.cellsStr
  exact ⟨a0, a1, by simpa using World.var?_cell hg0 hv0 0, by simpa using World.var?_cell hg1 hv1 0, hne, ⟨c0, u0, hb0⟩, ⟨c1, u1, hb1⟩⟩

theorem same_err {W : World} {g : Nat} {a b : Addr} (h : W.cell? ⟨g, 0, none⟩ = some (.iface 195 (.pointer (some a)))) (h' : W.cell? ⟨g, 0, none⟩ = some (.iface 195 (.pointer (some b)))) : a = b := by
  rw [h] at h'
  simpa using h'

/-- The laid list of the laws on traces. -/
def laidAll : List (String × DataW Unit) := [("loop.example/g00720/impl.shapes", Rows.laid_loop_example_g00720_impl_shapes), ("loop.example/g00720/impl.errHeader", Rows.laid_loop_example_g00720_impl_errHeader), ("loop.example/g00720/impl.errNumber", Rows.laid_loop_example_g00720_impl_errNumber), ("loop.example/g00720/impl.errEvent", Rows.laid_loop_example_g00720_impl_errEvent), ("loop.example/g00720/impl.errMany", Rows.laid_loop_example_g00720_impl_errMany)]
theorem laidAll_plain (W : World) : laidMetH Tryd.prog laidAll W = laidMet Tryd.prog laidAll W := rfl

theorem all_of {W : World} (h : laidMetH Tryd.prog laidAll W) : Shapes W ∧ ∃ eh en ee em, ErrV eh en ee em W := by
  rw [laidAll_plain] at h
  have hsh : Shapes W := by
    obtain ⟨ps, hl, -⟩ := h
    exact shapes_of hl
  refine ⟨hsh, ?_⟩
  have t1 := h.tail
  obtain ⟨eh, en, ch, cn, hn, rh, rn⟩ := two_of t1 Tryd.gH Tryd.tH Tryd.gN Tryd.tN
  have t2 := t1.tail
  obtain ⟨en', ee, cn', ce, ne, -, re⟩ := two_of t2 Tryd.gN Tryd.tN Tryd.gE Tryd.tE
  have t3 := t2.tail
  obtain ⟨ee', em, ce', cm, em_, -, rm⟩ := two_of t3 Tryd.gE Tryd.tE Tryd.gM Tryd.tM
  obtain ⟨eh2, ee2, ch2, ce2, he, -, -⟩ := two_of (laid_skip t1) Tryd.gH Tryd.tH Tryd.gE Tryd.tE
  obtain ⟨eh3, em3, ch3, cm3, hm, -, -⟩ := two_of (laid_skip (laid_skip t1)) Tryd.gH Tryd.tH Tryd.gM Tryd.tM
  obtain ⟨en3, em4, cn3, cm4, nm, -, -⟩ := two_of (laid_skip t2) Tryd.gN Tryd.tN Tryd.gM Tryd.tM
  obtain rfl := same_err cn cn'
  obtain rfl := same_err ce ce'
  obtain rfl := same_err ch ch2
  obtain rfl := same_err ce ce2
  obtain rfl := same_err ch ch3
  obtain rfl := same_err cm cm3
  obtain rfl := same_err cn cn3
  obtain rfl := same_err cm cm4
  exact ⟨eh, en, ee, em, ch, cn, ce, cm, rh, rn, re, rm, hn, he, hm, ne, nm, em_⟩
end Go.Proofs.YtnekojcgbokhpaaDoor
