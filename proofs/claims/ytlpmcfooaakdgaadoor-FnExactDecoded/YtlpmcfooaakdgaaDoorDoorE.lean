/-
  What a call of a law finds in the program's error variables and in errors.errorType, as the program's text lays them.
-/
import Derived.Test.YtlpmcfooaakdgaaDoorDoor
import Derived.Test.YtlpmcfooaakdgaaDoorRdN
import Derived.Stop.LaidTwo
import Derived.LaidHandle
namespace Go.Proofs.YtlpmcfooaakdgaaDoor
open Go.ChangeShapes Go.WideShapes Go.ChangeAt Go.RowKit

theorem Tryd.star : "*" ++ "errors.errorString" = "*errors.errorString" := by decide
theorem Tryd.rowErr (u : TypeId) (h : Tryd.prog.typeName? 3 u = some "*errors.errorString") : u = 163 :=
  typeName_ptr_named (nm := "errors.errorString") (by rw [Tryd.star]; kernel_rfl) (by kernel_rfl) (by decide) u (by rw [Tryd.star]; exact h)
theorem Tryd.gH : Tryd.prog.globalNamed "loop.example/g00720/impl.errHeader" = some 2 := by kernel_rfl
theorem Tryd.gN : Tryd.prog.globalNamed "loop.example/g00720/impl.errNumber" = some 3 := by kernel_rfl
theorem Tryd.gE : Tryd.prog.globalNamed "loop.example/g00720/impl.errEvent" = some 4 := by kernel_rfl
theorem Tryd.gM : Tryd.prog.globalNamed "loop.example/g00720/impl.errMany" = some 1 := by kernel_rfl
theorem Tryd.gT : Tryd.prog.globalNamed "errors.errorType" = some 5 := by kernel_rfl
theorem Tryd.tH : (Tryd.prog.globals[2]?).map (·.type) = some 60 := by kernel_rfl
theorem Tryd.tN : (Tryd.prog.globals[3]?).map (·.type) = some 60 := by kernel_rfl
theorem Tryd.tE : (Tryd.prog.globals[4]?).map (·.type) = some 60 := by kernel_rfl
theorem Tryd.tM : (Tryd.prog.globals[1]?).map (·.type) = some 60 := by kernel_rfl
theorem Tryd.cellsErr : Tryd.prog.cellsOf 185 = 1 := by kernel_rfl
theorem Tryd.cellsStr : Tryd.prog.cellsOf 9 = 1 := by kernel_rfl
theorem Tryd.rt : (Tryd.prog.cutTypes.find? (·.1 == "internal/reflectlite.rtype")).map (·.2) = some 131 := by kernel_rfl
theorem Tryd.tsize : Tryd.prog.types.size = 197 := by kernel_rfl
theorem Tryd.oneRow : ((List.range 197).filter fun t => Tryd.prog.rowNamed t [101, 114, 114, 111, 114]) = [60] := by kernel_rfl
theorem Tryd.hErr : typeHandle Tryd.prog 60 = .pointer (some ⟨6, 60, none⟩) := by kernel_rfl

/-- The laid list of ReadNumber's laws. -/
def laidNum : List (String × DataW Unit) := [("errors.errorType", Rows.laid_errors_errorType), ("loop.example/g00720/impl.errNumber", Rows.laid_loop_example_g00720_impl_errNumber)]
theorem laidNum_parts (W : World) : laidMetH Tryd.prog laidNum W = (laidMet Tryd.prog [("loop.example/g00720/impl.errNumber", Rows.laid_loop_example_g00720_impl_errNumber)] W ∧ handlesMet Tryd.prog [("errors.errorType", Rows.laid_errors_errorType)] W) := rfl

theorem num_of {W : World} (h : laidMetH Tryd.prog laidNum W) : ∃ y, NumV y W := by
  rw [laidNum_parts] at h
  obtain ⟨h1, h2⟩ := h
  obtain ⟨a, s, hv, -⟩ := laid_sentinel h1 Tryd.gN Tryd.tN Tryd.underlying60 Tryd.rowErr Tryd.underlying163 Tryd.underlying185 rfl rfl Tryd.underlying9 Tryd.cellsErr Tryd.cellsStr
  refine ⟨a, by simpa using World.var?_cell Tryd.gN hv 0, ?_⟩
  obtain ⟨name, u, ty, e1, e2, e3, e4, e5⟩ := h2 _ (List.mem_singleton.2 rfl)
  have en : name = [101, 114, 114, 111, 114] := (Option.some.inj e1).symm
  subst en
  obtain rfl := Option.some.inj (Tryd.rt.symm.trans e2)
  have hm : ty ∈ (List.range 197).filter fun t => Tryd.prog.rowNamed t [101, 114, 114, 111, 114] := List.mem_filter.2 ⟨List.mem_range.2 (by rw [← Tryd.tsize]; exact e3), e4⟩
  rw [Tryd.oneRow] at hm
  obtain rfl := List.mem_singleton.1 hm
  rw [Tryd.hErr] at e5
  simpa using World.var?_cell Tryd.gT e5 0
end Go.Proofs.YtlpmcfooaakdgaaDoor
