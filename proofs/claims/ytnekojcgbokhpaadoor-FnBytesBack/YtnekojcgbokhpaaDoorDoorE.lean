/-
  What a call of a law finds in the program's error variables and in errors.errorType, as the program's text lays them.
-/
import Derived.Test.YtnekojcgbokhpaaDoorDoor
import Derived.Stop.LaidTwo
import Derived.LaidHandle
namespace Go.Proofs.YtnekojcgbokhpaaDoor
open Go.ChangeShapes Go.WideShapes Go.ChangeAt Go.RowKit

theorem Tryd.star : "*" ++ "errors.errorString" = "*errors.errorString" := by decide
theorem Tryd.rowErr (u : TypeId) (h : Tryd.prog.typeName? 3 u = some "*errors.errorString") : u = 195 :=
  typeName_ptr_named (nm := "errors.errorString") (by rw [Tryd.star]; kernel_rfl) (by kernel_rfl) (by decide) u (by rw [Tryd.star]; exact h)
theorem Tryd.gH : Tryd.prog.globalNamed "loop.example/g00720/impl.errHeader" = some 2 := by kernel_rfl
theorem Tryd.gN : Tryd.prog.globalNamed "loop.example/g00720/impl.errNumber" = some 3 := by kernel_rfl
theorem Tryd.gE : Tryd.prog.globalNamed "loop.example/g00720/impl.errEvent" = some 4 := by kernel_rfl
theorem Tryd.gM : Tryd.prog.globalNamed "loop.example/g00720/impl.errMany" = some 1 := by kernel_rfl
theorem Tryd.tH : (Tryd.prog.globals[2]?).map (·.type) = some 67 := by kernel_rfl
theorem Tryd.tN : (Tryd.prog.globals[3]?).map (·.type) = some 67 := by kernel_rfl
theorem Tryd.tE : (Tryd.prog.globals[4]?).map (·.type) = some 67 := by kernel_rfl
theorem Tryd.tM : (Tryd.prog.globals[1]?).map (·.type) = some 67 := by kernel_rfl
theorem Tryd.cellsErr : Tryd.prog.cellsOf 222 = 1 := by kernel_rfl
theorem Tryd.cellsStr : Tryd.prog.cellsOf 9 = 1 := by kernel_rfl
end Go.Proofs.YtnekojcgbokhpaaDoor
