/-
  DERIVED. GIVEN WITH THE SEED: THE PROGRAM's TIES (one call each: nine closed facts by the kernel) AND EACH ROW's TIE, after the 31st guide's Derived/Test/Toyas{Tie, Card}.lean. No idea stands in it: it is a product of the set-up. Laid BY PROGRAM, IN A SANDBOX (cutbox-door.mjs). By AI agents, Wed Nov 11 2026. No macro, syntax, notation, axiom, sorry.
-/
import Derived.Test.YthjnhfcncinhiaaDoorRows
import Derived.LaidByTextLater
import Derived.SevenTiedAt
import Derived.LaidSub
import Derived.LaidOnce
namespace Go.Proofs.YthjnhfcncinhiaaDoor
open Go
set_option maxRecDepth 100000
theorem seatTie1 : Tryd.prog.laidByTextLater [("loop.example/g00720/impl.shapes", Rows.laid_loop_example_g00720_impl_shapes), ("loop.example/g00720/impl.errHeader", Rows.laid_loop_example_g00720_impl_errHeader), ("loop.example/g00720/impl.errNumber", Rows.laid_loop_example_g00720_impl_errNumber), ("loop.example/g00720/impl.errEvent", Rows.laid_loop_example_g00720_impl_errEvent), ("loop.example/g00720/impl.errMany", Rows.laid_loop_example_g00720_impl_errMany)] [.data, .sentinel, .sentinel, .sentinel, .sentinel] true :=
  Program.laidByTextLater_by_one 112 8 70 (by kernel_rfl) (by kernel_rfl) (by kernel_rfl) (by kernel_rfl) (by kernel_rfl) (by kernel_rfl) (fun _ _ => by kernel_rfl)
theorem noOwnUnsafe : Tryd.pinned.checked.prog.headLifts.contains "ownunsafe" = false := by kernel_rfl
theorem tie : Tryd.prog.laidByTextLater [("loop.example/g00720/impl.shapes", Rows.laid_loop_example_g00720_impl_shapes), ("loop.example/g00720/impl.errHeader", Rows.laid_loop_example_g00720_impl_errHeader), ("loop.example/g00720/impl.errNumber", Rows.laid_loop_example_g00720_impl_errNumber), ("loop.example/g00720/impl.errEvent", Rows.laid_loop_example_g00720_impl_errEvent), ("loop.example/g00720/impl.errMany", Rows.laid_loop_example_g00720_impl_errMany)] [.data, .sentinel, .sentinel, .sentinel, .sentinel] true :=
  Program.laidByTextLater.sub seatTie1 ["loop.example/g00720/impl.shapes", "loop.example/g00720/impl.errHeader", "loop.example/g00720/impl.errNumber", "loop.example/g00720/impl.errEvent", "loop.example/g00720/impl.errMany"] (by kernel_rfl) (by kernel_rfl)
theorem fnBack_row_tie : Rows.fnBackRow.laidByTextAt .later Tryd.pinned [.data, .sentinel, .sentinel, .sentinel, .sentinel] true :=
  OpenClaim.laidByTextAt_later rfl rfl tie noOwnUnsafe
theorem fnBytesBack_row_tie : Rows.fnBytesBackRow.laidByTextAt .later Tryd.pinned [.data, .sentinel, .sentinel, .sentinel, .sentinel] true :=
  OpenClaim.laidByTextAt_later rfl rfl tie noOwnUnsafe
theorem fnBackUpto_row_tie : Rows.fnBackUptoRow.laidByTextAt .later Tryd.pinned [.data, .sentinel, .sentinel, .sentinel, .sentinel] true :=
  OpenClaim.laidByTextAt_later rfl rfl tie noOwnUnsafe
theorem fnBytesBackUpto_row_tie : Rows.fnBytesBackUptoRow.laidByTextAt .later Tryd.pinned [.data, .sentinel, .sentinel, .sentinel, .sentinel] true :=
  OpenClaim.laidByTextAt_later rfl rfl tie noOwnUnsafe
end Go.Proofs.YthjnhfcncinhiaaDoor
