/-
  NARROWER THAN 'FOR EVERY INPUT', by the rows' own cells (each row's printed sentence says how): FnBack: ifaces, laid · FnBytesBack: ifaces, laid.
  DERIVED. THE GIVEN ROWS OF THIS SEAT. 2 by the template 'for every input the law returns true; each argument reads behind the call as it read before'; 0 by the template 'total and deterministic' (their statements: YthjnhfcncinhiaaDoorTotals.lean).
  GIVEN WITH THE SEED: the statements are not yours to turn. If you find one false, say at which input.
  Laid BY PROGRAM, IN A SANDBOX (cutbox-rows.mjs): the forced cells as the released guide's own fill.sh prints them over the translation a0f7f37a6ce65fbd… (all of the seat's roots in one cut). By AI agents, Wed Nov 11 2026. No macro, syntax, notation, axiom, sorry.
-/
import Derived.Test.YthjnhfcncinhiaaDoorChecked
import GoSem.Claim
import GoSem.ClaimJoined
import GoSem.ClaimMapViews
import Derived.JoinedTies
import Derived.KernelRfl
namespace Go.Proofs.YthjnhfcncinhiaaDoor
/- THE CELL 'sum', in the pinned program and in every row, IS THE sha256 OF THE DUMP (.gsa) THAT YthjnhfcncinhiaaDoorProg.lean LOADS. Nothing in Lean hashes anything: it is a label: what it is worth is what the hold of that sum in a sandbox is worth. -/
noncomputable def Tryd.pinned : Pinned := { name := "ythjnhfcncinhiaadoor", sum := "a0f7f37a6ce65fbdbf212958a8c20525048941536d819a1a89f37aa824fc894e", checked := Tryd.checked }
namespace Rows
def none {H : Type} : Left H := { results := [], args := [] }

/- WHAT THE LISTED PACKAGE-LEVEL VARIABLES READ AS WHEN THE CALL BEGINS. Each datum BY PROGRAM (the guide's laid-datum.mjs) off the statement by which the dump's own 'gosem.cut.vars' lays the variable. In a bare row this is a premise. The card (YthjnhfcncinhiaaDoorCards.lean) ties it to the program's text. -/
def laid_loop_example_g00720_impl_shapes {H : Type} : DataW H := .agg [.agg [.lit (.int .i64 0), .lit (.int .i64 0), .lit (.int .i64 0)], .agg [.lit (.int .i64 1), .lit (.int .i64 0), .lit (.int .i64 0)], .agg [.lit (.int .i64 1), .lit (.int .i64 0), .lit (.int .i64 0)], .agg [.lit (.int .i64 1), .lit (.int .i64 0), .lit (.int .i64 0)], .agg [.lit (.int .i64 1), .lit (.int .i64 0), .lit (.int .i64 0)], .agg [.lit (.int .i64 1), .lit (.int .i64 0), .lit (.int .i64 0)], .agg [.lit (.int .i64 9), .lit (.int .i64 0), .lit (.int .i64 8)], .agg [.lit (.int .i64 1), .lit (.int .i64 0), .lit (.int .i64 0)], .agg [.lit (.int .i64 1), .lit (.int .i64 0), .lit (.int .i64 0)], .agg [.lit (.int .i64 3), .lit (.int .i64 0), .lit (.int .i64 0)], .agg [.lit (.int .i64 1), .lit (.int .i64 0), .lit (.int .i64 0)], .agg [.lit (.int .i64 1), .lit (.int .i64 0), .lit (.int .i64 0)], .agg [.lit (.int .i64 9), .lit (.int .i64 1), .lit (.int .i64 9)], .agg [.lit (.int .i64 1), .lit (.int .i64 0), .lit (.int .i64 0)], .agg [.lit (.int .i64 1), .lit (.int .i64 0), .lit (.int .i64 0)], .agg [.lit (.int .i64 1), .lit (.int .i64 0), .lit (.int .i64 0)], .agg [.lit (.int .i64 1), .lit (.int .i64 0), .lit (.int .i64 0)], .agg [.lit (.int .i64 1), .lit (.int .i64 0), .lit (.int .i64 0)], .agg [.lit (.int .i64 1), .lit (.int .i64 0), .lit (.int .i64 0)], .agg [.lit (.int .i64 1), .lit (.int .i64 0), .lit (.int .i64 0)], .agg [.lit (.int .i64 60), .lit (.int .i64 1), .lit (.int .i64 8)], .agg [.lit (.int .i64 60), .lit (.int .i64 1), .lit (.int .i64 8)], .agg [.lit (.int .i64 12), .lit (.int .i64 1), .lit (.int .i64 64)]]
def laid_loop_example_g00720_impl_errHeader {H : Type} : DataW H := .iface "*errors.errorString" (.ptr (.agg [.lit (.string [116, 104, 101, 32, 102, 105, 114, 115, 116, 32, 98, 121, 116, 101, 115, 32, 97, 114, 101, 32, 111, 116, 104, 101, 114, 115])]))
def laid_loop_example_g00720_impl_errNumber {H : Type} : DataW H := .iface "*errors.errorString" (.ptr (.agg [.lit (.string [116, 104, 101, 114, 101, 32, 105, 115, 32, 110, 111, 32, 110, 117, 109, 98, 101, 114])]))
def laid_loop_example_g00720_impl_errEvent {H : Type} : DataW H := .iface "*errors.errorString" (.ptr (.agg [.lit (.string [116, 104, 101, 114, 101, 32, 105, 115, 32, 110, 111, 32, 114, 105, 103, 104, 116, 32, 101, 118, 101, 110, 116])]))
def laid_loop_example_g00720_impl_errMany {H : Type} : DataW H := .iface "*errors.errorString" (.ptr (.agg [.lit (.string [116, 104, 101, 114, 101, 32, 105, 115, 32, 109, 111, 114, 101, 32, 98, 101, 104, 105, 110, 100, 32, 116, 104, 101, 32, 108, 97, 115, 116, 32, 101, 118, 101, 110, 116])]))

/-- 'laws.FnBack': WHATEVER THE INPUT: true; the input reads as it did. -/
def fnBackSpec : ChangeSpec := { name := "fnBack", vars := ["loop.example/g00720/impl.shapes", "loop.example/g00720/impl.errMany", "loop.example/g00720/impl.errHeader", "loop.example/g00720/impl.errEvent", "loop.example/g00720/impl.errNumber"], fn := fun _ => fun
  | [d, g1, g2, g3, g4, g5] => { results := [.lit (.bool true)], args := [d], vars := [g1, g2, g3, g4, g5] }
  | _ => none }
def fnBackRow : OpenClaim := { program := "ythjnhfcncinhiaadoor", sum := "a0f7f37a6ce65fbdbf212958a8c20525048941536d819a1a89f37aa824fc894e", func := "loop.example/g00720/laws.FnBack", spec := "fnBack", inPlace := ["internal/reflectlite.TypeOf"], unfollowed := true, recurses := true, named := ["loop.example/g00720/impl.shapes", "loop.example/g00720/impl.errMany", "loop.example/g00720/impl.errHeader", "loop.example/g00720/impl.errEvent", "loop.example/g00720/impl.errNumber"], ifaces := true, apart := false, laid := [("loop.example/g00720/impl.shapes", laid_loop_example_g00720_impl_shapes), ("loop.example/g00720/impl.errHeader", laid_loop_example_g00720_impl_errHeader), ("loop.example/g00720/impl.errNumber", laid_loop_example_g00720_impl_errNumber), ("loop.example/g00720/impl.errEvent", laid_loop_example_g00720_impl_errEvent), ("loop.example/g00720/impl.errMany", laid_loop_example_g00720_impl_errMany)] }
def FnBackSaid : Prop := fnBackRow.holds Tryd.pinned (OpenSpec.ofChange fnBackSpec)

/-- ITS FALSE NEIGHBOUR: 'it returns false'. Refute it at one input. -/
def fnBackWrong : ChangeSpec := { name := "fnBack", vars := ["loop.example/g00720/impl.shapes", "loop.example/g00720/impl.errMany", "loop.example/g00720/impl.errHeader", "loop.example/g00720/impl.errEvent", "loop.example/g00720/impl.errNumber"], fn := fun _ => fun
  | [d, g1, g2, g3, g4, g5] => { results := [.lit (.bool false)], args := [d], vars := [g1, g2, g3, g4, g5] }
  | _ => none }
def FnBackWrongFalsely : Prop := fnBackRow.holds Tryd.pinned (OpenSpec.ofChange fnBackWrong)

/-- 'laws.FnBytesBack': WHATEVER THE INPUT: true; the input reads as it did. -/
def fnBytesBackSpec : ChangeSpec := { name := "fnBytesBack", vars := ["loop.example/g00720/impl.errMany", "loop.example/g00720/impl.errHeader", "loop.example/g00720/impl.errEvent", "loop.example/g00720/impl.errNumber", "loop.example/g00720/impl.shapes"], fn := fun _ => fun
  | [d, g1, g2, g3, g4, g5] => { results := [.lit (.bool true)], args := [d], vars := [g1, g2, g3, g4, g5] }
  | _ => none }
def fnBytesBackRow : OpenClaim := { program := "ythjnhfcncinhiaadoor", sum := "a0f7f37a6ce65fbdbf212958a8c20525048941536d819a1a89f37aa824fc894e", func := "loop.example/g00720/laws.FnBytesBack", spec := "fnBytesBack", inPlace := ["internal/reflectlite.TypeOf"], unfollowed := true, recurses := true, named := ["loop.example/g00720/impl.errMany", "loop.example/g00720/impl.errHeader", "loop.example/g00720/impl.errEvent", "loop.example/g00720/impl.errNumber", "loop.example/g00720/impl.shapes"], ifaces := true, apart := false, laid := [("loop.example/g00720/impl.shapes", laid_loop_example_g00720_impl_shapes), ("loop.example/g00720/impl.errHeader", laid_loop_example_g00720_impl_errHeader), ("loop.example/g00720/impl.errNumber", laid_loop_example_g00720_impl_errNumber), ("loop.example/g00720/impl.errEvent", laid_loop_example_g00720_impl_errEvent), ("loop.example/g00720/impl.errMany", laid_loop_example_g00720_impl_errMany)] }
def FnBytesBackSaid : Prop := fnBytesBackRow.holds Tryd.pinned (OpenSpec.ofChange fnBytesBackSpec)

/-- ITS FALSE NEIGHBOUR: 'it returns false'. Refute it at one input. -/
def fnBytesBackWrong : ChangeSpec := { name := "fnBytesBack", vars := ["loop.example/g00720/impl.errMany", "loop.example/g00720/impl.errHeader", "loop.example/g00720/impl.errEvent", "loop.example/g00720/impl.errNumber", "loop.example/g00720/impl.shapes"], fn := fun _ => fun
  | [d, g1, g2, g3, g4, g5] => { results := [.lit (.bool false)], args := [d], vars := [g1, g2, g3, g4, g5] }
  | _ => none }
def FnBytesBackWrongFalsely : Prop := fnBytesBackRow.holds Tryd.pinned (OpenSpec.ofChange fnBytesBackWrong)

/- THE SECOND FORM. 'bulk': how many values and letters a reading holds, each counted each time it is reached (what is shared counts as often as it is met; a slice's spare places count too). A statement '..UptoSaid' is the law's where the arguments, and the package variables that the reading takes, are together of bulk at most 1048576: NARROWER than '..Said'. Prove '..Said' where nothing that the law and all that it calls make is longer than what came in: it says more and counts as full. Else prove '..UptoSaid'. A law counts once. -/
mutual
def uptoBulk {H : Type} : DataW H → Nat
  | .lit (.string bytes) => bytes.length + 1
  | .lit _ => 1
  | .nil => 1
  | .ptr d => uptoBulk d + 1
  | .slice elems spare => uptoBulkAll elems + uptoBulkAll spare + 1
  | .agg parts => uptoBulkAll parts + 1
  | .iface _ d => uptoBulk d + 1
  | .map entries => uptoBulkEntries entries + 1
  | .held _ => 1
def uptoBulkAll {H : Type} : List (DataW H) → Nat
  | [] => 0
  | d :: r => uptoBulk d + uptoBulkAll r
def uptoBulkEntries {H : Type} : List (Lit × DataW H) → Nat
  | [] => 0
  | x :: r => uptoBulkEntry x + uptoBulkEntries r
def uptoBulkEntry {H : Type} : Lit × DataW H → Nat
  | (.string bytes, d) => bytes.length + uptoBulk d + 1
  | (_, d) => uptoBulk d + 1
 end
def uptoSmall : (H : Type) → List (DataW H) → Bool := fun _ ds => decide (uptoBulkAll ds ≤ 1048576)
def OpenSpec.upto (s : _root_.Go.ChangeSpec) : _root_.Go.OpenSpec := { _root_.Go.OpenSpec.ofChange s with cond := some uptoSmall }

/-- 'laws.FnBack', WHERE WHAT IT READS IS OF BULK AT MOST 1048576: true; the input reads as it did. -/
def fnBackUptoRow : OpenClaim := { program := "ythjnhfcncinhiaadoor", sum := "a0f7f37a6ce65fbdbf212958a8c20525048941536d819a1a89f37aa824fc894e", func := "loop.example/g00720/laws.FnBack", spec := "fnBack", inPlace := ["internal/reflectlite.TypeOf"], unfollowed := true, recurses := true, named := ["loop.example/g00720/impl.shapes", "loop.example/g00720/impl.errMany", "loop.example/g00720/impl.errHeader", "loop.example/g00720/impl.errEvent", "loop.example/g00720/impl.errNumber"], ifaces := true, apart := false, laid := [("loop.example/g00720/impl.shapes", laid_loop_example_g00720_impl_shapes), ("loop.example/g00720/impl.errHeader", laid_loop_example_g00720_impl_errHeader), ("loop.example/g00720/impl.errNumber", laid_loop_example_g00720_impl_errNumber), ("loop.example/g00720/impl.errEvent", laid_loop_example_g00720_impl_errEvent), ("loop.example/g00720/impl.errMany", laid_loop_example_g00720_impl_errMany)], narrowed := true }
def FnBackUptoSaid : Prop := fnBackUptoRow.holds Tryd.pinned (OpenSpec.upto fnBackSpec)

/-- 'laws.FnBytesBack', WHERE WHAT IT READS IS OF BULK AT MOST 1048576: true; the input reads as it did. -/
def fnBytesBackUptoRow : OpenClaim := { program := "ythjnhfcncinhiaadoor", sum := "a0f7f37a6ce65fbdbf212958a8c20525048941536d819a1a89f37aa824fc894e", func := "loop.example/g00720/laws.FnBytesBack", spec := "fnBytesBack", inPlace := ["internal/reflectlite.TypeOf"], unfollowed := true, recurses := true, named := ["loop.example/g00720/impl.errMany", "loop.example/g00720/impl.errHeader", "loop.example/g00720/impl.errEvent", "loop.example/g00720/impl.errNumber", "loop.example/g00720/impl.shapes"], ifaces := true, apart := false, laid := [("loop.example/g00720/impl.shapes", laid_loop_example_g00720_impl_shapes), ("loop.example/g00720/impl.errHeader", laid_loop_example_g00720_impl_errHeader), ("loop.example/g00720/impl.errNumber", laid_loop_example_g00720_impl_errNumber), ("loop.example/g00720/impl.errEvent", laid_loop_example_g00720_impl_errEvent), ("loop.example/g00720/impl.errMany", laid_loop_example_g00720_impl_errMany)], narrowed := true }
def FnBytesBackUptoSaid : Prop := fnBytesBackUptoRow.holds Tryd.pinned (OpenSpec.upto fnBytesBackSpec)

end Rows
end Go.Proofs.YthjnhfcncinhiaaDoor
