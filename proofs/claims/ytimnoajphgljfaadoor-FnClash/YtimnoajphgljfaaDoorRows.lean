/-
  NARROWER THAN 'FOR EVERY INPUT', by the rows' own cells (each row's printed sentence says how): FnClash: laid · FnExactEventOk: laid · FnExactFieldsOf: laid · FnExactIsAccess: laid · FnExactCovers: laid · FnExactClashing: laid.
  DERIVED. THE GIVEN ROWS OF THIS SEAT. 6 by the template 'for every input the law returns true; each argument reads behind the call as it read before'; 0 by the template 'total and deterministic' (their statements: YtimnoajphgljfaaDoorTotals.lean).
  GIVEN WITH THE SEED: the statements are not yours to turn. If you find one false, say at which input.
  Laid BY PROGRAM, IN A SANDBOX (cutbox-rows.mjs): the forced cells as the released guide's own fill.sh prints them over the translation a7d590ce1834c2be… (all of the seat's roots in one cut). By AI agents, Wed Nov 11 2026. No macro, syntax, notation, axiom, sorry.
-/
import Derived.Test.YtimnoajphgljfaaDoorChecked
import GoSem.Claim
import GoSem.ClaimJoined
import GoSem.ClaimMapViews
import Derived.JoinedTies
import Derived.KernelRfl
namespace Go.Proofs.YtimnoajphgljfaaDoor
/- THE CELL 'sum', in the pinned program and in every row, IS THE sha256 OF THE DUMP (.gsa) THAT YtimnoajphgljfaaDoorProg.lean LOADS. Nothing in Lean hashes anything: it is a label: what it is worth is what the hold of that sum in a sandbox is worth. -/
noncomputable def Tryd.pinned : Pinned := { name := "ytimnoajphgljfaadoor", sum := "a7d590ce1834c2be3305afbbacc1e280e06c09eb9411e7dbd19ea46825392b15", checked := Tryd.checked }
namespace Rows
def none {H : Type} : Left H := { results := [], args := [] }

/- WHAT THE LISTED PACKAGE-LEVEL VARIABLES READ AS WHEN THE CALL BEGINS. Each datum BY PROGRAM (the guide's laid-datum.mjs) off the statement by which the dump's own 'gosem.cut.vars' lays the variable. In a bare row this is a premise. The card (YtimnoajphgljfaaDoorCards.lean) ties it to the program's text. -/
def laid_loop_example_g00720_impl_shapes {H : Type} : DataW H := .agg [.agg [.lit (.int .i64 0), .lit (.int .i64 0), .lit (.int .i64 0)], .agg [.lit (.int .i64 1), .lit (.int .i64 0), .lit (.int .i64 0)], .agg [.lit (.int .i64 1), .lit (.int .i64 0), .lit (.int .i64 0)], .agg [.lit (.int .i64 1), .lit (.int .i64 0), .lit (.int .i64 0)], .agg [.lit (.int .i64 1), .lit (.int .i64 0), .lit (.int .i64 0)], .agg [.lit (.int .i64 1), .lit (.int .i64 0), .lit (.int .i64 0)], .agg [.lit (.int .i64 9), .lit (.int .i64 0), .lit (.int .i64 8)], .agg [.lit (.int .i64 1), .lit (.int .i64 0), .lit (.int .i64 0)], .agg [.lit (.int .i64 1), .lit (.int .i64 0), .lit (.int .i64 0)], .agg [.lit (.int .i64 3), .lit (.int .i64 0), .lit (.int .i64 0)], .agg [.lit (.int .i64 1), .lit (.int .i64 0), .lit (.int .i64 0)], .agg [.lit (.int .i64 1), .lit (.int .i64 0), .lit (.int .i64 0)], .agg [.lit (.int .i64 9), .lit (.int .i64 1), .lit (.int .i64 9)], .agg [.lit (.int .i64 1), .lit (.int .i64 0), .lit (.int .i64 0)], .agg [.lit (.int .i64 1), .lit (.int .i64 0), .lit (.int .i64 0)], .agg [.lit (.int .i64 1), .lit (.int .i64 0), .lit (.int .i64 0)], .agg [.lit (.int .i64 1), .lit (.int .i64 0), .lit (.int .i64 0)], .agg [.lit (.int .i64 1), .lit (.int .i64 0), .lit (.int .i64 0)], .agg [.lit (.int .i64 1), .lit (.int .i64 0), .lit (.int .i64 0)], .agg [.lit (.int .i64 1), .lit (.int .i64 0), .lit (.int .i64 0)], .agg [.lit (.int .i64 60), .lit (.int .i64 1), .lit (.int .i64 8)], .agg [.lit (.int .i64 60), .lit (.int .i64 1), .lit (.int .i64 8)], .agg [.lit (.int .i64 12), .lit (.int .i64 1), .lit (.int .i64 64)]]

/-- 'laws.FnClash': WHATEVER THE INPUT: true; the input reads as it did. -/
def fnClashSpec : ChangeSpec := { name := "fnClash", vars := ["loop.example/g00720/impl.shapes"], fn := fun _ => fun
  | [d, g1] => { results := [.lit (.bool true)], args := [d], vars := [g1] }
  | _ => none }
def fnClashRow : OpenClaim := { program := "ytimnoajphgljfaadoor", sum := "a7d590ce1834c2be3305afbbacc1e280e06c09eb9411e7dbd19ea46825392b15", func := "loop.example/g00720/laws.FnClash", spec := "fnClash", named := ["loop.example/g00720/impl.shapes"], apart := false, laid := [("loop.example/g00720/impl.shapes", laid_loop_example_g00720_impl_shapes)] }
def FnClashSaid : Prop := fnClashRow.holds Tryd.pinned (OpenSpec.ofChange fnClashSpec)

/-- ITS FALSE NEIGHBOUR: 'it returns false'. Refute it at one input. -/
def fnClashWrong : ChangeSpec := { name := "fnClash", vars := ["loop.example/g00720/impl.shapes"], fn := fun _ => fun
  | [d, g1] => { results := [.lit (.bool false)], args := [d], vars := [g1] }
  | _ => none }
def FnClashWrongFalsely : Prop := fnClashRow.holds Tryd.pinned (OpenSpec.ofChange fnClashWrong)

/-- 'laws.FnExactEventOk': WHATEVER THE INPUT: true; the input reads as it did. -/
def fnExactEventOkSpec : ChangeSpec := { name := "fnExactEventOk", vars := ["loop.example/g00720/impl.shapes"], fn := fun _ => fun
  | [d, g1] => { results := [.lit (.bool true)], args := [d], vars := [g1] }
  | _ => none }
def fnExactEventOkRow : OpenClaim := { program := "ytimnoajphgljfaadoor", sum := "a7d590ce1834c2be3305afbbacc1e280e06c09eb9411e7dbd19ea46825392b15", func := "loop.example/g00720/laws.FnExactEventOk", spec := "fnExactEventOk", named := ["loop.example/g00720/impl.shapes"], apart := false, laid := [("loop.example/g00720/impl.shapes", laid_loop_example_g00720_impl_shapes)] }
def FnExactEventOkSaid : Prop := fnExactEventOkRow.holds Tryd.pinned (OpenSpec.ofChange fnExactEventOkSpec)

/-- ITS FALSE NEIGHBOUR: 'it returns false'. Refute it at one input. -/
def fnExactEventOkWrong : ChangeSpec := { name := "fnExactEventOk", vars := ["loop.example/g00720/impl.shapes"], fn := fun _ => fun
  | [d, g1] => { results := [.lit (.bool false)], args := [d], vars := [g1] }
  | _ => none }
def FnExactEventOkWrongFalsely : Prop := fnExactEventOkRow.holds Tryd.pinned (OpenSpec.ofChange fnExactEventOkWrong)

/-- 'laws.FnExactFieldsOf': WHATEVER THE INPUT: true; the input reads as it did. -/
def fnExactFieldsOfSpec : ChangeSpec := { name := "fnExactFieldsOf", vars := ["loop.example/g00720/impl.shapes"], fn := fun _ => fun
  | [d, g1] => { results := [.lit (.bool true)], args := [d], vars := [g1] }
  | _ => none }
def fnExactFieldsOfRow : OpenClaim := { program := "ytimnoajphgljfaadoor", sum := "a7d590ce1834c2be3305afbbacc1e280e06c09eb9411e7dbd19ea46825392b15", func := "loop.example/g00720/laws.FnExactFieldsOf", spec := "fnExactFieldsOf", named := ["loop.example/g00720/impl.shapes"], apart := false, laid := [("loop.example/g00720/impl.shapes", laid_loop_example_g00720_impl_shapes)] }
def FnExactFieldsOfSaid : Prop := fnExactFieldsOfRow.holds Tryd.pinned (OpenSpec.ofChange fnExactFieldsOfSpec)

/-- ITS FALSE NEIGHBOUR: 'it returns false'. Refute it at one input. -/
def fnExactFieldsOfWrong : ChangeSpec := { name := "fnExactFieldsOf", vars := ["loop.example/g00720/impl.shapes"], fn := fun _ => fun
  | [d, g1] => { results := [.lit (.bool false)], args := [d], vars := [g1] }
  | _ => none }
def FnExactFieldsOfWrongFalsely : Prop := fnExactFieldsOfRow.holds Tryd.pinned (OpenSpec.ofChange fnExactFieldsOfWrong)

/-- 'laws.FnExactIsAccess': WHATEVER THE INPUT: true; the input reads as it did. -/
def fnExactIsAccessSpec : ChangeSpec := { name := "fnExactIsAccess", vars := ["loop.example/g00720/impl.shapes"], fn := fun _ => fun
  | [d, g1] => { results := [.lit (.bool true)], args := [d], vars := [g1] }
  | _ => none }
def fnExactIsAccessRow : OpenClaim := { program := "ytimnoajphgljfaadoor", sum := "a7d590ce1834c2be3305afbbacc1e280e06c09eb9411e7dbd19ea46825392b15", func := "loop.example/g00720/laws.FnExactIsAccess", spec := "fnExactIsAccess", named := ["loop.example/g00720/impl.shapes"], apart := false, laid := [("loop.example/g00720/impl.shapes", laid_loop_example_g00720_impl_shapes)] }
def FnExactIsAccessSaid : Prop := fnExactIsAccessRow.holds Tryd.pinned (OpenSpec.ofChange fnExactIsAccessSpec)

/-- ITS FALSE NEIGHBOUR: 'it returns false'. Refute it at one input. -/
def fnExactIsAccessWrong : ChangeSpec := { name := "fnExactIsAccess", vars := ["loop.example/g00720/impl.shapes"], fn := fun _ => fun
  | [d, g1] => { results := [.lit (.bool false)], args := [d], vars := [g1] }
  | _ => none }
def FnExactIsAccessWrongFalsely : Prop := fnExactIsAccessRow.holds Tryd.pinned (OpenSpec.ofChange fnExactIsAccessWrong)

/-- 'laws.FnExactCovers': WHATEVER THE INPUT: true; the input reads as it did. -/
def fnExactCoversSpec : ChangeSpec := { name := "fnExactCovers", vars := ["loop.example/g00720/impl.shapes"], fn := fun _ => fun
  | [d1, d2, g1] => { results := [.lit (.bool true)], args := [d1, d2], vars := [g1] }
  | _ => none }
def fnExactCoversRow : OpenClaim := { program := "ytimnoajphgljfaadoor", sum := "a7d590ce1834c2be3305afbbacc1e280e06c09eb9411e7dbd19ea46825392b15", func := "loop.example/g00720/laws.FnExactCovers", spec := "fnExactCovers", named := ["loop.example/g00720/impl.shapes"], apart := false, laid := [("loop.example/g00720/impl.shapes", laid_loop_example_g00720_impl_shapes)] }
def FnExactCoversSaid : Prop := fnExactCoversRow.holds Tryd.pinned (OpenSpec.ofChange fnExactCoversSpec)

/-- ITS FALSE NEIGHBOUR: 'it returns false'. Refute it at one input. -/
def fnExactCoversWrong : ChangeSpec := { name := "fnExactCovers", vars := ["loop.example/g00720/impl.shapes"], fn := fun _ => fun
  | [d1, d2, g1] => { results := [.lit (.bool false)], args := [d1, d2], vars := [g1] }
  | _ => none }
def FnExactCoversWrongFalsely : Prop := fnExactCoversRow.holds Tryd.pinned (OpenSpec.ofChange fnExactCoversWrong)

/-- 'laws.FnExactClashing': WHATEVER THE INPUT: true; the input reads as it did. -/
def fnExactClashingSpec : ChangeSpec := { name := "fnExactClashing", vars := ["loop.example/g00720/impl.shapes"], fn := fun _ => fun
  | [d1, d2, g1] => { results := [.lit (.bool true)], args := [d1, d2], vars := [g1] }
  | _ => none }
def fnExactClashingRow : OpenClaim := { program := "ytimnoajphgljfaadoor", sum := "a7d590ce1834c2be3305afbbacc1e280e06c09eb9411e7dbd19ea46825392b15", func := "loop.example/g00720/laws.FnExactClashing", spec := "fnExactClashing", named := ["loop.example/g00720/impl.shapes"], apart := false, laid := [("loop.example/g00720/impl.shapes", laid_loop_example_g00720_impl_shapes)] }
def FnExactClashingSaid : Prop := fnExactClashingRow.holds Tryd.pinned (OpenSpec.ofChange fnExactClashingSpec)

/-- ITS FALSE NEIGHBOUR: 'it returns false'. Refute it at one input. -/
def fnExactClashingWrong : ChangeSpec := { name := "fnExactClashing", vars := ["loop.example/g00720/impl.shapes"], fn := fun _ => fun
  | [d1, d2, g1] => { results := [.lit (.bool false)], args := [d1, d2], vars := [g1] }
  | _ => none }
def FnExactClashingWrongFalsely : Prop := fnExactClashingRow.holds Tryd.pinned (OpenSpec.ofChange fnExactClashingWrong)

/- THE SECOND FORM. 'bulk': how many values and letters a reading holds, each counted each time it is reached (what is shared counts as often as it is met; a slice's spare places count too). A statement '..UptoSaid' is the law's where the arguments, and the package variables that the reading takes, are together of bulk at most 1048576: NARROWER than '..Said'. Prove '..Said' where nothing that the law and all that it calls make is longer than what came in: it says more and counts as full. Else prove '..UptoSaid'. A law counts once. -/
mutual
def uptoBulk {H : Type} : DataW H → Nat
  | .lit (.string bytes) => bytes.length + 1
  | .lit _ => 1
  | .nil => 1
  | .ptr d => uptoBulk d + 1
  | .slice elems spare => uptoBulkAll elems + uptoBulkAll spare + 1
  | .agg parts => uptoBulkAll parts + 1
  | .iface _ d => uptoBulk d + 1
  | .map entries => uptoBulkEntries entries + 1
  | .held _ => 1
def uptoBulkAll {H : Type} : List (DataW H) → Nat
  | [] => 0
  | d :: r => uptoBulk d + uptoBulkAll r
def uptoBulkEntries {H : Type} : List (Lit × DataW H) → Nat
  | [] => 0
  | x :: r => uptoBulkEntry x + uptoBulkEntries r
def uptoBulkEntry {H : Type} : Lit × DataW H → Nat
  | (.string bytes, d) => bytes.length + uptoBulk d + 1
  | (_, d) => uptoBulk d + 1
 end
def uptoSmall : (H : Type) → List (DataW H) → Bool := fun _ ds => decide (uptoBulkAll ds ≤ 1048576)
def OpenSpec.upto (s : _root_.Go.ChangeSpec) : _root_.Go.OpenSpec := { _root_.Go.OpenSpec.ofChange s with cond := some uptoSmall }

/-- 'laws.FnClash', WHERE WHAT IT READS IS OF BULK AT MOST 1048576: true; the input reads as it did. -/
def fnClashUptoRow : OpenClaim := { program := "ytimnoajphgljfaadoor", sum := "a7d590ce1834c2be3305afbbacc1e280e06c09eb9411e7dbd19ea46825392b15", func := "loop.example/g00720/laws.FnClash", spec := "fnClash", named := ["loop.example/g00720/impl.shapes"], apart := false, laid := [("loop.example/g00720/impl.shapes", laid_loop_example_g00720_impl_shapes)], narrowed := true }
def FnClashUptoSaid : Prop := fnClashUptoRow.holds Tryd.pinned (OpenSpec.upto fnClashSpec)

/-- 'laws.FnExactEventOk', WHERE WHAT IT READS IS OF BULK AT MOST 1048576: true; the input reads as it did. -/
def fnExactEventOkUptoRow : OpenClaim := { program := "ytimnoajphgljfaadoor", sum := "a7d590ce1834c2be3305afbbacc1e280e06c09eb9411e7dbd19ea46825392b15", func := "loop.example/g00720/laws.FnExactEventOk", spec := "fnExactEventOk", named := ["loop.example/g00720/impl.shapes"], apart := false, laid := [("loop.example/g00720/impl.shapes", laid_loop_example_g00720_impl_shapes)], narrowed := true }
def FnExactEventOkUptoSaid : Prop := fnExactEventOkUptoRow.holds Tryd.pinned (OpenSpec.upto fnExactEventOkSpec)

/-- 'laws.FnExactFieldsOf', WHERE WHAT IT READS IS OF BULK AT MOST 1048576: true; the input reads as it did. -/
def fnExactFieldsOfUptoRow : OpenClaim := { program := "ytimnoajphgljfaadoor", sum := "a7d590ce1834c2be3305afbbacc1e280e06c09eb9411e7dbd19ea46825392b15", func := "loop.example/g00720/laws.FnExactFieldsOf", spec := "fnExactFieldsOf", named := ["loop.example/g00720/impl.shapes"], apart := false, laid := [("loop.example/g00720/impl.shapes", laid_loop_example_g00720_impl_shapes)], narrowed := true }
def FnExactFieldsOfUptoSaid : Prop := fnExactFieldsOfUptoRow.holds Tryd.pinned (OpenSpec.upto fnExactFieldsOfSpec)

/-- 'laws.FnExactIsAccess', WHERE WHAT IT READS IS OF BULK AT MOST 1048576: true; the input reads as it did. -/
def fnExactIsAccessUptoRow : OpenClaim := { program := "ytimnoajphgljfaadoor", sum := "a7d590ce1834c2be3305afbbacc1e280e06c09eb9411e7dbd19ea46825392b15", func := "loop.example/g00720/laws.FnExactIsAccess", spec := "fnExactIsAccess", named := ["loop.example/g00720/impl.shapes"], apart := false, laid := [("loop.example/g00720/impl.shapes", laid_loop_example_g00720_impl_shapes)], narrowed := true }
def FnExactIsAccessUptoSaid : Prop := fnExactIsAccessUptoRow.holds Tryd.pinned (OpenSpec.upto fnExactIsAccessSpec)

/-- 'laws.FnExactCovers', WHERE WHAT IT READS IS OF BULK AT MOST 1048576: true; the input reads as it did. -/
def fnExactCoversUptoRow : OpenClaim := { program := "ytimnoajphgljfaadoor", sum := "a7d590ce1834c2be3305afbbacc1e280e06c09eb9411e7dbd19ea46825392b15", func := "loop.example/g00720/laws.FnExactCovers", spec := "fnExactCovers", named := ["loop.example/g00720/impl.shapes"], apart := false, laid := [("loop.example/g00720/impl.shapes", laid_loop_example_g00720_impl_shapes)], narrowed := true }
def FnExactCoversUptoSaid : Prop := fnExactCoversUptoRow.holds Tryd.pinned (OpenSpec.upto fnExactCoversSpec)

/-- 'laws.FnExactClashing', WHERE WHAT IT READS IS OF BULK AT MOST 1048576: true; the input reads as it did. -/
def fnExactClashingUptoRow : OpenClaim := { program := "ytimnoajphgljfaadoor", sum := "a7d590ce1834c2be3305afbbacc1e280e06c09eb9411e7dbd19ea46825392b15", func := "loop.example/g00720/laws.FnExactClashing", spec := "fnExactClashing", named := ["loop.example/g00720/impl.shapes"], apart := false, laid := [("loop.example/g00720/impl.shapes", laid_loop_example_g00720_impl_shapes)], narrowed := true }
def FnExactClashingUptoSaid : Prop := fnExactClashingUptoRow.holds Tryd.pinned (OpenSpec.upto fnExactClashingSpec)

end Rows
end Go.Proofs.YtimnoajphgljfaaDoor
