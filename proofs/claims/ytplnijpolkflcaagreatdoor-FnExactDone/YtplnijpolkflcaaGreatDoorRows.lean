/-
  NARROWER THAN 'FOR EVERY INPUT', by the rows' own cells (each row's printed sentence says how): FnScene: laid · FnOrder: laid · FnLocked: laid · FnAtOnce: laid · FnExactDone: laid · FnExactEdgesInto: laid · FnExactBeforesOf: laid · FnExactOrdered: laid · FnExactAtOnce: laid.
  DERIVED. THE GIVEN ROWS OF THIS SEAT. 9 by the template 'for every input the law returns true; each argument reads behind the call as it read before'; 0 by the template 'total and deterministic' (their statements: YtplnijpolkflcaaGreatDoorTotals.lean).
  GIVEN WITH THE SEED: the statements are not yours to turn. If you find one false, say at which input.
  Laid BY PROGRAM, IN A SANDBOX (cutbox-rows.mjs): the forced cells as the released guide's own fill.sh prints them over the translation fff6ed7fcc505823… (all of the seat's roots in one cut). By AI agents, Wed Nov 11 2026. No macro, syntax, notation, axiom, sorry.
-/
import Derived.Test.YtplnijpolkflcaaGreatDoorChecked
import GoSem.Claim
import GoSem.ClaimJoined
import GoSem.ClaimMapViews
import Derived.JoinedTies
import Derived.KernelRfl
namespace Go.Proofs.YtplnijpolkflcaaGreatDoor
/- THE CELL 'sum', in the pinned program and in every row, IS THE sha256 OF THE DUMP (.gsa) THAT YtplnijpolkflcaaGreatDoorProg.lean LOADS. Nothing in Lean hashes anything: it is a label: what it is worth is what the hold of that sum in a sandbox is worth. -/
noncomputable def Tryz.pinned : Pinned := { name := "ytplnijpolkflcaagreatdoor", sum := "fff6ed7fcc505823a134aa7e7af2408596b83e2265f44f52aee0fd5109945c07", checked := Tryz.checked }
namespace Rows
def none {H : Type} : Left H := { results := [], args := [] }

/- WHAT THE LISTED PACKAGE-LEVEL VARIABLES READ AS WHEN THE CALL BEGINS. Each datum BY PROGRAM (the guide's laid-datum.mjs) off the statement by which the dump's own 'gosem.cut.vars' lays the variable. In a bare row this is a premise. The card (YtplnijpolkflcaaGreatDoorCards.lean) ties it to the program's text. -/
def laid_loop_example_g00720_impl_shapes {H : Type} : DataW H := .agg [.agg [.lit (.int .i64 0), .lit (.int .i64 0), .lit (.int .i64 0)], .agg [.lit (.int .i64 1), .lit (.int .i64 0), .lit (.int .i64 0)], .agg [.lit (.int .i64 1), .lit (.int .i64 0), .lit (.int .i64 0)], .agg [.lit (.int .i64 1), .lit (.int .i64 0), .lit (.int .i64 0)], .agg [.lit (.int .i64 1), .lit (.int .i64 0), .lit (.int .i64 0)], .agg [.lit (.int .i64 1), .lit (.int .i64 0), .lit (.int .i64 0)], .agg [.lit (.int .i64 9), .lit (.int .i64 0), .lit (.int .i64 8)], .agg [.lit (.int .i64 1), .lit (.int .i64 0), .lit (.int .i64 0)], .agg [.lit (.int .i64 1), .lit (.int .i64 0), .lit (.int .i64 0)], .agg [.lit (.int .i64 3), .lit (.int .i64 0), .lit (.int .i64 0)], .agg [.lit (.int .i64 1), .lit (.int .i64 0), .lit (.int .i64 0)], .agg [.lit (.int .i64 1), .lit (.int .i64 0), .lit (.int .i64 0)], .agg [.lit (.int .i64 9), .lit (.int .i64 1), .lit (.int .i64 9)], .agg [.lit (.int .i64 1), .lit (.int .i64 0), .lit (.int .i64 0)], .agg [.lit (.int .i64 1), .lit (.int .i64 0), .lit (.int .i64 0)], .agg [.lit (.int .i64 1), .lit (.int .i64 0), .lit (.int .i64 0)], .agg [.lit (.int .i64 1), .lit (.int .i64 0), .lit (.int .i64 0)], .agg [.lit (.int .i64 1), .lit (.int .i64 0), .lit (.int .i64 0)], .agg [.lit (.int .i64 1), .lit (.int .i64 0), .lit (.int .i64 0)], .agg [.lit (.int .i64 1), .lit (.int .i64 0), .lit (.int .i64 0)], .agg [.lit (.int .i64 60), .lit (.int .i64 1), .lit (.int .i64 8)], .agg [.lit (.int .i64 60), .lit (.int .i64 1), .lit (.int .i64 8)], .agg [.lit (.int .i64 12), .lit (.int .i64 1), .lit (.int .i64 64)]]
def laid_math_bits_deBruijn64tab {H : Type} : DataW H := .agg [.lit (.int .u8 0), .lit (.int .u8 1), .lit (.int .u8 56), .lit (.int .u8 2), .lit (.int .u8 57), .lit (.int .u8 49), .lit (.int .u8 28), .lit (.int .u8 3), .lit (.int .u8 61), .lit (.int .u8 58), .lit (.int .u8 42), .lit (.int .u8 50), .lit (.int .u8 38), .lit (.int .u8 29), .lit (.int .u8 17), .lit (.int .u8 4), .lit (.int .u8 62), .lit (.int .u8 47), .lit (.int .u8 59), .lit (.int .u8 36), .lit (.int .u8 45), .lit (.int .u8 43), .lit (.int .u8 51), .lit (.int .u8 22), .lit (.int .u8 53), .lit (.int .u8 39), .lit (.int .u8 33), .lit (.int .u8 30), .lit (.int .u8 24), .lit (.int .u8 18), .lit (.int .u8 12), .lit (.int .u8 5), .lit (.int .u8 63), .lit (.int .u8 55), .lit (.int .u8 48), .lit (.int .u8 27), .lit (.int .u8 60), .lit (.int .u8 41), .lit (.int .u8 37), .lit (.int .u8 16), .lit (.int .u8 46), .lit (.int .u8 35), .lit (.int .u8 44), .lit (.int .u8 21), .lit (.int .u8 52), .lit (.int .u8 32), .lit (.int .u8 23), .lit (.int .u8 11), .lit (.int .u8 54), .lit (.int .u8 26), .lit (.int .u8 40), .lit (.int .u8 15), .lit (.int .u8 34), .lit (.int .u8 20), .lit (.int .u8 31), .lit (.int .u8 10), .lit (.int .u8 25), .lit (.int .u8 14), .lit (.int .u8 19), .lit (.int .u8 9), .lit (.int .u8 13), .lit (.int .u8 8), .lit (.int .u8 7), .lit (.int .u8 6)]

/-- 'laws.FnScene': WHATEVER THE INPUT: true; the input reads as it did. -/
def fnSceneSpec : ChangeSpec := { name := "fnScene", vars := ["loop.example/g00720/impl.shapes"], fn := fun _ => fun
  | [d, g1] => { results := [.lit (.bool true)], args := [d], vars := [g1] }
  | _ => none }
def fnSceneRow : OpenClaim := { program := "ytplnijpolkflcaagreatdoor", sum := "fff6ed7fcc505823a134aa7e7af2408596b83e2265f44f52aee0fd5109945c07", func := "loop.example/g00720/laws.FnScene", spec := "fnScene", unfollowed := true, recurses := true, named := ["loop.example/g00720/impl.shapes"], plainKeys := false, apart := false, laid := [("loop.example/g00720/impl.shapes", laid_loop_example_g00720_impl_shapes)] }
def FnSceneSaid : Prop := fnSceneRow.holds Tryz.pinned (OpenSpec.ofChange fnSceneSpec)

/-- ITS FALSE NEIGHBOUR: 'it returns false'. Refute it at one input. -/
def fnSceneWrong : ChangeSpec := { name := "fnScene", vars := ["loop.example/g00720/impl.shapes"], fn := fun _ => fun
  | [d, g1] => { results := [.lit (.bool false)], args := [d], vars := [g1] }
  | _ => none }
def FnSceneWrongFalsely : Prop := fnSceneRow.holds Tryz.pinned (OpenSpec.ofChange fnSceneWrong)

/-- 'laws.FnOrder': WHATEVER THE INPUT: true; the input reads as it did. -/
def fnOrderSpec : ChangeSpec := { name := "fnOrder", vars := ["loop.example/g00720/impl.shapes"], fn := fun _ => fun
  | [d, g1] => { results := [.lit (.bool true)], args := [d], vars := [g1] }
  | _ => none }
def fnOrderRow : OpenClaim := { program := "ytplnijpolkflcaagreatdoor", sum := "fff6ed7fcc505823a134aa7e7af2408596b83e2265f44f52aee0fd5109945c07", func := "loop.example/g00720/laws.FnOrder", spec := "fnOrder", unfollowed := true, recurses := true, named := ["loop.example/g00720/impl.shapes", "math/bits.deBruijn64tab"], plainKeys := false, apart := false, laid := [("math/bits.deBruijn64tab", laid_math_bits_deBruijn64tab), ("loop.example/g00720/impl.shapes", laid_loop_example_g00720_impl_shapes)] }
def FnOrderSaid : Prop := fnOrderRow.holds Tryz.pinned (OpenSpec.ofChange fnOrderSpec)

/-- ITS FALSE NEIGHBOUR: 'it returns false'. Refute it at one input. -/
def fnOrderWrong : ChangeSpec := { name := "fnOrder", vars := ["loop.example/g00720/impl.shapes"], fn := fun _ => fun
  | [d, g1] => { results := [.lit (.bool false)], args := [d], vars := [g1] }
  | _ => none }
def FnOrderWrongFalsely : Prop := fnOrderRow.holds Tryz.pinned (OpenSpec.ofChange fnOrderWrong)

/-- 'laws.FnLocked': WHATEVER THE INPUT: true; the input reads as it did. -/
def fnLockedSpec : ChangeSpec := { name := "fnLocked", vars := ["loop.example/g00720/impl.shapes"], fn := fun _ => fun
  | [d, g1] => { results := [.lit (.bool true)], args := [d], vars := [g1] }
  | _ => none }
def fnLockedRow : OpenClaim := { program := "ytplnijpolkflcaagreatdoor", sum := "fff6ed7fcc505823a134aa7e7af2408596b83e2265f44f52aee0fd5109945c07", func := "loop.example/g00720/laws.FnLocked", spec := "fnLocked", unfollowed := true, recurses := true, named := ["loop.example/g00720/impl.shapes"], plainKeys := false, apart := false, laid := [("loop.example/g00720/impl.shapes", laid_loop_example_g00720_impl_shapes)] }
def FnLockedSaid : Prop := fnLockedRow.holds Tryz.pinned (OpenSpec.ofChange fnLockedSpec)

/-- ITS FALSE NEIGHBOUR: 'it returns false'. Refute it at one input. -/
def fnLockedWrong : ChangeSpec := { name := "fnLocked", vars := ["loop.example/g00720/impl.shapes"], fn := fun _ => fun
  | [d, g1] => { results := [.lit (.bool false)], args := [d], vars := [g1] }
  | _ => none }
def FnLockedWrongFalsely : Prop := fnLockedRow.holds Tryz.pinned (OpenSpec.ofChange fnLockedWrong)

/-- 'laws.FnAtOnce': WHATEVER THE INPUT: true; the input reads as it did. -/
def fnAtOnceSpec : ChangeSpec := { name := "fnAtOnce", vars := ["loop.example/g00720/impl.shapes"], fn := fun _ => fun
  | [d, g1] => { results := [.lit (.bool true)], args := [d], vars := [g1] }
  | _ => none }
def fnAtOnceRow : OpenClaim := { program := "ytplnijpolkflcaagreatdoor", sum := "fff6ed7fcc505823a134aa7e7af2408596b83e2265f44f52aee0fd5109945c07", func := "loop.example/g00720/laws.FnAtOnce", spec := "fnAtOnce", unfollowed := true, recurses := true, named := ["loop.example/g00720/impl.shapes", "math/bits.deBruijn64tab"], plainKeys := false, apart := false, laid := [("math/bits.deBruijn64tab", laid_math_bits_deBruijn64tab), ("loop.example/g00720/impl.shapes", laid_loop_example_g00720_impl_shapes)] }
def FnAtOnceSaid : Prop := fnAtOnceRow.holds Tryz.pinned (OpenSpec.ofChange fnAtOnceSpec)

/-- ITS FALSE NEIGHBOUR: 'it returns false'. Refute it at one input. -/
def fnAtOnceWrong : ChangeSpec := { name := "fnAtOnce", vars := ["loop.example/g00720/impl.shapes"], fn := fun _ => fun
  | [d, g1] => { results := [.lit (.bool false)], args := [d], vars := [g1] }
  | _ => none }
def FnAtOnceWrongFalsely : Prop := fnAtOnceRow.holds Tryz.pinned (OpenSpec.ofChange fnAtOnceWrong)

/-- 'laws.FnExactDone': WHATEVER THE INPUT: true; the input reads as it did. -/
def fnExactDoneSpec : ChangeSpec := { name := "fnExactDone", vars := ["loop.example/g00720/impl.shapes"], fn := fun _ => fun
  | [d1, d2, g1] => { results := [.lit (.bool true)], args := [d1, d2], vars := [g1] }
  | _ => none }
def fnExactDoneRow : OpenClaim := { program := "ytplnijpolkflcaagreatdoor", sum := "fff6ed7fcc505823a134aa7e7af2408596b83e2265f44f52aee0fd5109945c07", func := "loop.example/g00720/laws.FnExactDone", spec := "fnExactDone", unfollowed := true, recurses := true, named := ["loop.example/g00720/impl.shapes"], plainKeys := false, apart := false, laid := [("loop.example/g00720/impl.shapes", laid_loop_example_g00720_impl_shapes)] }
def FnExactDoneSaid : Prop := fnExactDoneRow.holds Tryz.pinned (OpenSpec.ofChange fnExactDoneSpec)

/-- ITS FALSE NEIGHBOUR: 'it returns false'. Refute it at one input. -/
def fnExactDoneWrong : ChangeSpec := { name := "fnExactDone", vars := ["loop.example/g00720/impl.shapes"], fn := fun _ => fun
  | [d1, d2, g1] => { results := [.lit (.bool false)], args := [d1, d2], vars := [g1] }
  | _ => none }
def FnExactDoneWrongFalsely : Prop := fnExactDoneRow.holds Tryz.pinned (OpenSpec.ofChange fnExactDoneWrong)

/-- 'laws.FnExactEdgesInto': WHATEVER THE INPUT: true; the input reads as it did. -/
def fnExactEdgesIntoSpec : ChangeSpec := { name := "fnExactEdgesInto", vars := ["loop.example/g00720/impl.shapes"], fn := fun _ => fun
  | [d1, d2, g1] => { results := [.lit (.bool true)], args := [d1, d2], vars := [g1] }
  | _ => none }
def fnExactEdgesIntoRow : OpenClaim := { program := "ytplnijpolkflcaagreatdoor", sum := "fff6ed7fcc505823a134aa7e7af2408596b83e2265f44f52aee0fd5109945c07", func := "loop.example/g00720/laws.FnExactEdgesInto", spec := "fnExactEdgesInto", unfollowed := true, recurses := true, named := ["loop.example/g00720/impl.shapes", "math/bits.deBruijn64tab"], plainKeys := false, apart := false, laid := [("math/bits.deBruijn64tab", laid_math_bits_deBruijn64tab), ("loop.example/g00720/impl.shapes", laid_loop_example_g00720_impl_shapes)] }
def FnExactEdgesIntoSaid : Prop := fnExactEdgesIntoRow.holds Tryz.pinned (OpenSpec.ofChange fnExactEdgesIntoSpec)

/-- ITS FALSE NEIGHBOUR: 'it returns false'. Refute it at one input. -/
def fnExactEdgesIntoWrong : ChangeSpec := { name := "fnExactEdgesInto", vars := ["loop.example/g00720/impl.shapes"], fn := fun _ => fun
  | [d1, d2, g1] => { results := [.lit (.bool false)], args := [d1, d2], vars := [g1] }
  | _ => none }
def FnExactEdgesIntoWrongFalsely : Prop := fnExactEdgesIntoRow.holds Tryz.pinned (OpenSpec.ofChange fnExactEdgesIntoWrong)

/-- 'laws.FnExactBeforesOf': WHATEVER THE INPUT: true; the input reads as it did. -/
def fnExactBeforesOfSpec : ChangeSpec := { name := "fnExactBeforesOf", vars := ["loop.example/g00720/impl.shapes"], fn := fun _ => fun
  | [d1, d2, g1] => { results := [.lit (.bool true)], args := [d1, d2], vars := [g1] }
  | _ => none }
def fnExactBeforesOfRow : OpenClaim := { program := "ytplnijpolkflcaagreatdoor", sum := "fff6ed7fcc505823a134aa7e7af2408596b83e2265f44f52aee0fd5109945c07", func := "loop.example/g00720/laws.FnExactBeforesOf", spec := "fnExactBeforesOf", unfollowed := true, recurses := true, named := ["loop.example/g00720/impl.shapes", "math/bits.deBruijn64tab"], plainKeys := false, apart := false, laid := [("math/bits.deBruijn64tab", laid_math_bits_deBruijn64tab), ("loop.example/g00720/impl.shapes", laid_loop_example_g00720_impl_shapes)] }
def FnExactBeforesOfSaid : Prop := fnExactBeforesOfRow.holds Tryz.pinned (OpenSpec.ofChange fnExactBeforesOfSpec)

/-- ITS FALSE NEIGHBOUR: 'it returns false'. Refute it at one input. -/
def fnExactBeforesOfWrong : ChangeSpec := { name := "fnExactBeforesOf", vars := ["loop.example/g00720/impl.shapes"], fn := fun _ => fun
  | [d1, d2, g1] => { results := [.lit (.bool false)], args := [d1, d2], vars := [g1] }
  | _ => none }
def FnExactBeforesOfWrongFalsely : Prop := fnExactBeforesOfRow.holds Tryz.pinned (OpenSpec.ofChange fnExactBeforesOfWrong)

/-- 'laws.FnExactOrdered': WHATEVER THE INPUT: true; the input reads as it did. -/
def fnExactOrderedSpec : ChangeSpec := { name := "fnExactOrdered", vars := ["loop.example/g00720/impl.shapes"], fn := fun _ => fun
  | [d1, d2, d3, g1] => { results := [.lit (.bool true)], args := [d1, d2, d3], vars := [g1] }
  | _ => none }
def fnExactOrderedRow : OpenClaim := { program := "ytplnijpolkflcaagreatdoor", sum := "fff6ed7fcc505823a134aa7e7af2408596b83e2265f44f52aee0fd5109945c07", func := "loop.example/g00720/laws.FnExactOrdered", spec := "fnExactOrdered", unfollowed := true, recurses := true, named := ["loop.example/g00720/impl.shapes"], plainKeys := false, apart := false, laid := [("loop.example/g00720/impl.shapes", laid_loop_example_g00720_impl_shapes)] }
def FnExactOrderedSaid : Prop := fnExactOrderedRow.holds Tryz.pinned (OpenSpec.ofChange fnExactOrderedSpec)

/-- ITS FALSE NEIGHBOUR: 'it returns false'. Refute it at one input. -/
def fnExactOrderedWrong : ChangeSpec := { name := "fnExactOrdered", vars := ["loop.example/g00720/impl.shapes"], fn := fun _ => fun
  | [d1, d2, d3, g1] => { results := [.lit (.bool false)], args := [d1, d2, d3], vars := [g1] }
  | _ => none }
def FnExactOrderedWrongFalsely : Prop := fnExactOrderedRow.holds Tryz.pinned (OpenSpec.ofChange fnExactOrderedWrong)

/-- 'laws.FnExactAtOnce': WHATEVER THE INPUT: true; the input reads as it did. -/
def fnExactAtOnceSpec : ChangeSpec := { name := "fnExactAtOnce", vars := ["loop.example/g00720/impl.shapes"], fn := fun _ => fun
  | [d, g1] => { results := [.lit (.bool true)], args := [d], vars := [g1] }
  | _ => none }
def fnExactAtOnceRow : OpenClaim := { program := "ytplnijpolkflcaagreatdoor", sum := "fff6ed7fcc505823a134aa7e7af2408596b83e2265f44f52aee0fd5109945c07", func := "loop.example/g00720/laws.FnExactAtOnce", spec := "fnExactAtOnce", unfollowed := true, recurses := true, named := ["loop.example/g00720/impl.shapes"], plainKeys := false, apart := false, laid := [("loop.example/g00720/impl.shapes", laid_loop_example_g00720_impl_shapes)] }
def FnExactAtOnceSaid : Prop := fnExactAtOnceRow.holds Tryz.pinned (OpenSpec.ofChange fnExactAtOnceSpec)

/-- ITS FALSE NEIGHBOUR: 'it returns false'. Refute it at one input. -/
def fnExactAtOnceWrong : ChangeSpec := { name := "fnExactAtOnce", vars := ["loop.example/g00720/impl.shapes"], fn := fun _ => fun
  | [d, g1] => { results := [.lit (.bool false)], args := [d], vars := [g1] }
  | _ => none }
def FnExactAtOnceWrongFalsely : Prop := fnExactAtOnceRow.holds Tryz.pinned (OpenSpec.ofChange fnExactAtOnceWrong)

/- THE SECOND FORM. 'bulk': how many values and letters a reading holds, each counted each time it is reached (what is shared counts as often as it is met; a slice's spare places count too). A statement '..UptoSaid' is the law's where the arguments, and the package variables that the reading takes, are together of bulk at most 1048576: NARROWER than '..Said'. Prove '..Said' where nothing that the law and all that it calls make is longer than what came in: it says more and counts as full. Else prove '..UptoSaid'. A law counts once. -/
mutual
def uptoBulk {H : Type} : DataW H → Nat
  | .lit (.string bytes) => bytes.length + 1
  | .lit _ => 1
  | .nil => 1
  | .ptr d => uptoBulk d + 1
  | .slice elems spare => uptoBulkAll elems + uptoBulkAll spare + 1
  | .agg parts => uptoBulkAll parts + 1
  | .iface _ d => uptoBulk d + 1
  | .map entries => uptoBulkEntries entries + 1
  | .held _ => 1
def uptoBulkAll {H : Type} : List (DataW H) → Nat
  | [] => 0
  | d :: r => uptoBulk d + uptoBulkAll r
def uptoBulkEntries {H : Type} : List (Lit × DataW H) → Nat
  | [] => 0
  | x :: r => uptoBulkEntry x + uptoBulkEntries r
def uptoBulkEntry {H : Type} : Lit × DataW H → Nat
  | (.string bytes, d) => bytes.length + uptoBulk d + 1
  | (_, d) => uptoBulk d + 1
 end
def uptoSmall : (H : Type) → List (DataW H) → Bool := fun _ ds => decide (uptoBulkAll ds ≤ 1048576)
def OpenSpec.upto (s : _root_.Go.ChangeSpec) : _root_.Go.OpenSpec := { _root_.Go.OpenSpec.ofChange s with cond := some uptoSmall }

/-- 'laws.FnScene', WHERE WHAT IT READS IS OF BULK AT MOST 1048576: true; the input reads as it did. -/
def fnSceneUptoRow : OpenClaim := { program := "ytplnijpolkflcaagreatdoor", sum := "fff6ed7fcc505823a134aa7e7af2408596b83e2265f44f52aee0fd5109945c07", func := "loop.example/g00720/laws.FnScene", spec := "fnScene", unfollowed := true, recurses := true, named := ["loop.example/g00720/impl.shapes"], plainKeys := false, apart := false, laid := [("loop.example/g00720/impl.shapes", laid_loop_example_g00720_impl_shapes)], narrowed := true }
def FnSceneUptoSaid : Prop := fnSceneUptoRow.holds Tryz.pinned (OpenSpec.upto fnSceneSpec)

/-- 'laws.FnOrder', WHERE WHAT IT READS IS OF BULK AT MOST 1048576: true; the input reads as it did. -/
def fnOrderUptoRow : OpenClaim := { program := "ytplnijpolkflcaagreatdoor", sum := "fff6ed7fcc505823a134aa7e7af2408596b83e2265f44f52aee0fd5109945c07", func := "loop.example/g00720/laws.FnOrder", spec := "fnOrder", unfollowed := true, recurses := true, named := ["loop.example/g00720/impl.shapes", "math/bits.deBruijn64tab"], plainKeys := false, apart := false, laid := [("math/bits.deBruijn64tab", laid_math_bits_deBruijn64tab), ("loop.example/g00720/impl.shapes", laid_loop_example_g00720_impl_shapes)], narrowed := true }
def FnOrderUptoSaid : Prop := fnOrderUptoRow.holds Tryz.pinned (OpenSpec.upto fnOrderSpec)

/-- 'laws.FnLocked', WHERE WHAT IT READS IS OF BULK AT MOST 1048576: true; the input reads as it did. -/
def fnLockedUptoRow : OpenClaim := { program := "ytplnijpolkflcaagreatdoor", sum := "fff6ed7fcc505823a134aa7e7af2408596b83e2265f44f52aee0fd5109945c07", func := "loop.example/g00720/laws.FnLocked", spec := "fnLocked", unfollowed := true, recurses := true, named := ["loop.example/g00720/impl.shapes"], plainKeys := false, apart := false, laid := [("loop.example/g00720/impl.shapes", laid_loop_example_g00720_impl_shapes)], narrowed := true }
def FnLockedUptoSaid : Prop := fnLockedUptoRow.holds Tryz.pinned (OpenSpec.upto fnLockedSpec)

/-- 'laws.FnAtOnce', WHERE WHAT IT READS IS OF BULK AT MOST 1048576: true; the input reads as it did. -/
def fnAtOnceUptoRow : OpenClaim := { program := "ytplnijpolkflcaagreatdoor", sum := "fff6ed7fcc505823a134aa7e7af2408596b83e2265f44f52aee0fd5109945c07", func := "loop.example/g00720/laws.FnAtOnce", spec := "fnAtOnce", unfollowed := true, recurses := true, named := ["loop.example/g00720/impl.shapes", "math/bits.deBruijn64tab"], plainKeys := false, apart := false, laid := [("math/bits.deBruijn64tab", laid_math_bits_deBruijn64tab), ("loop.example/g00720/impl.shapes", laid_loop_example_g00720_impl_shapes)], narrowed := true }
def FnAtOnceUptoSaid : Prop := fnAtOnceUptoRow.holds Tryz.pinned (OpenSpec.upto fnAtOnceSpec)

/-- 'laws.FnExactDone', WHERE WHAT IT READS IS OF BULK AT MOST 1048576: true; the input reads as it did. -/
def fnExactDoneUptoRow : OpenClaim := { program := "ytplnijpolkflcaagreatdoor", sum := "fff6ed7fcc505823a134aa7e7af2408596b83e2265f44f52aee0fd5109945c07", func := "loop.example/g00720/laws.FnExactDone", spec := "fnExactDone", unfollowed := true, recurses := true, named := ["loop.example/g00720/impl.shapes"], plainKeys := false, apart := false, laid := [("loop.example/g00720/impl.shapes", laid_loop_example_g00720_impl_shapes)], narrowed := true }
def FnExactDoneUptoSaid : Prop := fnExactDoneUptoRow.holds Tryz.pinned (OpenSpec.upto fnExactDoneSpec)

/-- 'laws.FnExactEdgesInto', WHERE WHAT IT READS IS OF BULK AT MOST 1048576: true; the input reads as it did. -/
def fnExactEdgesIntoUptoRow : OpenClaim := { program := "ytplnijpolkflcaagreatdoor", sum := "fff6ed7fcc505823a134aa7e7af2408596b83e2265f44f52aee0fd5109945c07", func := "loop.example/g00720/laws.FnExactEdgesInto", spec := "fnExactEdgesInto", unfollowed := true, recurses := true, named := ["loop.example/g00720/impl.shapes", "math/bits.deBruijn64tab"], plainKeys := false, apart := false, laid := [("math/bits.deBruijn64tab", laid_math_bits_deBruijn64tab), ("loop.example/g00720/impl.shapes", laid_loop_example_g00720_impl_shapes)], narrowed := true }
def FnExactEdgesIntoUptoSaid : Prop := fnExactEdgesIntoUptoRow.holds Tryz.pinned (OpenSpec.upto fnExactEdgesIntoSpec)

/-- 'laws.FnExactBeforesOf', WHERE WHAT IT READS IS OF BULK AT MOST 1048576: true; the input reads as it did. -/
def fnExactBeforesOfUptoRow : OpenClaim := { program := "ytplnijpolkflcaagreatdoor", sum := "fff6ed7fcc505823a134aa7e7af2408596b83e2265f44f52aee0fd5109945c07", func := "loop.example/g00720/laws.FnExactBeforesOf", spec := "fnExactBeforesOf", unfollowed := true, recurses := true, named := ["loop.example/g00720/impl.shapes", "math/bits.deBruijn64tab"], plainKeys := false, apart := false, laid := [("math/bits.deBruijn64tab", laid_math_bits_deBruijn64tab), ("loop.example/g00720/impl.shapes", laid_loop_example_g00720_impl_shapes)], narrowed := true }
def FnExactBeforesOfUptoSaid : Prop := fnExactBeforesOfUptoRow.holds Tryz.pinned (OpenSpec.upto fnExactBeforesOfSpec)

/-- 'laws.FnExactOrdered', WHERE WHAT IT READS IS OF BULK AT MOST 1048576: true; the input reads as it did. -/
def fnExactOrderedUptoRow : OpenClaim := { program := "ytplnijpolkflcaagreatdoor", sum := "fff6ed7fcc505823a134aa7e7af2408596b83e2265f44f52aee0fd5109945c07", func := "loop.example/g00720/laws.FnExactOrdered", spec := "fnExactOrdered", unfollowed := true, recurses := true, named := ["loop.example/g00720/impl.shapes"], plainKeys := false, apart := false, laid := [("loop.example/g00720/impl.shapes", laid_loop_example_g00720_impl_shapes)], narrowed := true }
def FnExactOrderedUptoSaid : Prop := fnExactOrderedUptoRow.holds Tryz.pinned (OpenSpec.upto fnExactOrderedSpec)

/-- 'laws.FnExactAtOnce', WHERE WHAT IT READS IS OF BULK AT MOST 1048576: true; the input reads as it did. -/
def fnExactAtOnceUptoRow : OpenClaim := { program := "ytplnijpolkflcaagreatdoor", sum := "fff6ed7fcc505823a134aa7e7af2408596b83e2265f44f52aee0fd5109945c07", func := "loop.example/g00720/laws.FnExactAtOnce", spec := "fnExactAtOnce", unfollowed := true, recurses := true, named := ["loop.example/g00720/impl.shapes"], plainKeys := false, apart := false, laid := [("loop.example/g00720/impl.shapes", laid_loop_example_g00720_impl_shapes)], narrowed := true }
def FnExactAtOnceUptoSaid : Prop := fnExactAtOnceUptoRow.holds Tryz.pinned (OpenSpec.upto fnExactAtOnceSpec)

end Rows
end Go.Proofs.YtplnijpolkflcaaGreatDoor
