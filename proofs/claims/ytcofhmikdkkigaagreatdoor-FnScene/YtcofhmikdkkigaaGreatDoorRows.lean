/-
  NARROWER THAN 'FOR EVERY INPUT', by the rows' own cells (each row's printed sentence says how): FnScene: laid · FnRaces: laid · FnShortThere: laid · FnExactBeforesOf: laid · FnExactIsRace: laid · FnExactRacesIn: laid · FnExactIsShort: laid · FnExactShortIn: laid.
  DERIVED. THE GIVEN ROWS OF THIS SEAT. 8 by the template 'for every input the law returns true; each argument reads behind the call as it read before'; 0 by the template 'total and deterministic' (their statements: YtcofhmikdkkigaaGreatDoorTotals.lean).
  GIVEN WITH THE SEED: the statements are not yours to turn. If you find one false, say at which input.
  Laid BY PROGRAM, IN A SANDBOX (cutbox-rows.mjs): the forced cells as the released guide's own fill.sh prints them over the translation 9851c8ab0c893a2a… (all of the seat's roots in one cut). By AI agents, Wed Nov 11 2026. No macro, syntax, notation, axiom, sorry.
-/
import Derived.Test.YtcofhmikdkkigaaGreatDoorChecked
import GoSem.Claim
import GoSem.ClaimJoined
import GoSem.ClaimMapViews
import Derived.JoinedTies
import Derived.KernelRfl
namespace Go.Proofs.YtcofhmikdkkigaaGreatDoor
/- THE CELL 'sum', in the pinned program and in every row, IS THE sha256 OF THE DUMP (.gsa) THAT YtcofhmikdkkigaaGreatDoorProg.lean LOADS. Nothing in Lean hashes anything: it is a label: what it is worth is what the hold of that sum in a sandbox is worth. -/
noncomputable def Tryz.pinned : Pinned := { name := "ytcofhmikdkkigaagreatdoor", sum := "9851c8ab0c893a2a69d1184ac5ebf949434f0c4accc35a5470b9f96fe9ab7b44", checked := Tryz.checked }
namespace Rows
def none {H : Type} : Left H := { results := [], args := [] }

/- WHAT THE LISTED PACKAGE-LEVEL VARIABLES READ AS WHEN THE CALL BEGINS. Each datum BY PROGRAM (the guide's laid-datum.mjs) off the statement by which the dump's own 'gosem.cut.vars' lays the variable. In a bare row this is a premise. The card (YtcofhmikdkkigaaGreatDoorCards.lean) ties it to the program's text. -/
def laid_loop_example_g00720_impl_shapes {H : Type} : DataW H := .agg [.agg [.lit (.int .i64 0), .lit (.int .i64 0), .lit (.int .i64 0)], .agg [.lit (.int .i64 1), .lit (.int .i64 0), .lit (.int .i64 0)], .agg [.lit (.int .i64 1), .lit (.int .i64 0), .lit (.int .i64 0)], .agg [.lit (.int .i64 1), .lit (.int .i64 0), .lit (.int .i64 0)], .agg [.lit (.int .i64 1), .lit (.int .i64 0), .lit (.int .i64 0)], .agg [.lit (.int .i64 1), .lit (.int .i64 0), .lit (.int .i64 0)], .agg [.lit (.int .i64 9), .lit (.int .i64 0), .lit (.int .i64 8)], .agg [.lit (.int .i64 1), .lit (.int .i64 0), .lit (.int .i64 0)], .agg [.lit (.int .i64 1), .lit (.int .i64 0), .lit (.int .i64 0)], .agg [.lit (.int .i64 3), .lit (.int .i64 0), .lit (.int .i64 0)], .agg [.lit (.int .i64 1), .lit (.int .i64 0), .lit (.int .i64 0)], .agg [.lit (.int .i64 1), .lit (.int .i64 0), .lit (.int .i64 0)], .agg [.lit (.int .i64 9), .lit (.int .i64 1), .lit (.int .i64 9)], .agg [.lit (.int .i64 1), .lit (.int .i64 0), .lit (.int .i64 0)], .agg [.lit (.int .i64 1), .lit (.int .i64 0), .lit (.int .i64 0)], .agg [.lit (.int .i64 1), .lit (.int .i64 0), .lit (.int .i64 0)], .agg [.lit (.int .i64 1), .lit (.int .i64 0), .lit (.int .i64 0)], .agg [.lit (.int .i64 1), .lit (.int .i64 0), .lit (.int .i64 0)], .agg [.lit (.int .i64 1), .lit (.int .i64 0), .lit (.int .i64 0)], .agg [.lit (.int .i64 1), .lit (.int .i64 0), .lit (.int .i64 0)], .agg [.lit (.int .i64 60), .lit (.int .i64 1), .lit (.int .i64 8)], .agg [.lit (.int .i64 60), .lit (.int .i64 1), .lit (.int .i64 8)], .agg [.lit (.int .i64 12), .lit (.int .i64 1), .lit (.int .i64 64)]]
def laid_math_bits_deBruijn64tab {H : Type} : DataW H := .agg [.lit (.int .u8 0), .lit (.int .u8 1), .lit (.int .u8 56), .lit (.int .u8 2), .lit (.int .u8 57), .lit (.int .u8 49), .lit (.int .u8 28), .lit (.int .u8 3), .lit (.int .u8 61), .lit (.int .u8 58), .lit (.int .u8 42), .lit (.int .u8 50), .lit (.int .u8 38), .lit (.int .u8 29), .lit (.int .u8 17), .lit (.int .u8 4), .lit (.int .u8 62), .lit (.int .u8 47), .lit (.int .u8 59), .lit (.int .u8 36), .lit (.int .u8 45), .lit (.int .u8 43), .lit (.int .u8 51), .lit (.int .u8 22), .lit (.int .u8 53), .lit (.int .u8 39), .lit (.int .u8 33), .lit (.int .u8 30), .lit (.int .u8 24), .lit (.int .u8 18), .lit (.int .u8 12), .lit (.int .u8 5), .lit (.int .u8 63), .lit (.int .u8 55), .lit (.int .u8 48), .lit (.int .u8 27), .lit (.int .u8 60), .lit (.int .u8 41), .lit (.int .u8 37), .lit (.int .u8 16), .lit (.int .u8 46), .lit (.int .u8 35), .lit (.int .u8 44), .lit (.int .u8 21), .lit (.int .u8 52), .lit (.int .u8 32), .lit (.int .u8 23), .lit (.int .u8 11), .lit (.int .u8 54), .lit (.int .u8 26), .lit (.int .u8 40), .lit (.int .u8 15), .lit (.int .u8 34), .lit (.int .u8 20), .lit (.int .u8 31), .lit (.int .u8 10), .lit (.int .u8 25), .lit (.int .u8 14), .lit (.int .u8 19), .lit (.int .u8 9), .lit (.int .u8 13), .lit (.int .u8 8), .lit (.int .u8 7), .lit (.int .u8 6)]

/-- 'laws.FnScene': WHATEVER THE INPUT: true; the input reads as it did. -/
def fnSceneSpec : ChangeSpec := { name := "fnScene", vars := ["loop.example/g00720/impl.shapes"], fn := fun _ => fun
  | [d, g1] => { results := [.lit (.bool true)], args := [d], vars := [g1] }
  | _ => none }
def fnSceneRow : OpenClaim := { program := "ytcofhmikdkkigaagreatdoor", sum := "9851c8ab0c893a2a69d1184ac5ebf949434f0c4accc35a5470b9f96fe9ab7b44", func := "loop.example/g00720/laws.FnScene", spec := "fnScene", unfollowed := true, recurses := true, named := ["loop.example/g00720/impl.shapes"], plainKeys := false, apart := false, laid := [("loop.example/g00720/impl.shapes", laid_loop_example_g00720_impl_shapes)] }
def FnSceneSaid : Prop := fnSceneRow.holds Tryz.pinned (OpenSpec.ofChange fnSceneSpec)

/-- ITS FALSE NEIGHBOUR: 'it returns false'. Refute it at one input. -/
def fnSceneWrong : ChangeSpec := { name := "fnScene", vars := ["loop.example/g00720/impl.shapes"], fn := fun _ => fun
  | [d, g1] => { results := [.lit (.bool false)], args := [d], vars := [g1] }
  | _ => none }
def FnSceneWrongFalsely : Prop := fnSceneRow.holds Tryz.pinned (OpenSpec.ofChange fnSceneWrong)

/-- 'laws.FnRaces': WHATEVER THE INPUT: true; the input reads as it did. -/
def fnRacesSpec : ChangeSpec := { name := "fnRaces", vars := ["loop.example/g00720/impl.shapes"], fn := fun _ => fun
  | [d, g1] => { results := [.lit (.bool true)], args := [d], vars := [g1] }
  | _ => none }
def fnRacesRow : OpenClaim := { program := "ytcofhmikdkkigaagreatdoor", sum := "9851c8ab0c893a2a69d1184ac5ebf949434f0c4accc35a5470b9f96fe9ab7b44", func := "loop.example/g00720/laws.FnRaces", spec := "fnRaces", unfollowed := true, recurses := true, named := ["loop.example/g00720/impl.shapes"], plainKeys := false, apart := false, laid := [("loop.example/g00720/impl.shapes", laid_loop_example_g00720_impl_shapes)] }
def FnRacesSaid : Prop := fnRacesRow.holds Tryz.pinned (OpenSpec.ofChange fnRacesSpec)

/-- ITS FALSE NEIGHBOUR: 'it returns false'. Refute it at one input. -/
def fnRacesWrong : ChangeSpec := { name := "fnRaces", vars := ["loop.example/g00720/impl.shapes"], fn := fun _ => fun
  | [d, g1] => { results := [.lit (.bool false)], args := [d], vars := [g1] }
  | _ => none }
def FnRacesWrongFalsely : Prop := fnRacesRow.holds Tryz.pinned (OpenSpec.ofChange fnRacesWrong)

/-- 'laws.FnShortThere': WHATEVER THE INPUT: true; the input reads as it did. -/
def fnShortThereSpec : ChangeSpec := { name := "fnShortThere", vars := ["loop.example/g00720/impl.shapes"], fn := fun _ => fun
  | [d, g1] => { results := [.lit (.bool true)], args := [d], vars := [g1] }
  | _ => none }
def fnShortThereRow : OpenClaim := { program := "ytcofhmikdkkigaagreatdoor", sum := "9851c8ab0c893a2a69d1184ac5ebf949434f0c4accc35a5470b9f96fe9ab7b44", func := "loop.example/g00720/laws.FnShortThere", spec := "fnShortThere", unfollowed := true, recurses := true, named := ["loop.example/g00720/impl.shapes"], plainKeys := false, apart := false, laid := [("loop.example/g00720/impl.shapes", laid_loop_example_g00720_impl_shapes)] }
def FnShortThereSaid : Prop := fnShortThereRow.holds Tryz.pinned (OpenSpec.ofChange fnShortThereSpec)

/-- ITS FALSE NEIGHBOUR: 'it returns false'. Refute it at one input. -/
def fnShortThereWrong : ChangeSpec := { name := "fnShortThere", vars := ["loop.example/g00720/impl.shapes"], fn := fun _ => fun
  | [d, g1] => { results := [.lit (.bool false)], args := [d], vars := [g1] }
  | _ => none }
def FnShortThereWrongFalsely : Prop := fnShortThereRow.holds Tryz.pinned (OpenSpec.ofChange fnShortThereWrong)

/-- 'laws.FnExactBeforesOf': WHATEVER THE INPUT: true; the input reads as it did. -/
def fnExactBeforesOfSpec : ChangeSpec := { name := "fnExactBeforesOf", vars := ["loop.example/g00720/impl.shapes"], fn := fun _ => fun
  | [d1, d2, g1] => { results := [.lit (.bool true)], args := [d1, d2], vars := [g1] }
  | _ => none }
def fnExactBeforesOfRow : OpenClaim := { program := "ytcofhmikdkkigaagreatdoor", sum := "9851c8ab0c893a2a69d1184ac5ebf949434f0c4accc35a5470b9f96fe9ab7b44", func := "loop.example/g00720/laws.FnExactBeforesOf", spec := "fnExactBeforesOf", unfollowed := true, recurses := true, named := ["loop.example/g00720/impl.shapes", "math/bits.deBruijn64tab"], plainKeys := false, apart := false, laid := [("math/bits.deBruijn64tab", laid_math_bits_deBruijn64tab), ("loop.example/g00720/impl.shapes", laid_loop_example_g00720_impl_shapes)] }
def FnExactBeforesOfSaid : Prop := fnExactBeforesOfRow.holds Tryz.pinned (OpenSpec.ofChange fnExactBeforesOfSpec)

/-- ITS FALSE NEIGHBOUR: 'it returns false'. Refute it at one input. -/
def fnExactBeforesOfWrong : ChangeSpec := { name := "fnExactBeforesOf", vars := ["loop.example/g00720/impl.shapes"], fn := fun _ => fun
  | [d1, d2, g1] => { results := [.lit (.bool false)], args := [d1, d2], vars := [g1] }
  | _ => none }
def FnExactBeforesOfWrongFalsely : Prop := fnExactBeforesOfRow.holds Tryz.pinned (OpenSpec.ofChange fnExactBeforesOfWrong)

/-- 'laws.FnExactIsRace': WHATEVER THE INPUT: true; the input reads as it did. -/
def fnExactIsRaceSpec : ChangeSpec := { name := "fnExactIsRace", vars := ["loop.example/g00720/impl.shapes"], fn := fun _ => fun
  | [d1, d2, d3, g1] => { results := [.lit (.bool true)], args := [d1, d2, d3], vars := [g1] }
  | _ => none }
def fnExactIsRaceRow : OpenClaim := { program := "ytcofhmikdkkigaagreatdoor", sum := "9851c8ab0c893a2a69d1184ac5ebf949434f0c4accc35a5470b9f96fe9ab7b44", func := "loop.example/g00720/laws.FnExactIsRace", spec := "fnExactIsRace", unfollowed := true, recurses := true, named := ["loop.example/g00720/impl.shapes"], plainKeys := false, apart := false, laid := [("loop.example/g00720/impl.shapes", laid_loop_example_g00720_impl_shapes)] }
def FnExactIsRaceSaid : Prop := fnExactIsRaceRow.holds Tryz.pinned (OpenSpec.ofChange fnExactIsRaceSpec)

/-- ITS FALSE NEIGHBOUR: 'it returns false'. Refute it at one input. -/
def fnExactIsRaceWrong : ChangeSpec := { name := "fnExactIsRace", vars := ["loop.example/g00720/impl.shapes"], fn := fun _ => fun
  | [d1, d2, d3, g1] => { results := [.lit (.bool false)], args := [d1, d2, d3], vars := [g1] }
  | _ => none }
def FnExactIsRaceWrongFalsely : Prop := fnExactIsRaceRow.holds Tryz.pinned (OpenSpec.ofChange fnExactIsRaceWrong)

/-- 'laws.FnExactRacesIn': WHATEVER THE INPUT: true; the input reads as it did. -/
def fnExactRacesInSpec : ChangeSpec := { name := "fnExactRacesIn", vars := ["loop.example/g00720/impl.shapes"], fn := fun _ => fun
  | [d, g1] => { results := [.lit (.bool true)], args := [d], vars := [g1] }
  | _ => none }
def fnExactRacesInRow : OpenClaim := { program := "ytcofhmikdkkigaagreatdoor", sum := "9851c8ab0c893a2a69d1184ac5ebf949434f0c4accc35a5470b9f96fe9ab7b44", func := "loop.example/g00720/laws.FnExactRacesIn", spec := "fnExactRacesIn", unfollowed := true, recurses := true, named := ["loop.example/g00720/impl.shapes"], plainKeys := false, apart := false, laid := [("loop.example/g00720/impl.shapes", laid_loop_example_g00720_impl_shapes)] }
def FnExactRacesInSaid : Prop := fnExactRacesInRow.holds Tryz.pinned (OpenSpec.ofChange fnExactRacesInSpec)

/-- ITS FALSE NEIGHBOUR: 'it returns false'. Refute it at one input. -/
def fnExactRacesInWrong : ChangeSpec := { name := "fnExactRacesIn", vars := ["loop.example/g00720/impl.shapes"], fn := fun _ => fun
  | [d, g1] => { results := [.lit (.bool false)], args := [d], vars := [g1] }
  | _ => none }
def FnExactRacesInWrongFalsely : Prop := fnExactRacesInRow.holds Tryz.pinned (OpenSpec.ofChange fnExactRacesInWrong)

/-- 'laws.FnExactIsShort': WHATEVER THE INPUT: true; the input reads as it did. -/
def fnExactIsShortSpec : ChangeSpec := { name := "fnExactIsShort", vars := ["loop.example/g00720/impl.shapes"], fn := fun _ => fun
  | [d1, d2, d3, d4, g1] => { results := [.lit (.bool true)], args := [d1, d2, d3, d4], vars := [g1] }
  | _ => none }
def fnExactIsShortRow : OpenClaim := { program := "ytcofhmikdkkigaagreatdoor", sum := "9851c8ab0c893a2a69d1184ac5ebf949434f0c4accc35a5470b9f96fe9ab7b44", func := "loop.example/g00720/laws.FnExactIsShort", spec := "fnExactIsShort", unfollowed := true, recurses := true, named := ["loop.example/g00720/impl.shapes"], plainKeys := false, apart := false, laid := [("loop.example/g00720/impl.shapes", laid_loop_example_g00720_impl_shapes)] }
def FnExactIsShortSaid : Prop := fnExactIsShortRow.holds Tryz.pinned (OpenSpec.ofChange fnExactIsShortSpec)

/-- ITS FALSE NEIGHBOUR: 'it returns false'. Refute it at one input. -/
def fnExactIsShortWrong : ChangeSpec := { name := "fnExactIsShort", vars := ["loop.example/g00720/impl.shapes"], fn := fun _ => fun
  | [d1, d2, d3, d4, g1] => { results := [.lit (.bool false)], args := [d1, d2, d3, d4], vars := [g1] }
  | _ => none }
def FnExactIsShortWrongFalsely : Prop := fnExactIsShortRow.holds Tryz.pinned (OpenSpec.ofChange fnExactIsShortWrong)

/-- 'laws.FnExactShortIn': WHATEVER THE INPUT: true; the input reads as it did. -/
def fnExactShortInSpec : ChangeSpec := { name := "fnExactShortIn", vars := ["loop.example/g00720/impl.shapes"], fn := fun _ => fun
  | [d1, d2, g1] => { results := [.lit (.bool true)], args := [d1, d2], vars := [g1] }
  | _ => none }
def fnExactShortInRow : OpenClaim := { program := "ytcofhmikdkkigaagreatdoor", sum := "9851c8ab0c893a2a69d1184ac5ebf949434f0c4accc35a5470b9f96fe9ab7b44", func := "loop.example/g00720/laws.FnExactShortIn", spec := "fnExactShortIn", unfollowed := true, recurses := true, named := ["loop.example/g00720/impl.shapes"], plainKeys := false, apart := false, laid := [("loop.example/g00720/impl.shapes", laid_loop_example_g00720_impl_shapes)] }
def FnExactShortInSaid : Prop := fnExactShortInRow.holds Tryz.pinned (OpenSpec.ofChange fnExactShortInSpec)

/-- ITS FALSE NEIGHBOUR: 'it returns false'. Refute it at one input. -/
def fnExactShortInWrong : ChangeSpec := { name := "fnExactShortIn", vars := ["loop.example/g00720/impl.shapes"], fn := fun _ => fun
  | [d1, d2, g1] => { results := [.lit (.bool false)], args := [d1, d2], vars := [g1] }
  | _ => none }
def FnExactShortInWrongFalsely : Prop := fnExactShortInRow.holds Tryz.pinned (OpenSpec.ofChange fnExactShortInWrong)

/- THE SECOND FORM. 'bulk': how many values and letters a reading holds, each counted each time it is reached (what is shared counts as often as it is met; a slice's spare places count too). A statement '..UptoSaid' is the law's where the arguments, and the package variables that the reading takes, are together of bulk at most 1048576: NARROWER than '..Said'. Prove '..Said' where nothing that the law and all that it calls make is longer than what came in: it says more and counts as full. Else prove '..UptoSaid'. A law counts once. -/
mutual
def uptoBulk {H : Type} : DataW H → Nat
  | .lit (.string bytes) => bytes.length + 1
  | .lit _ => 1
  | .nil => 1
  | .ptr d => uptoBulk d + 1
  | .slice elems spare => uptoBulkAll elems + uptoBulkAll spare + 1
  | .agg parts => uptoBulkAll parts + 1
  | .iface _ d => uptoBulk d + 1
  | .map entries => uptoBulkEntries entries + 1
  | .held _ => 1
def uptoBulkAll {H : Type} : List (DataW H) → Nat
  | [] => 0
  | d :: r => uptoBulk d + uptoBulkAll r
def uptoBulkEntries {H : Type} : List (Lit × DataW H) → Nat
  | [] => 0
  | x :: r => uptoBulkEntry x + uptoBulkEntries r
def uptoBulkEntry {H : Type} : Lit × DataW H → Nat
  | (.string bytes, d) => bytes.length + uptoBulk d + 1
  | (_, d) => uptoBulk d + 1
 end
def uptoSmall : (H : Type) → List (DataW H) → Bool := fun _ ds => decide (uptoBulkAll ds ≤ 1048576)
def OpenSpec.upto (s : _root_.Go.ChangeSpec) : _root_.Go.OpenSpec := { _root_.Go.OpenSpec.ofChange s with cond := some uptoSmall }

/-- 'laws.FnScene', WHERE WHAT IT READS IS OF BULK AT MOST 1048576: true; the input reads as it did. -/
def fnSceneUptoRow : OpenClaim := { program := "ytcofhmikdkkigaagreatdoor", sum := "9851c8ab0c893a2a69d1184ac5ebf949434f0c4accc35a5470b9f96fe9ab7b44", func := "loop.example/g00720/laws.FnScene", spec := "fnScene", unfollowed := true, recurses := true, named := ["loop.example/g00720/impl.shapes"], plainKeys := false, apart := false, laid := [("loop.example/g00720/impl.shapes", laid_loop_example_g00720_impl_shapes)], narrowed := true }
def FnSceneUptoSaid : Prop := fnSceneUptoRow.holds Tryz.pinned (OpenSpec.upto fnSceneSpec)

/-- 'laws.FnRaces', WHERE WHAT IT READS IS OF BULK AT MOST 1048576: true; the input reads as it did. -/
def fnRacesUptoRow : OpenClaim := { program := "ytcofhmikdkkigaagreatdoor", sum := "9851c8ab0c893a2a69d1184ac5ebf949434f0c4accc35a5470b9f96fe9ab7b44", func := "loop.example/g00720/laws.FnRaces", spec := "fnRaces", unfollowed := true, recurses := true, named := ["loop.example/g00720/impl.shapes"], plainKeys := false, apart := false, laid := [("loop.example/g00720/impl.shapes", laid_loop_example_g00720_impl_shapes)], narrowed := true }
def FnRacesUptoSaid : Prop := fnRacesUptoRow.holds Tryz.pinned (OpenSpec.upto fnRacesSpec)

/-- 'laws.FnShortThere', WHERE WHAT IT READS IS OF BULK AT MOST 1048576: true; the input reads as it did. -/
def fnShortThereUptoRow : OpenClaim := { program := "ytcofhmikdkkigaagreatdoor", sum := "9851c8ab0c893a2a69d1184ac5ebf949434f0c4accc35a5470b9f96fe9ab7b44", func := "loop.example/g00720/laws.FnShortThere", spec := "fnShortThere", unfollowed := true, recurses := true, named := ["loop.example/g00720/impl.shapes"], plainKeys := false, apart := false, laid := [("loop.example/g00720/impl.shapes", laid_loop_example_g00720_impl_shapes)], narrowed := true }
def FnShortThereUptoSaid : Prop := fnShortThereUptoRow.holds Tryz.pinned (OpenSpec.upto fnShortThereSpec)

/-- 'laws.FnExactBeforesOf', WHERE WHAT IT READS IS OF BULK AT MOST 1048576: true; the input reads as it did. -/
def fnExactBeforesOfUptoRow : OpenClaim := { program := "ytcofhmikdkkigaagreatdoor", sum := "9851c8ab0c893a2a69d1184ac5ebf949434f0c4accc35a5470b9f96fe9ab7b44", func := "loop.example/g00720/laws.FnExactBeforesOf", spec := "fnExactBeforesOf", unfollowed := true, recurses := true, named := ["loop.example/g00720/impl.shapes", "math/bits.deBruijn64tab"], plainKeys := false, apart := false, laid := [("math/bits.deBruijn64tab", laid_math_bits_deBruijn64tab), ("loop.example/g00720/impl.shapes", laid_loop_example_g00720_impl_shapes)], narrowed := true }
def FnExactBeforesOfUptoSaid : Prop := fnExactBeforesOfUptoRow.holds Tryz.pinned (OpenSpec.upto fnExactBeforesOfSpec)

/-- 'laws.FnExactIsRace', WHERE WHAT IT READS IS OF BULK AT MOST 1048576: true; the input reads as it did. -/
def fnExactIsRaceUptoRow : OpenClaim := { program := "ytcofhmikdkkigaagreatdoor", sum := "9851c8ab0c893a2a69d1184ac5ebf949434f0c4accc35a5470b9f96fe9ab7b44", func := "loop.example/g00720/laws.FnExactIsRace", spec := "fnExactIsRace", unfollowed := true, recurses := true, named := ["loop.example/g00720/impl.shapes"], plainKeys := false, apart := false, laid := [("loop.example/g00720/impl.shapes", laid_loop_example_g00720_impl_shapes)], narrowed := true }
def FnExactIsRaceUptoSaid : Prop := fnExactIsRaceUptoRow.holds Tryz.pinned (OpenSpec.upto fnExactIsRaceSpec)

/-- 'laws.FnExactRacesIn', WHERE WHAT IT READS IS OF BULK AT MOST 1048576: true; the input reads as it did. -/
def fnExactRacesInUptoRow : OpenClaim := { program := "ytcofhmikdkkigaagreatdoor", sum := "9851c8ab0c893a2a69d1184ac5ebf949434f0c4accc35a5470b9f96fe9ab7b44", func := "loop.example/g00720/laws.FnExactRacesIn", spec := "fnExactRacesIn", unfollowed := true, recurses := true, named := ["loop.example/g00720/impl.shapes"], plainKeys := false, apart := false, laid := [("loop.example/g00720/impl.shapes", laid_loop_example_g00720_impl_shapes)], narrowed := true }
def FnExactRacesInUptoSaid : Prop := fnExactRacesInUptoRow.holds Tryz.pinned (OpenSpec.upto fnExactRacesInSpec)

/-- 'laws.FnExactIsShort', WHERE WHAT IT READS IS OF BULK AT MOST 1048576: true; the input reads as it did. -/
def fnExactIsShortUptoRow : OpenClaim := { program := "ytcofhmikdkkigaagreatdoor", sum := "9851c8ab0c893a2a69d1184ac5ebf949434f0c4accc35a5470b9f96fe9ab7b44", func := "loop.example/g00720/laws.FnExactIsShort", spec := "fnExactIsShort", unfollowed := true, recurses := true, named := ["loop.example/g00720/impl.shapes"], plainKeys := false, apart := false, laid := [("loop.example/g00720/impl.shapes", laid_loop_example_g00720_impl_shapes)], narrowed := true }
def FnExactIsShortUptoSaid : Prop := fnExactIsShortUptoRow.holds Tryz.pinned (OpenSpec.upto fnExactIsShortSpec)

/-- 'laws.FnExactShortIn', WHERE WHAT IT READS IS OF BULK AT MOST 1048576: true; the input reads as it did. -/
def fnExactShortInUptoRow : OpenClaim := { program := "ytcofhmikdkkigaagreatdoor", sum := "9851c8ab0c893a2a69d1184ac5ebf949434f0c4accc35a5470b9f96fe9ab7b44", func := "loop.example/g00720/laws.FnExactShortIn", spec := "fnExactShortIn", unfollowed := true, recurses := true, named := ["loop.example/g00720/impl.shapes"], plainKeys := false, apart := false, laid := [("loop.example/g00720/impl.shapes", laid_loop_example_g00720_impl_shapes)], narrowed := true }
def FnExactShortInUptoSaid : Prop := fnExactShortInUptoRow.holds Tryz.pinned (OpenSpec.upto fnExactShortInSpec)

end Rows
end Go.Proofs.YtcofhmikdkkigaaGreatDoor
