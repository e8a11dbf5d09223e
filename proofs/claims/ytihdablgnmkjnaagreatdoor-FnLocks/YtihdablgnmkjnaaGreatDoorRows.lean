/-
  NARROWER THAN 'FOR EVERY INPUT', by the rows' own cells (each row's printed sentence says how): FnScene: laid · FnLocks: laid · FnTouches: laid · FnExactDone: laid · FnExactTouchesOf: laid.
  DERIVED. THE GIVEN ROWS OF THIS SEAT. 5 by the template 'for every input the law returns true; each argument reads behind the call as it read before'; 0 by the template 'total and deterministic' (their statements: YtihdablgnmkjnaaGreatDoorTotals.lean).
  GIVEN WITH THE SEED: the statements are not yours to turn. If you find one false, say at which input.
  Laid BY PROGRAM, IN A SANDBOX (cutbox-rows.mjs): the forced cells as the released guide's own fill.sh prints them over the translation 3e4578f540527eba… (all of the seat's roots in one cut). By AI agents, Wed Nov 11 2026. No macro, syntax, notation, axiom, sorry.
-/
import Derived.Test.YtihdablgnmkjnaaGreatDoorChecked
import GoSem.Claim
import GoSem.ClaimJoined
import GoSem.ClaimMapViews
import Derived.JoinedTies
import Derived.KernelRfl
namespace Go.Proofs.YtihdablgnmkjnaaGreatDoor
/- THE CELL 'sum', in the pinned program and in every row, IS THE sha256 OF THE DUMP (.gsa) THAT YtihdablgnmkjnaaGreatDoorProg.lean LOADS. Nothing in Lean hashes anything: it is a label: what it is worth is what the hold of that sum in a sandbox is worth. -/
noncomputable def Tryz.pinned : Pinned := { name := "ytihdablgnmkjnaagreatdoor", sum := "3e4578f540527eba511f65ae016b3beb76e9ebe82808025870ab75e4350b3bcb", checked := Tryz.checked }
namespace Rows
def none {H : Type} : Left H := { results := [], args := [] }

/- WHAT THE LISTED PACKAGE-LEVEL VARIABLES READ AS WHEN THE CALL BEGINS. Each datum BY PROGRAM (the guide's laid-datum.mjs) off the statement by which the dump's own 'gosem.cut.vars' lays the variable. In a bare row this is a premise. The card (YtihdablgnmkjnaaGreatDoorCards.lean) ties it to the program's text. -/
def laid_loop_example_g00720_impl_shapes {H : Type} : DataW H := .agg [.agg [.lit (.int .i64 0), .lit (.int .i64 0), .lit (.int .i64 0)], .agg [.lit (.int .i64 1), .lit (.int .i64 0), .lit (.int .i64 0)], .agg [.lit (.int .i64 1), .lit (.int .i64 0), .lit (.int .i64 0)], .agg [.lit (.int .i64 1), .lit (.int .i64 0), .lit (.int .i64 0)], .agg [.lit (.int .i64 1), .lit (.int .i64 0), .lit (.int .i64 0)], .agg [.lit (.int .i64 1), .lit (.int .i64 0), .lit (.int .i64 0)], .agg [.lit (.int .i64 9), .lit (.int .i64 0), .lit (.int .i64 8)], .agg [.lit (.int .i64 1), .lit (.int .i64 0), .lit (.int .i64 0)], .agg [.lit (.int .i64 1), .lit (.int .i64 0), .lit (.int .i64 0)], .agg [.lit (.int .i64 3), .lit (.int .i64 0), .lit (.int .i64 0)], .agg [.lit (.int .i64 1), .lit (.int .i64 0), .lit (.int .i64 0)], .agg [.lit (.int .i64 1), .lit (.int .i64 0), .lit (.int .i64 0)], .agg [.lit (.int .i64 9), .lit (.int .i64 1), .lit (.int .i64 9)], .agg [.lit (.int .i64 1), .lit (.int .i64 0), .lit (.int .i64 0)], .agg [.lit (.int .i64 1), .lit (.int .i64 0), .lit (.int .i64 0)], .agg [.lit (.int .i64 1), .lit (.int .i64 0), .lit (.int .i64 0)], .agg [.lit (.int .i64 1), .lit (.int .i64 0), .lit (.int .i64 0)], .agg [.lit (.int .i64 1), .lit (.int .i64 0), .lit (.int .i64 0)], .agg [.lit (.int .i64 1), .lit (.int .i64 0), .lit (.int .i64 0)], .agg [.lit (.int .i64 1), .lit (.int .i64 0), .lit (.int .i64 0)], .agg [.lit (.int .i64 60), .lit (.int .i64 1), .lit (.int .i64 8)], .agg [.lit (.int .i64 60), .lit (.int .i64 1), .lit (.int .i64 8)], .agg [.lit (.int .i64 12), .lit (.int .i64 1), .lit (.int .i64 64)]]

/-- 'laws.FnScene': WHATEVER THE INPUT: true; the input reads as it did. -/
def fnSceneSpec : ChangeSpec := { name := "fnScene", vars := ["loop.example/g00720/impl.shapes"], fn := fun _ => fun
  | [d, g1] => { results := [.lit (.bool true)], args := [d], vars := [g1] }
  | _ => none }
def fnSceneRow : OpenClaim := { program := "ytihdablgnmkjnaagreatdoor", sum := "3e4578f540527eba511f65ae016b3beb76e9ebe82808025870ab75e4350b3bcb", func := "loop.example/g00720/laws.FnScene", spec := "fnScene", unfollowed := true, recurses := true, named := ["loop.example/g00720/impl.shapes"], apart := false, laid := [("loop.example/g00720/impl.shapes", laid_loop_example_g00720_impl_shapes)] }
def FnSceneSaid : Prop := fnSceneRow.holds Tryz.pinned (OpenSpec.ofChange fnSceneSpec)

/-- ITS FALSE NEIGHBOUR: 'it returns false'. Refute it at one input. -/
def fnSceneWrong : ChangeSpec := { name := "fnScene", vars := ["loop.example/g00720/impl.shapes"], fn := fun _ => fun
  | [d, g1] => { results := [.lit (.bool false)], args := [d], vars := [g1] }
  | _ => none }
def FnSceneWrongFalsely : Prop := fnSceneRow.holds Tryz.pinned (OpenSpec.ofChange fnSceneWrong)

/-- 'laws.FnLocks': WHATEVER THE INPUT: true; the input reads as it did. -/
def fnLocksSpec : ChangeSpec := { name := "fnLocks", vars := ["loop.example/g00720/impl.shapes"], fn := fun _ => fun
  | [d, g1] => { results := [.lit (.bool true)], args := [d], vars := [g1] }
  | _ => none }
def fnLocksRow : OpenClaim := { program := "ytihdablgnmkjnaagreatdoor", sum := "3e4578f540527eba511f65ae016b3beb76e9ebe82808025870ab75e4350b3bcb", func := "loop.example/g00720/laws.FnLocks", spec := "fnLocks", unfollowed := true, recurses := true, named := ["loop.example/g00720/impl.shapes"], apart := false, laid := [("loop.example/g00720/impl.shapes", laid_loop_example_g00720_impl_shapes)] }
def FnLocksSaid : Prop := fnLocksRow.holds Tryz.pinned (OpenSpec.ofChange fnLocksSpec)

/-- ITS FALSE NEIGHBOUR: 'it returns false'. Refute it at one input. -/
def fnLocksWrong : ChangeSpec := { name := "fnLocks", vars := ["loop.example/g00720/impl.shapes"], fn := fun _ => fun
  | [d, g1] => { results := [.lit (.bool false)], args := [d], vars := [g1] }
  | _ => none }
def FnLocksWrongFalsely : Prop := fnLocksRow.holds Tryz.pinned (OpenSpec.ofChange fnLocksWrong)

/-- 'laws.FnTouches': WHATEVER THE INPUT: true; the input reads as it did. -/
def fnTouchesSpec : ChangeSpec := { name := "fnTouches", vars := ["loop.example/g00720/impl.shapes"], fn := fun _ => fun
  | [d, g1] => { results := [.lit (.bool true)], args := [d], vars := [g1] }
  | _ => none }
def fnTouchesRow : OpenClaim := { program := "ytihdablgnmkjnaagreatdoor", sum := "3e4578f540527eba511f65ae016b3beb76e9ebe82808025870ab75e4350b3bcb", func := "loop.example/g00720/laws.FnTouches", spec := "fnTouches", unfollowed := true, recurses := true, named := ["loop.example/g00720/impl.shapes"], apart := false, laid := [("loop.example/g00720/impl.shapes", laid_loop_example_g00720_impl_shapes)] }
def FnTouchesSaid : Prop := fnTouchesRow.holds Tryz.pinned (OpenSpec.ofChange fnTouchesSpec)

/-- ITS FALSE NEIGHBOUR: 'it returns false'. Refute it at one input. -/
def fnTouchesWrong : ChangeSpec := { name := "fnTouches", vars := ["loop.example/g00720/impl.shapes"], fn := fun _ => fun
  | [d, g1] => { results := [.lit (.bool false)], args := [d], vars := [g1] }
  | _ => none }
def FnTouchesWrongFalsely : Prop := fnTouchesRow.holds Tryz.pinned (OpenSpec.ofChange fnTouchesWrong)

/-- 'laws.FnExactDone': WHATEVER THE INPUT: true; the input reads as it did. -/
def fnExactDoneSpec : ChangeSpec := { name := "fnExactDone", vars := ["loop.example/g00720/impl.shapes"], fn := fun _ => fun
  | [d1, d2, g1] => { results := [.lit (.bool true)], args := [d1, d2], vars := [g1] }
  | _ => none }
def fnExactDoneRow : OpenClaim := { program := "ytihdablgnmkjnaagreatdoor", sum := "3e4578f540527eba511f65ae016b3beb76e9ebe82808025870ab75e4350b3bcb", func := "loop.example/g00720/laws.FnExactDone", spec := "fnExactDone", unfollowed := true, recurses := true, named := ["loop.example/g00720/impl.shapes"], apart := false, laid := [("loop.example/g00720/impl.shapes", laid_loop_example_g00720_impl_shapes)] }
def FnExactDoneSaid : Prop := fnExactDoneRow.holds Tryz.pinned (OpenSpec.ofChange fnExactDoneSpec)

/-- ITS FALSE NEIGHBOUR: 'it returns false'. Refute it at one input. -/
def fnExactDoneWrong : ChangeSpec := { name := "fnExactDone", vars := ["loop.example/g00720/impl.shapes"], fn := fun _ => fun
  | [d1, d2, g1] => { results := [.lit (.bool false)], args := [d1, d2], vars := [g1] }
  | _ => none }
def FnExactDoneWrongFalsely : Prop := fnExactDoneRow.holds Tryz.pinned (OpenSpec.ofChange fnExactDoneWrong)

/-- 'laws.FnExactTouchesOf': WHATEVER THE INPUT: true; the input reads as it did. -/
def fnExactTouchesOfSpec : ChangeSpec := { name := "fnExactTouchesOf", vars := ["loop.example/g00720/impl.shapes"], fn := fun _ => fun
  | [d1, d2, g1] => { results := [.lit (.bool true)], args := [d1, d2], vars := [g1] }
  | _ => none }
def fnExactTouchesOfRow : OpenClaim := { program := "ytihdablgnmkjnaagreatdoor", sum := "3e4578f540527eba511f65ae016b3beb76e9ebe82808025870ab75e4350b3bcb", func := "loop.example/g00720/laws.FnExactTouchesOf", spec := "fnExactTouchesOf", unfollowed := true, recurses := true, named := ["loop.example/g00720/impl.shapes"], apart := false, laid := [("loop.example/g00720/impl.shapes", laid_loop_example_g00720_impl_shapes)] }
def FnExactTouchesOfSaid : Prop := fnExactTouchesOfRow.holds Tryz.pinned (OpenSpec.ofChange fnExactTouchesOfSpec)

/-- ITS FALSE NEIGHBOUR: 'it returns false'. Refute it at one input. -/
def fnExactTouchesOfWrong : ChangeSpec := { name := "fnExactTouchesOf", vars := ["loop.example/g00720/impl.shapes"], fn := fun _ => fun
  | [d1, d2, g1] => { results := [.lit (.bool false)], args := [d1, d2], vars := [g1] }
  | _ => none }
def FnExactTouchesOfWrongFalsely : Prop := fnExactTouchesOfRow.holds Tryz.pinned (OpenSpec.ofChange fnExactTouchesOfWrong)

/- THE SECOND FORM. 'bulk': how many values and letters a reading holds, each counted each time it is reached (what is shared counts as often as it is met; a slice's spare places count too). A statement '..UptoSaid' is the law's where the arguments, and the package variables that the reading takes, are together of bulk at most 1048576: NARROWER than '..Said'. Prove '..Said' where nothing that the law and all that it calls make is longer than what came in: it says more and counts as full. Else prove '..UptoSaid'. A law counts once. -/
mutual
def uptoBulk {H : Type} : DataW H → Nat
  | .lit (.string bytes) => bytes.length + 1
  | .lit _ => 1
  | .nil => 1
  | .ptr d => uptoBulk d + 1
  | .slice elems spare => uptoBulkAll elems + uptoBulkAll spare + 1
  | .agg parts => uptoBulkAll parts + 1
  | .iface _ d => uptoBulk d + 1
  | .map entries => uptoBulkEntries entries + 1
  | .held _ => 1
def uptoBulkAll {H : Type} : List (DataW H) → Nat
  | [] => 0
  | d :: r => uptoBulk d + uptoBulkAll r
def uptoBulkEntries {H : Type} : List (Lit × DataW H) → Nat
  | [] => 0
  | x :: r => uptoBulkEntry x + uptoBulkEntries r
def uptoBulkEntry {H : Type} : Lit × DataW H → Nat
  | (.string bytes, d) => bytes.length + uptoBulk d + 1
  | (_, d) => uptoBulk d + 1
 end
def uptoSmall : (H : Type) → List (DataW H) → Bool := fun _ ds => decide (uptoBulkAll ds ≤ 1048576)
def OpenSpec.upto (s : _root_.Go.ChangeSpec) : _root_.Go.OpenSpec := { _root_.Go.OpenSpec.ofChange s with cond := some uptoSmall }

/-- 'laws.FnScene', WHERE WHAT IT READS IS OF BULK AT MOST 1048576: true; the input reads as it did. -/
def fnSceneUptoRow : OpenClaim := { program := "ytihdablgnmkjnaagreatdoor", sum := "3e4578f540527eba511f65ae016b3beb76e9ebe82808025870ab75e4350b3bcb", func := "loop.example/g00720/laws.FnScene", spec := "fnScene", unfollowed := true, recurses := true, named := ["loop.example/g00720/impl.shapes"], apart := false, laid := [("loop.example/g00720/impl.shapes", laid_loop_example_g00720_impl_shapes)], narrowed := true }
def FnSceneUptoSaid : Prop := fnSceneUptoRow.holds Tryz.pinned (OpenSpec.upto fnSceneSpec)

/-- 'laws.FnLocks', WHERE WHAT IT READS IS OF BULK AT MOST 1048576: true; the input reads as it did. -/
def fnLocksUptoRow : OpenClaim := { program := "ytihdablgnmkjnaagreatdoor", sum := "3e4578f540527eba511f65ae016b3beb76e9ebe82808025870ab75e4350b3bcb", func := "loop.example/g00720/laws.FnLocks", spec := "fnLocks", unfollowed := true, recurses := true, named := ["loop.example/g00720/impl.shapes"], apart := false, laid := [("loop.example/g00720/impl.shapes", laid_loop_example_g00720_impl_shapes)], narrowed := true }
def FnLocksUptoSaid : Prop := fnLocksUptoRow.holds Tryz.pinned (OpenSpec.upto fnLocksSpec)

/-- 'laws.FnTouches', WHERE WHAT IT READS IS OF BULK AT MOST 1048576: true; the input reads as it did. -/
def fnTouchesUptoRow : OpenClaim := { program := "ytihdablgnmkjnaagreatdoor", sum := "3e4578f540527eba511f65ae016b3beb76e9ebe82808025870ab75e4350b3bcb", func := "loop.example/g00720/laws.FnTouches", spec := "fnTouches", unfollowed := true, recurses := true, named := ["loop.example/g00720/impl.shapes"], apart := false, laid := [("loop.example/g00720/impl.shapes", laid_loop_example_g00720_impl_shapes)], narrowed := true }
def FnTouchesUptoSaid : Prop := fnTouchesUptoRow.holds Tryz.pinned (OpenSpec.upto fnTouchesSpec)

/-- 'laws.FnExactDone', WHERE WHAT IT READS IS OF BULK AT MOST 1048576: true; the input reads as it did. -/
def fnExactDoneUptoRow : OpenClaim := { program := "ytihdablgnmkjnaagreatdoor", sum := "3e4578f540527eba511f65ae016b3beb76e9ebe82808025870ab75e4350b3bcb", func := "loop.example/g00720/laws.FnExactDone", spec := "fnExactDone", unfollowed := true, recurses := true, named := ["loop.example/g00720/impl.shapes"], apart := false, laid := [("loop.example/g00720/impl.shapes", laid_loop_example_g00720_impl_shapes)], narrowed := true }
def FnExactDoneUptoSaid : Prop := fnExactDoneUptoRow.holds Tryz.pinned (OpenSpec.upto fnExactDoneSpec)

/-- 'laws.FnExactTouchesOf', WHERE WHAT IT READS IS OF BULK AT MOST 1048576: true; the input reads as it did. -/
def fnExactTouchesOfUptoRow : OpenClaim := { program := "ytihdablgnmkjnaagreatdoor", sum := "3e4578f540527eba511f65ae016b3beb76e9ebe82808025870ab75e4350b3bcb", func := "loop.example/g00720/laws.FnExactTouchesOf", spec := "fnExactTouchesOf", unfollowed := true, recurses := true, named := ["loop.example/g00720/impl.shapes"], apart := false, laid := [("loop.example/g00720/impl.shapes", laid_loop_example_g00720_impl_shapes)], narrowed := true }
def FnExactTouchesOfUptoSaid : Prop := fnExactTouchesOfUptoRow.holds Tryz.pinned (OpenSpec.upto fnExactTouchesOfSpec)

end Rows
end Go.Proofs.YtihdablgnmkjnaaGreatDoor
