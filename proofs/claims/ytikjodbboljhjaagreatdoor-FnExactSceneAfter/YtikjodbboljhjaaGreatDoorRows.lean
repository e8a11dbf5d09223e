/-
  NARROWER THAN 'FOR EVERY INPUT', by the rows' own cells (each row's printed sentence says how): FnScene: laid · FnLocks: laid · FnLegal: laid · FnExactDone: laid · FnExactSceneAfter: laid.
  DERIVED. THE GIVEN ROWS OF THIS SEAT. 5 by the template 'for every input the law returns true; each argument reads behind the call as it read before'; 0 by the template 'total and deterministic' (their statements: YtikjodbboljhjaaGreatDoorTotals.lean).
  GIVEN WITH THE SEED: the statements are not yours to turn. If you find one false, say at which input.
  Laid BY PROGRAM, IN A SANDBOX (cutbox-rows.mjs): the forced cells as the released guide's own fill.sh prints them over the translation cbc25817bd105148… (all of the seat's roots in one cut). By AI agents, Wed Nov 11 2026. No macro, syntax, notation, axiom, sorry.
-/
import Derived.Test.YtikjodbboljhjaaGreatDoorChecked
import GoSem.Claim
import GoSem.ClaimJoined
import GoSem.ClaimMapViews
import Derived.JoinedTies
import Derived.KernelRfl
namespace Go.Proofs.YtikjodbboljhjaaGreatDoor
/- THE CELL 'sum', in the pinned program and in every row, IS THE sha256 OF THE DUMP (.gsa) THAT YtikjodbboljhjaaGreatDoorProg.lean LOADS. Nothing in Lean hashes anything: it is a label: what it is worth is what the hold of that sum in a sandbox is worth. -/
noncomputable def Tryz.pinned : Pinned := { name := "ytikjodbboljhjaagreatdoor", sum := "cbc25817bd1051480e4984e7f16c16ac435bfbc87056f1f6ebbf3b6b63e7d04e", checked := Tryz.checked }
namespace Rows
def none {H : Type} : Left H := { results := [], args := [] }

/- WHAT THE LISTED PACKAGE-LEVEL VARIABLES READ AS WHEN THE CALL BEGINS. Each datum BY PROGRAM (the guide's laid-datum.mjs) off the statement by which the dump's own 'gosem.cut.vars' lays the variable. In a bare row this is a premise. The card (YtikjodbboljhjaaGreatDoorCards.lean) ties it to the program's text. -/
def laid_loop_example_g00720_impl_shapes {H : Type} : DataW H := .agg [.agg [.lit (.int .i64 0), .lit (.int .i64 0), .lit (.int .i64 0)], .agg [.lit (.int .i64 1), .lit (.int .i64 0), .lit (.int .i64 0)], .agg [.lit (.int .i64 1), .lit (.int .i64 0), .lit (.int .i64 0)], .agg [.lit (.int .i64 1), .lit (.int .i64 0), .lit (.int .i64 0)], .agg [.lit (.int .i64 1), .lit (.int .i64 0), .lit (.int .i64 0)], .agg [.lit (.int .i64 1), .lit (.int .i64 0), .lit (.int .i64 0)], .agg [.lit (.int .i64 9), .lit (.int .i64 0), .lit (.int .i64 8)], .agg [.lit (.int .i64 1), .lit (.int .i64 0), .lit (.int .i64 0)], .agg [.lit (.int .i64 1), .lit (.int .i64 0), .lit (.int .i64 0)], .agg [.lit (.int .i64 3), .lit (.int .i64 0), .lit (.int .i64 0)], .agg [.lit (.int .i64 1), .lit (.int .i64 0), .lit (.int .i64 0)], .agg [.lit (.int .i64 1), .lit (.int .i64 0), .lit (.int .i64 0)], .agg [.lit (.int .i64 9), .lit (.int .i64 1), .lit (.int .i64 9)], .agg [.lit (.int .i64 1), .lit (.int .i64 0), .lit (.int .i64 0)], .agg [.lit (.int .i64 1), .lit (.int .i64 0), .lit (.int .i64 0)], .agg [.lit (.int .i64 1), .lit (.int .i64 0), .lit (.int .i64 0)], .agg [.lit (.int .i64 1), .lit (.int .i64 0), .lit (.int .i64 0)], .agg [.lit (.int .i64 1), .lit (.int .i64 0), .lit (.int .i64 0)], .agg [.lit (.int .i64 1), .lit (.int .i64 0), .lit (.int .i64 0)], .agg [.lit (.int .i64 1), .lit (.int .i64 0), .lit (.int .i64 0)], .agg [.lit (.int .i64 60), .lit (.int .i64 1), .lit (.int .i64 8)], .agg [.lit (.int .i64 60), .lit (.int .i64 1), .lit (.int .i64 8)], .agg [.lit (.int .i64 12), .lit (.int .i64 1), .lit (.int .i64 64)]]

/-- 'laws.FnScene': WHATEVER THE INPUT: true; the input reads as it did. -/
def fnSceneSpec : ChangeSpec := { name := "fnScene", vars := ["loop.example/g00720/impl.shapes"], fn := fun _ => fun
  | [d, g1] => { results := [.lit (.bool true)], args := [d], vars := [g1] }
  | _ => none }
def fnSceneRow : OpenClaim := { program := "ytikjodbboljhjaagreatdoor", sum := "cbc25817bd1051480e4984e7f16c16ac435bfbc87056f1f6ebbf3b6b63e7d04e", func := "loop.example/g00720/laws.FnScene", spec := "fnScene", unfollowed := true, recurses := true, named := ["loop.example/g00720/impl.shapes"], apart := false, laid := [("loop.example/g00720/impl.shapes", laid_loop_example_g00720_impl_shapes)] }
def FnSceneSaid : Prop := fnSceneRow.holds Tryz.pinned (OpenSpec.ofChange fnSceneSpec)

/-- ITS FALSE NEIGHBOUR: 'it returns false'. Refute it at one input. -/
def fnSceneWrong : ChangeSpec := { name := "fnScene", vars := ["loop.example/g00720/impl.shapes"], fn := fun _ => fun
  | [d, g1] => { results := [.lit (.bool false)], args := [d], vars := [g1] }
  | _ => none }
def FnSceneWrongFalsely : Prop := fnSceneRow.holds Tryz.pinned (OpenSpec.ofChange fnSceneWrong)

/-- 'laws.FnLocks': WHATEVER THE INPUT: true; the input reads as it did. -/
def fnLocksSpec : ChangeSpec := { name := "fnLocks", vars := ["loop.example/g00720/impl.shapes"], fn := fun _ => fun
  | [d, g1] => { results := [.lit (.bool true)], args := [d], vars := [g1] }
  | _ => none }
def fnLocksRow : OpenClaim := { program := "ytikjodbboljhjaagreatdoor", sum := "cbc25817bd1051480e4984e7f16c16ac435bfbc87056f1f6ebbf3b6b63e7d04e", func := "loop.example/g00720/laws.FnLocks", spec := "fnLocks", unfollowed := true, recurses := true, named := ["loop.example/g00720/impl.shapes"], apart := false, laid := [("loop.example/g00720/impl.shapes", laid_loop_example_g00720_impl_shapes)] }
def FnLocksSaid : Prop := fnLocksRow.holds Tryz.pinned (OpenSpec.ofChange fnLocksSpec)

/-- ITS FALSE NEIGHBOUR: 'it returns false'. Refute it at one input. -/
def fnLocksWrong : ChangeSpec := { name := "fnLocks", vars := ["loop.example/g00720/impl.shapes"], fn := fun _ => fun
  | [d, g1] => { results := [.lit (.bool false)], args := [d], vars := [g1] }
  | _ => none }
def FnLocksWrongFalsely : Prop := fnLocksRow.holds Tryz.pinned (OpenSpec.ofChange fnLocksWrong)

/-- 'laws.FnLegal': WHATEVER THE INPUT: true; the input reads as it did. -/
def fnLegalSpec : ChangeSpec := { name := "fnLegal", vars := ["loop.example/g00720/impl.shapes"], fn := fun _ => fun
  | [d, g1] => { results := [.lit (.bool true)], args := [d], vars := [g1] }
  | _ => none }
def fnLegalRow : OpenClaim := { program := "ytikjodbboljhjaagreatdoor", sum := "cbc25817bd1051480e4984e7f16c16ac435bfbc87056f1f6ebbf3b6b63e7d04e", func := "loop.example/g00720/laws.FnLegal", spec := "fnLegal", unfollowed := true, recurses := true, named := ["loop.example/g00720/impl.shapes"], apart := false, laid := [("loop.example/g00720/impl.shapes", laid_loop_example_g00720_impl_shapes)] }
def FnLegalSaid : Prop := fnLegalRow.holds Tryz.pinned (OpenSpec.ofChange fnLegalSpec)

/-- ITS FALSE NEIGHBOUR: 'it returns false'. Refute it at one input. -/
def fnLegalWrong : ChangeSpec := { name := "fnLegal", vars := ["loop.example/g00720/impl.shapes"], fn := fun _ => fun
  | [d, g1] => { results := [.lit (.bool false)], args := [d], vars := [g1] }
  | _ => none }
def FnLegalWrongFalsely : Prop := fnLegalRow.holds Tryz.pinned (OpenSpec.ofChange fnLegalWrong)

/-- 'laws.FnExactDone': WHATEVER THE INPUT: true; the input reads as it did. -/
def fnExactDoneSpec : ChangeSpec := { name := "fnExactDone", vars := ["loop.example/g00720/impl.shapes"], fn := fun _ => fun
  | [d1, d2, g1] => { results := [.lit (.bool true)], args := [d1, d2], vars := [g1] }
  | _ => none }
def fnExactDoneRow : OpenClaim := { program := "ytikjodbboljhjaagreatdoor", sum := "cbc25817bd1051480e4984e7f16c16ac435bfbc87056f1f6ebbf3b6b63e7d04e", func := "loop.example/g00720/laws.FnExactDone", spec := "fnExactDone", unfollowed := true, recurses := true, named := ["loop.example/g00720/impl.shapes"], apart := false, laid := [("loop.example/g00720/impl.shapes", laid_loop_example_g00720_impl_shapes)] }
def FnExactDoneSaid : Prop := fnExactDoneRow.holds Tryz.pinned (OpenSpec.ofChange fnExactDoneSpec)

/-- ITS FALSE NEIGHBOUR: 'it returns false'. Refute it at one input. -/
def fnExactDoneWrong : ChangeSpec := { name := "fnExactDone", vars := ["loop.example/g00720/impl.shapes"], fn := fun _ => fun
  | [d1, d2, g1] => { results := [.lit (.bool false)], args := [d1, d2], vars := [g1] }
  | _ => none }
def FnExactDoneWrongFalsely : Prop := fnExactDoneRow.holds Tryz.pinned (OpenSpec.ofChange fnExactDoneWrong)

/-- 'laws.FnExactSceneAfter': WHATEVER THE INPUT: true; the input reads as it did. -/
def fnExactSceneAfterSpec : ChangeSpec := { name := "fnExactSceneAfter", vars := ["loop.example/g00720/impl.shapes"], fn := fun _ => fun
  | [d, g1] => { results := [.lit (.bool true)], args := [d], vars := [g1] }
  | _ => none }
def fnExactSceneAfterRow : OpenClaim := { program := "ytikjodbboljhjaagreatdoor", sum := "cbc25817bd1051480e4984e7f16c16ac435bfbc87056f1f6ebbf3b6b63e7d04e", func := "loop.example/g00720/laws.FnExactSceneAfter", spec := "fnExactSceneAfter", unfollowed := true, recurses := true, named := ["loop.example/g00720/impl.shapes"], apart := false, laid := [("loop.example/g00720/impl.shapes", laid_loop_example_g00720_impl_shapes)] }
def FnExactSceneAfterSaid : Prop := fnExactSceneAfterRow.holds Tryz.pinned (OpenSpec.ofChange fnExactSceneAfterSpec)

/-- ITS FALSE NEIGHBOUR: 'it returns false'. Refute it at one input. -/
def fnExactSceneAfterWrong : ChangeSpec := { name := "fnExactSceneAfter", vars := ["loop.example/g00720/impl.shapes"], fn := fun _ => fun
  | [d, g1] => { results := [.lit (.bool false)], args := [d], vars := [g1] }
  | _ => none }
def FnExactSceneAfterWrongFalsely : Prop := fnExactSceneAfterRow.holds Tryz.pinned (OpenSpec.ofChange fnExactSceneAfterWrong)

/- THE SECOND FORM. 'bulk': how many values and letters a reading holds, each counted each time it is reached (what is shared counts as often as it is met; a slice's spare places count too). A statement '..UptoSaid' is the law's where the arguments, and the package variables that the reading takes, are together of bulk at most 1048576: NARROWER than '..Said'. Prove '..Said' where nothing that the law and all that it calls make is longer than what came in: it says more and counts as full. Else prove '..UptoSaid'. A law counts once. -/
mutual
def uptoBulk {H : Type} : DataW H → Nat
  | .lit (.string bytes) => bytes.length + 1
  | .lit _ => 1
  | .nil => 1
  | .ptr d => uptoBulk d + 1
  | .slice elems spare => uptoBulkAll elems + uptoBulkAll spare + 1
  | .agg parts => uptoBulkAll parts + 1
  | .iface _ d => uptoBulk d + 1
  | .map entries => uptoBulkEntries entries + 1
  | .held _ => 1
def uptoBulkAll {H : Type} : List (DataW H) → Nat
  | [] => 0
  | d :: r => uptoBulk d + uptoBulkAll r
def uptoBulkEntries {H : Type} : List (Lit × DataW H) → Nat
  | [] => 0
  | x :: r => uptoBulkEntry x + uptoBulkEntries r
def uptoBulkEntry {H : Type} : Lit × DataW H → Nat
  | (.string bytes, d) => bytes.length + uptoBulk d + 1
  | (_, d) => uptoBulk d + 1
 end
def uptoSmall : (H : Type) → List (DataW H) → Bool := fun _ ds => decide (uptoBulkAll ds ≤ 1048576)
def OpenSpec.upto (s : _root_.Go.ChangeSpec) : _root_.Go.OpenSpec := { _root_.Go.OpenSpec.ofChange s with cond := some uptoSmall }

/-- 'laws.FnScene', WHERE WHAT IT READS IS OF BULK AT MOST 1048576: true; the input reads as it did. -/
def fnSceneUptoRow : OpenClaim := { program := "ytikjodbboljhjaagreatdoor", sum := "cbc25817bd1051480e4984e7f16c16ac435bfbc87056f1f6ebbf3b6b63e7d04e", func := "loop.example/g00720/laws.FnScene", spec := "fnScene", unfollowed := true, recurses := true, named := ["loop.example/g00720/impl.shapes"], apart := false, laid := [("loop.example/g00720/impl.shapes", laid_loop_example_g00720_impl_shapes)], narrowed := true }
def FnSceneUptoSaid : Prop := fnSceneUptoRow.holds Tryz.pinned (OpenSpec.upto fnSceneSpec)

/-- 'laws.FnLocks', WHERE WHAT IT READS IS OF BULK AT MOST 1048576: true; the input reads as it did. -/
def fnLocksUptoRow : OpenClaim := { program := "ytikjodbboljhjaagreatdoor", sum := "cbc25817bd1051480e4984e7f16c16ac435bfbc87056f1f6ebbf3b6b63e7d04e", func := "loop.example/g00720/laws.FnLocks", spec := "fnLocks", unfollowed := true, recurses := true, named := ["loop.example/g00720/impl.shapes"], apart := false, laid := [("loop.example/g00720/impl.shapes", laid_loop_example_g00720_impl_shapes)], narrowed := true }
def FnLocksUptoSaid : Prop := fnLocksUptoRow.holds Tryz.pinned (OpenSpec.upto fnLocksSpec)

/-- 'laws.FnLegal', WHERE WHAT IT READS IS OF BULK AT MOST 1048576: true; the input reads as it did. -/
def fnLegalUptoRow : OpenClaim := { program := "ytikjodbboljhjaagreatdoor", sum := "cbc25817bd1051480e4984e7f16c16ac435bfbc87056f1f6ebbf3b6b63e7d04e", func := "loop.example/g00720/laws.FnLegal", spec := "fnLegal", unfollowed := true, recurses := true, named := ["loop.example/g00720/impl.shapes"], apart := false, laid := [("loop.example/g00720/impl.shapes", laid_loop_example_g00720_impl_shapes)], narrowed := true }
def FnLegalUptoSaid : Prop := fnLegalUptoRow.holds Tryz.pinned (OpenSpec.upto fnLegalSpec)

/-- 'laws.FnExactDone', WHERE WHAT IT READS IS OF BULK AT MOST 1048576: true; the input reads as it did. -/
def fnExactDoneUptoRow : OpenClaim := { program := "ytikjodbboljhjaagreatdoor", sum := "cbc25817bd1051480e4984e7f16c16ac435bfbc87056f1f6ebbf3b6b63e7d04e", func := "loop.example/g00720/laws.FnExactDone", spec := "fnExactDone", unfollowed := true, recurses := true, named := ["loop.example/g00720/impl.shapes"], apart := false, laid := [("loop.example/g00720/impl.shapes", laid_loop_example_g00720_impl_shapes)], narrowed := true }
def FnExactDoneUptoSaid : Prop := fnExactDoneUptoRow.holds Tryz.pinned (OpenSpec.upto fnExactDoneSpec)

/-- 'laws.FnExactSceneAfter', WHERE WHAT IT READS IS OF BULK AT MOST 1048576: true; the input reads as it did. -/
def fnExactSceneAfterUptoRow : OpenClaim := { program := "ytikjodbboljhjaagreatdoor", sum := "cbc25817bd1051480e4984e7f16c16ac435bfbc87056f1f6ebbf3b6b63e7d04e", func := "loop.example/g00720/laws.FnExactSceneAfter", spec := "fnExactSceneAfter", unfollowed := true, recurses := true, named := ["loop.example/g00720/impl.shapes"], apart := false, laid := [("loop.example/g00720/impl.shapes", laid_loop_example_g00720_impl_shapes)], narrowed := true }
def FnExactSceneAfterUptoSaid : Prop := fnExactSceneAfterUptoRow.holds Tryz.pinned (OpenSpec.upto fnExactSceneAfterSpec)

end Rows
end Go.Proofs.YtikjodbboljhjaaGreatDoor
