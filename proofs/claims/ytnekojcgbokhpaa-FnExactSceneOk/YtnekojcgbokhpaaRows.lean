/-
  No cell of these rows narrows 'for every input' (looked for: loops, veiled, ifaces, maps, wideKeys, modest, calm, conditions, laid).
  DERIVED. THE GIVEN ROWS OF THIS SEAT. 2 by the template 'for every input the law returns true; each argument reads behind the call as it read before'; 0 by the template 'total and deterministic' (their statements: YtnekojcgbokhpaaTotals.lean).
  GIVEN WITH THE SEED: the statements are not yours to turn. If you find one false, say at which input.
  Laid BY PROGRAM, IN A SANDBOX (cutbox-rows.mjs): the forced cells as the released guide's own fill.sh prints them over the translation e6232fa8285487d6… (all of the seat's roots in one cut). By AI agents, Wed Nov 11 2026. No macro, syntax, notation, axiom, sorry.
-/
import Derived.Test.YtnekojcgbokhpaaChecked
import GoSem.Claim
import GoSem.ClaimJoined
import GoSem.ClaimMapViews
import Derived.JoinedTies
import Derived.KernelRfl
namespace Go.Proofs.Ytnekojcgbokhpaa
/- THE CELL 'sum', in the pinned program and in every row, IS THE sha256 OF THE DUMP (.gsa) THAT YtnekojcgbokhpaaProg.lean LOADS. Nothing in Lean hashes anything: it is a label: what it is worth is what the hold of that sum in a sandbox is worth. -/
noncomputable def Try.pinned : Pinned := { name := "ytnekojcgbokhpaa", sum := "e6232fa8285487d647bc1de727f318cfd88703e14d826b978070a2c1c5f7dd81", checked := Try.checked }
namespace Rows
def none {H : Type} : Left H := { results := [], args := [] }

/-- 'laws.FnExactSceneOk': WHATEVER THE INPUT: true; the input reads as it did. -/
def fnExactSceneOkSpec : ChangeSpec := { name := "fnExactSceneOk", fn := fun _ => fun
  | [d] => { results := [.lit (.bool true)], args := [d] }
  | _ => none }
def fnExactSceneOkRow : OpenClaim := { program := "ytnekojcgbokhpaa", sum := "e6232fa8285487d647bc1de727f318cfd88703e14d826b978070a2c1c5f7dd81", func := "loop.example/g00720/laws.FnExactSceneOk", spec := "fnExactSceneOk", unfollowed := true, recurses := true, apart := false }
def FnExactSceneOkSaid : Prop := fnExactSceneOkRow.holds Try.pinned (OpenSpec.ofChange fnExactSceneOkSpec)

/-- ITS FALSE NEIGHBOUR: 'it returns false'. Refute it at one input. -/
def fnExactSceneOkWrong : ChangeSpec := { name := "fnExactSceneOk", fn := fun _ => fun
  | [d] => { results := [.lit (.bool false)], args := [d] }
  | _ => none }
def FnExactSceneOkWrongFalsely : Prop := fnExactSceneOkRow.holds Try.pinned (OpenSpec.ofChange fnExactSceneOkWrong)

/-- 'laws.FnExactNewScene': WHATEVER THE INPUT: true; the input reads as it did. -/
def fnExactNewSceneSpec : ChangeSpec := { name := "fnExactNewScene", fn := fun _ => fun
  | [] => { results := [.lit (.bool true)], args := [] }
  | _ => none }
def fnExactNewSceneRow : OpenClaim := { program := "ytnekojcgbokhpaa", sum := "e6232fa8285487d647bc1de727f318cfd88703e14d826b978070a2c1c5f7dd81", func := "loop.example/g00720/laws.FnExactNewScene", spec := "fnExactNewScene", apart := false }
def FnExactNewSceneSaid : Prop := fnExactNewSceneRow.holds Try.pinned (OpenSpec.ofChange fnExactNewSceneSpec)

/-- ITS FALSE NEIGHBOUR: 'it returns false'. Refute it at one input. -/
def fnExactNewSceneWrong : ChangeSpec := { name := "fnExactNewScene", fn := fun _ => fun
  | [] => { results := [.lit (.bool false)], args := [] }
  | _ => none }
def FnExactNewSceneWrongFalsely : Prop := fnExactNewSceneRow.holds Try.pinned (OpenSpec.ofChange fnExactNewSceneWrong)

/- THE SECOND FORM. 'bulk': how many values and letters a reading holds, each counted each time it is reached (what is shared counts as often as it is met; a slice's spare places count too). A statement '..UptoSaid' is the law's where the arguments, and the package variables that the reading takes, are together of bulk at most 1048576: NARROWER than '..Said'. Prove '..Said' where nothing that the law and all that it calls make is longer than what came in: it says more and counts as full. Else prove '..UptoSaid'. A law counts once. -/
mutual
def uptoBulk {H : Type} : DataW H → Nat
  | .lit (.string bytes) => bytes.length + 1
  | .lit _ => 1
  | .nil => 1
  | .ptr d => uptoBulk d + 1
  | .slice elems spare => uptoBulkAll elems + uptoBulkAll spare + 1
  | .agg parts => uptoBulkAll parts + 1
  | .iface _ d => uptoBulk d + 1
  | .map entries => uptoBulkEntries entries + 1
  | .held _ => 1
def uptoBulkAll {H : Type} : List (DataW H) → Nat
  | [] => 0
  | d :: r => uptoBulk d + uptoBulkAll r
def uptoBulkEntries {H : Type} : List (Lit × DataW H) → Nat
  | [] => 0
  | x :: r => uptoBulkEntry x + uptoBulkEntries r
def uptoBulkEntry {H : Type} : Lit × DataW H → Nat
  | (.string bytes, d) => bytes.length + uptoBulk d + 1
  | (_, d) => uptoBulk d + 1
 end
def uptoSmall : (H : Type) → List (DataW H) → Bool := fun _ ds => decide (uptoBulkAll ds ≤ 1048576)
def OpenSpec.upto (s : _root_.Go.ChangeSpec) : _root_.Go.OpenSpec := { _root_.Go.OpenSpec.ofChange s with cond := some uptoSmall }

/-- 'laws.FnExactSceneOk', WHERE WHAT IT READS IS OF BULK AT MOST 1048576: true; the input reads as it did. -/
def fnExactSceneOkUptoRow : OpenClaim := { program := "ytnekojcgbokhpaa", sum := "e6232fa8285487d647bc1de727f318cfd88703e14d826b978070a2c1c5f7dd81", func := "loop.example/g00720/laws.FnExactSceneOk", spec := "fnExactSceneOk", unfollowed := true, recurses := true, apart := false, narrowed := true }
def FnExactSceneOkUptoSaid : Prop := fnExactSceneOkUptoRow.holds Try.pinned (OpenSpec.upto fnExactSceneOkSpec)

/-- 'laws.FnExactNewScene', WHERE WHAT IT READS IS OF BULK AT MOST 1048576: true; the input reads as it did. -/
def fnExactNewSceneUptoRow : OpenClaim := { program := "ytnekojcgbokhpaa", sum := "e6232fa8285487d647bc1de727f318cfd88703e14d826b978070a2c1c5f7dd81", func := "loop.example/g00720/laws.FnExactNewScene", spec := "fnExactNewScene", apart := false, narrowed := true }
def FnExactNewSceneUptoSaid : Prop := fnExactNewSceneUptoRow.holds Try.pinned (OpenSpec.upto fnExactNewSceneSpec)

end Rows
end Go.Proofs.Ytnekojcgbokhpaa
