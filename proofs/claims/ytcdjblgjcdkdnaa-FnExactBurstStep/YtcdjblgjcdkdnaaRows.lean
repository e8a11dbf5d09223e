/-
  No cell of these rows narrows 'for every input' (looked for: loops, veiled, ifaces, maps, wideKeys, modest, calm, conditions, laid).
  DERIVED. THE GIVEN ROWS OF THIS SEAT. 4 by the template 'for every input the law returns true; each argument reads behind the call as it read before'; 0 by the template 'total and deterministic' (their statements: YtcdjblgjcdkdnaaTotals.lean).
  GIVEN WITH THE SEED: the statements are not yours to turn. If you find one false, say at which input.
  Laid BY PROGRAM, IN A SANDBOX (cutbox-rows.mjs): the forced cells as the released guide's own fill.sh prints them over the translation 763dfb19985a5bea… (all of the seat's roots in one cut). By AI agents, Wed Nov 11 2026. No macro, syntax, notation, axiom, sorry.
-/
import Derived.Test.YtcdjblgjcdkdnaaChecked
import GoSem.Claim
import GoSem.ClaimJoined
import GoSem.ClaimMapViews
import Derived.JoinedTies
import Derived.KernelRfl
namespace Go.Proofs.Ytcdjblgjcdkdnaa
/- THE CELL 'sum', in the pinned program and in every row, IS THE sha256 OF THE DUMP (.gsa) THAT YtcdjblgjcdkdnaaProg.lean LOADS. Nothing in Lean hashes anything: it is a label: what it is worth is what the hold of that sum in a sandbox is worth. -/
noncomputable def Try.pinned : Pinned := { name := "ytcdjblgjcdkdnaa", sum := "763dfb19985a5bea81f6d898c8004bb06c3db1d1bc87f2ce557983c6247f10ac", checked := Try.checked }
namespace Rows
def none {H : Type} : Left H := { results := [], args := [] }

/-- 'laws.FnBursts': WHATEVER THE INPUT: true; the input reads as it did. -/
def fnBurstsSpec : ChangeSpec := { name := "fnBursts", fn := fun _ => fun
  | [d] => { results := [.lit (.bool true)], args := [d] }
  | _ => none }
def fnBurstsRow : OpenClaim := { program := "ytcdjblgjcdkdnaa", sum := "763dfb19985a5bea81f6d898c8004bb06c3db1d1bc87f2ce557983c6247f10ac", func := "loop.example/g00720/laws.FnBursts", spec := "fnBursts", unfollowed := true, recurses := true, apart := false }
def FnBurstsSaid : Prop := fnBurstsRow.holds Try.pinned (OpenSpec.ofChange fnBurstsSpec)

/-- ITS FALSE NEIGHBOUR: 'it returns false'. Refute it at one input. -/
def fnBurstsWrong : ChangeSpec := { name := "fnBursts", fn := fun _ => fun
  | [d] => { results := [.lit (.bool false)], args := [d] }
  | _ => none }
def FnBurstsWrongFalsely : Prop := fnBurstsRow.holds Try.pinned (OpenSpec.ofChange fnBurstsWrong)

/-- 'laws.FnExactBurstOk': WHATEVER THE INPUT: true; the input reads as it did. -/
def fnExactBurstOkSpec : ChangeSpec := { name := "fnExactBurstOk", fn := fun _ => fun
  | [d1, d2] => { results := [.lit (.bool true)], args := [d1, d2] }
  | _ => none }
def fnExactBurstOkRow : OpenClaim := { program := "ytcdjblgjcdkdnaa", sum := "763dfb19985a5bea81f6d898c8004bb06c3db1d1bc87f2ce557983c6247f10ac", func := "loop.example/g00720/laws.FnExactBurstOk", spec := "fnExactBurstOk", apart := false }
def FnExactBurstOkSaid : Prop := fnExactBurstOkRow.holds Try.pinned (OpenSpec.ofChange fnExactBurstOkSpec)

/-- ITS FALSE NEIGHBOUR: 'it returns false'. Refute it at one input. -/
def fnExactBurstOkWrong : ChangeSpec := { name := "fnExactBurstOk", fn := fun _ => fun
  | [d1, d2] => { results := [.lit (.bool false)], args := [d1, d2] }
  | _ => none }
def FnExactBurstOkWrongFalsely : Prop := fnExactBurstOkRow.holds Try.pinned (OpenSpec.ofChange fnExactBurstOkWrong)

/-- 'laws.FnExactNewBurst': WHATEVER THE INPUT: true; the input reads as it did. -/
def fnExactNewBurstSpec : ChangeSpec := { name := "fnExactNewBurst", fn := fun _ => fun
  | [d] => { results := [.lit (.bool true)], args := [d] }
  | _ => none }
def fnExactNewBurstRow : OpenClaim := { program := "ytcdjblgjcdkdnaa", sum := "763dfb19985a5bea81f6d898c8004bb06c3db1d1bc87f2ce557983c6247f10ac", func := "loop.example/g00720/laws.FnExactNewBurst", spec := "fnExactNewBurst", apart := false }
def FnExactNewBurstSaid : Prop := fnExactNewBurstRow.holds Try.pinned (OpenSpec.ofChange fnExactNewBurstSpec)

/-- ITS FALSE NEIGHBOUR: 'it returns false'. Refute it at one input. -/
def fnExactNewBurstWrong : ChangeSpec := { name := "fnExactNewBurst", fn := fun _ => fun
  | [d] => { results := [.lit (.bool false)], args := [d] }
  | _ => none }
def FnExactNewBurstWrongFalsely : Prop := fnExactNewBurstRow.holds Try.pinned (OpenSpec.ofChange fnExactNewBurstWrong)

/-- 'laws.FnExactBurstStep': WHATEVER THE INPUT: true; the input reads as it did. -/
def fnExactBurstStepSpec : ChangeSpec := { name := "fnExactBurstStep", fn := fun _ => fun
  | [d1, d2] => { results := [.lit (.bool true)], args := [d1, d2] }
  | _ => none }
def fnExactBurstStepRow : OpenClaim := { program := "ytcdjblgjcdkdnaa", sum := "763dfb19985a5bea81f6d898c8004bb06c3db1d1bc87f2ce557983c6247f10ac", func := "loop.example/g00720/laws.FnExactBurstStep", spec := "fnExactBurstStep", unfollowed := true, recurses := true, apart := false }
def FnExactBurstStepSaid : Prop := fnExactBurstStepRow.holds Try.pinned (OpenSpec.ofChange fnExactBurstStepSpec)

/-- ITS FALSE NEIGHBOUR: 'it returns false'. Refute it at one input. -/
def fnExactBurstStepWrong : ChangeSpec := { name := "fnExactBurstStep", fn := fun _ => fun
  | [d1, d2] => { results := [.lit (.bool false)], args := [d1, d2] }
  | _ => none }
def FnExactBurstStepWrongFalsely : Prop := fnExactBurstStepRow.holds Try.pinned (OpenSpec.ofChange fnExactBurstStepWrong)

/- THE SECOND FORM. 'bulk': how many values and letters a reading holds, each counted each time it is reached (what is shared counts as often as it is met; a slice's spare places count too). A statement '..UptoSaid' is the law's where the arguments, and the package variables that the reading takes, are together of bulk at most 1048576: NARROWER than '..Said'. Prove '..Said' where nothing that the law and all that it calls make is longer than what came in: it says more and counts as full. Else prove '..UptoSaid'. A law counts once. -/
mutual
def uptoBulk {H : Type} : DataW H → Nat
  | .lit (.string bytes) => bytes.length + 1
  | .lit _ => 1
  | .nil => 1
  | .ptr d => uptoBulk d + 1
  | .slice elems spare => uptoBulkAll elems + uptoBulkAll spare + 1
  | .agg parts => uptoBulkAll parts + 1
  | .iface _ d => uptoBulk d + 1
  | .map entries => uptoBulkEntries entries + 1
  | .held _ => 1
def uptoBulkAll {H : Type} : List (DataW H) → Nat
  | [] => 0
  | d :: r => uptoBulk d + uptoBulkAll r
def uptoBulkEntries {H : Type} : List (Lit × DataW H) → Nat
  | [] => 0
  | x :: r => uptoBulkEntry x + uptoBulkEntries r
def uptoBulkEntry {H : Type} : Lit × DataW H → Nat
  | (.string bytes, d) => bytes.length + uptoBulk d + 1
  | (_, d) => uptoBulk d + 1
 end
def uptoSmall : (H : Type) → List (DataW H) → Bool := fun _ ds => decide (uptoBulkAll ds ≤ 1048576)
def OpenSpec.upto (s : _root_.Go.ChangeSpec) : _root_.Go.OpenSpec := { _root_.Go.OpenSpec.ofChange s with cond := some uptoSmall }

/-- 'laws.FnBursts', WHERE WHAT IT READS IS OF BULK AT MOST 1048576: true; the input reads as it did. -/
def fnBurstsUptoRow : OpenClaim := { program := "ytcdjblgjcdkdnaa", sum := "763dfb19985a5bea81f6d898c8004bb06c3db1d1bc87f2ce557983c6247f10ac", func := "loop.example/g00720/laws.FnBursts", spec := "fnBursts", unfollowed := true, recurses := true, apart := false, narrowed := true }
def FnBurstsUptoSaid : Prop := fnBurstsUptoRow.holds Try.pinned (OpenSpec.upto fnBurstsSpec)

/-- 'laws.FnExactBurstOk', WHERE WHAT IT READS IS OF BULK AT MOST 1048576: true; the input reads as it did. -/
def fnExactBurstOkUptoRow : OpenClaim := { program := "ytcdjblgjcdkdnaa", sum := "763dfb19985a5bea81f6d898c8004bb06c3db1d1bc87f2ce557983c6247f10ac", func := "loop.example/g00720/laws.FnExactBurstOk", spec := "fnExactBurstOk", apart := false, narrowed := true }
def FnExactBurstOkUptoSaid : Prop := fnExactBurstOkUptoRow.holds Try.pinned (OpenSpec.upto fnExactBurstOkSpec)

/-- 'laws.FnExactNewBurst', WHERE WHAT IT READS IS OF BULK AT MOST 1048576: true; the input reads as it did. -/
def fnExactNewBurstUptoRow : OpenClaim := { program := "ytcdjblgjcdkdnaa", sum := "763dfb19985a5bea81f6d898c8004bb06c3db1d1bc87f2ce557983c6247f10ac", func := "loop.example/g00720/laws.FnExactNewBurst", spec := "fnExactNewBurst", apart := false, narrowed := true }
def FnExactNewBurstUptoSaid : Prop := fnExactNewBurstUptoRow.holds Try.pinned (OpenSpec.upto fnExactNewBurstSpec)

/-- 'laws.FnExactBurstStep', WHERE WHAT IT READS IS OF BULK AT MOST 1048576: true; the input reads as it did. -/
def fnExactBurstStepUptoRow : OpenClaim := { program := "ytcdjblgjcdkdnaa", sum := "763dfb19985a5bea81f6d898c8004bb06c3db1d1bc87f2ce557983c6247f10ac", func := "loop.example/g00720/laws.FnExactBurstStep", spec := "fnExactBurstStep", unfollowed := true, recurses := true, apart := false, narrowed := true }
def FnExactBurstStepUptoSaid : Prop := fnExactBurstStepUptoRow.holds Try.pinned (OpenSpec.upto fnExactBurstStepSpec)

end Rows
end Go.Proofs.Ytcdjblgjcdkdnaa
