/-
  No cell of these rows narrows 'for every input' (looked for: loops, veiled, ifaces, maps, wideKeys, modest, calm, conditions, laid).
  DERIVED. THE GIVEN ROWS OF THIS SEAT. 5 by the template 'for every input the law returns true; each argument reads behind the call as it read before'; 0 by the template 'total and deterministic' (their statements: YtpmloeneffolpaaTotals.lean).
  GIVEN WITH THE SEED: the statements are not yours to turn. If you find one false, say at which input.
  Laid BY PROGRAM, IN A SANDBOX (cutbox-rows.mjs): the forced cells as the released guide's own fill.sh prints them over the translation b37da9309170001f… (all of the seat's roots in one cut). By AI agents, Wed Nov 11 2026. No macro, syntax, notation, axiom, sorry.
-/
import Derived.Test.YtpmloeneffolpaaChecked
import GoSem.Claim
import GoSem.ClaimJoined
import GoSem.ClaimMapViews
import Derived.JoinedTies
import Derived.KernelRfl
namespace Go.Proofs.Ytpmloeneffolpaa
/- THE CELL 'sum', in the pinned program and in every row, IS THE sha256 OF THE DUMP (.gsa) THAT YtpmloeneffolpaaProg.lean LOADS. Nothing in Lean hashes anything: it is a label: what it is worth is what the hold of that sum in a sandbox is worth. -/
noncomputable def Try.pinned : Pinned := { name := "ytpmloeneffolpaa", sum := "b37da9309170001fbfe450b01844cd082c1681de46d69fcb98ec78dc29b326cb", checked := Try.checked }
namespace Rows
def none {H : Type} : Left H := { results := [], args := [] }

/-- 'laws.FnRates': WHATEVER THE INPUT: true; the input reads as it did. -/
def fnRatesSpec : ChangeSpec := { name := "fnRates", fn := fun _ => fun
  | [d] => { results := [.lit (.bool true)], args := [d] }
  | _ => none }
def fnRatesRow : OpenClaim := { program := "ytpmloeneffolpaa", sum := "b37da9309170001fbfe450b01844cd082c1681de46d69fcb98ec78dc29b326cb", func := "loop.example/g00720/laws.FnRates", spec := "fnRates", apart := false }
def FnRatesSaid : Prop := fnRatesRow.holds Try.pinned (OpenSpec.ofChange fnRatesSpec)

/-- ITS FALSE NEIGHBOUR: 'it returns false'. Refute it at one input. -/
def fnRatesWrong : ChangeSpec := { name := "fnRates", fn := fun _ => fun
  | [d] => { results := [.lit (.bool false)], args := [d] }
  | _ => none }
def FnRatesWrongFalsely : Prop := fnRatesRow.holds Try.pinned (OpenSpec.ofChange fnRatesWrong)

/-- 'laws.FnOpened': WHATEVER THE INPUT: true; the input reads as it did. -/
def fnOpenedSpec : ChangeSpec := { name := "fnOpened", fn := fun _ => fun
  | [d] => { results := [.lit (.bool true)], args := [d] }
  | _ => none }
def fnOpenedRow : OpenClaim := { program := "ytpmloeneffolpaa", sum := "b37da9309170001fbfe450b01844cd082c1681de46d69fcb98ec78dc29b326cb", func := "loop.example/g00720/laws.FnOpened", spec := "fnOpened", apart := false }
def FnOpenedSaid : Prop := fnOpenedRow.holds Try.pinned (OpenSpec.ofChange fnOpenedSpec)

/-- ITS FALSE NEIGHBOUR: 'it returns false'. Refute it at one input. -/
def fnOpenedWrong : ChangeSpec := { name := "fnOpened", fn := fun _ => fun
  | [d] => { results := [.lit (.bool false)], args := [d] }
  | _ => none }
def FnOpenedWrongFalsely : Prop := fnOpenedRow.holds Try.pinned (OpenSpec.ofChange fnOpenedWrong)

/-- 'laws.FnExactOnAt': WHATEVER THE INPUT: true; the input reads as it did. -/
def fnExactOnAtSpec : ChangeSpec := { name := "fnExactOnAt", fn := fun _ => fun
  | [d1, d2, d3] => { results := [.lit (.bool true)], args := [d1, d2, d3] }
  | _ => none }
def fnExactOnAtRow : OpenClaim := { program := "ytpmloeneffolpaa", sum := "b37da9309170001fbfe450b01844cd082c1681de46d69fcb98ec78dc29b326cb", func := "loop.example/g00720/laws.FnExactOnAt", spec := "fnExactOnAt", apart := false }
def FnExactOnAtSaid : Prop := fnExactOnAtRow.holds Try.pinned (OpenSpec.ofChange fnExactOnAtSpec)

/-- ITS FALSE NEIGHBOUR: 'it returns false'. Refute it at one input. -/
def fnExactOnAtWrong : ChangeSpec := { name := "fnExactOnAt", fn := fun _ => fun
  | [d1, d2, d3] => { results := [.lit (.bool false)], args := [d1, d2, d3] }
  | _ => none }
def FnExactOnAtWrongFalsely : Prop := fnExactOnAtRow.holds Try.pinned (OpenSpec.ofChange fnExactOnAtWrong)

/-- 'laws.FnExactOpensAt': WHATEVER THE INPUT: true; the input reads as it did. -/
def fnExactOpensAtSpec : ChangeSpec := { name := "fnExactOpensAt", fn := fun _ => fun
  | [d1, d2, d3] => { results := [.lit (.bool true)], args := [d1, d2, d3] }
  | _ => none }
def fnExactOpensAtRow : OpenClaim := { program := "ytpmloeneffolpaa", sum := "b37da9309170001fbfe450b01844cd082c1681de46d69fcb98ec78dc29b326cb", func := "loop.example/g00720/laws.FnExactOpensAt", spec := "fnExactOpensAt", apart := false }
def FnExactOpensAtSaid : Prop := fnExactOpensAtRow.holds Try.pinned (OpenSpec.ofChange fnExactOpensAtSpec)

/-- ITS FALSE NEIGHBOUR: 'it returns false'. Refute it at one input. -/
def fnExactOpensAtWrong : ChangeSpec := { name := "fnExactOpensAt", fn := fun _ => fun
  | [d1, d2, d3] => { results := [.lit (.bool false)], args := [d1, d2, d3] }
  | _ => none }
def FnExactOpensAtWrongFalsely : Prop := fnExactOpensAtRow.holds Try.pinned (OpenSpec.ofChange fnExactOpensAtWrong)

/-- 'laws.FnExactOpenedIn': WHATEVER THE INPUT: true; the input reads as it did. -/
def fnExactOpenedInSpec : ChangeSpec := { name := "fnExactOpenedIn", fn := fun _ => fun
  | [d1, d2, d3] => { results := [.lit (.bool true)], args := [d1, d2, d3] }
  | _ => none }
def fnExactOpenedInRow : OpenClaim := { program := "ytpmloeneffolpaa", sum := "b37da9309170001fbfe450b01844cd082c1681de46d69fcb98ec78dc29b326cb", func := "loop.example/g00720/laws.FnExactOpenedIn", spec := "fnExactOpenedIn", apart := false }
def FnExactOpenedInSaid : Prop := fnExactOpenedInRow.holds Try.pinned (OpenSpec.ofChange fnExactOpenedInSpec)

/-- ITS FALSE NEIGHBOUR: 'it returns false'. Refute it at one input. -/
def fnExactOpenedInWrong : ChangeSpec := { name := "fnExactOpenedIn", fn := fun _ => fun
  | [d1, d2, d3] => { results := [.lit (.bool false)], args := [d1, d2, d3] }
  | _ => none }
def FnExactOpenedInWrongFalsely : Prop := fnExactOpenedInRow.holds Try.pinned (OpenSpec.ofChange fnExactOpenedInWrong)

/- THE SECOND FORM. 'bulk': how many values and letters a reading holds, each counted each time it is reached (what is shared counts as often as it is met; a slice's spare places count too). A statement '..UptoSaid' is the law's where the arguments, and the package variables that the reading takes, are together of bulk at most 1048576: NARROWER than '..Said'. Prove '..Said' where nothing that the law and all that it calls make is longer than what came in: it says more and counts as full. Else prove '..UptoSaid'. A law counts once. -/
mutual
def uptoBulk {H : Type} : DataW H → Nat
  | .lit (.string bytes) => bytes.length + 1
  | .lit _ => 1
  | .nil => 1
  | .ptr d => uptoBulk d + 1
  | .slice elems spare => uptoBulkAll elems + uptoBulkAll spare + 1
  | .agg parts => uptoBulkAll parts + 1
  | .iface _ d => uptoBulk d + 1
  | .map entries => uptoBulkEntries entries + 1
  | .held _ => 1
def uptoBulkAll {H : Type} : List (DataW H) → Nat
  | [] => 0
  | d :: r => uptoBulk d + uptoBulkAll r
def uptoBulkEntries {H : Type} : List (Lit × DataW H) → Nat
  | [] => 0
  | x :: r => uptoBulkEntry x + uptoBulkEntries r
def uptoBulkEntry {H : Type} : Lit × DataW H → Nat
  | (.string bytes, d) => bytes.length + uptoBulk d + 1
  | (_, d) => uptoBulk d + 1
 end
def uptoSmall : (H : Type) → List (DataW H) → Bool := fun _ ds => decide (uptoBulkAll ds ≤ 1048576)
def OpenSpec.upto (s : _root_.Go.ChangeSpec) : _root_.Go.OpenSpec := { _root_.Go.OpenSpec.ofChange s with cond := some uptoSmall }

/-- 'laws.FnRates', WHERE WHAT IT READS IS OF BULK AT MOST 1048576: true; the input reads as it did. -/
def fnRatesUptoRow : OpenClaim := { program := "ytpmloeneffolpaa", sum := "b37da9309170001fbfe450b01844cd082c1681de46d69fcb98ec78dc29b326cb", func := "loop.example/g00720/laws.FnRates", spec := "fnRates", apart := false, narrowed := true }
def FnRatesUptoSaid : Prop := fnRatesUptoRow.holds Try.pinned (OpenSpec.upto fnRatesSpec)

/-- 'laws.FnOpened', WHERE WHAT IT READS IS OF BULK AT MOST 1048576: true; the input reads as it did. -/
def fnOpenedUptoRow : OpenClaim := { program := "ytpmloeneffolpaa", sum := "b37da9309170001fbfe450b01844cd082c1681de46d69fcb98ec78dc29b326cb", func := "loop.example/g00720/laws.FnOpened", spec := "fnOpened", apart := false, narrowed := true }
def FnOpenedUptoSaid : Prop := fnOpenedUptoRow.holds Try.pinned (OpenSpec.upto fnOpenedSpec)

/-- 'laws.FnExactOnAt', WHERE WHAT IT READS IS OF BULK AT MOST 1048576: true; the input reads as it did. -/
def fnExactOnAtUptoRow : OpenClaim := { program := "ytpmloeneffolpaa", sum := "b37da9309170001fbfe450b01844cd082c1681de46d69fcb98ec78dc29b326cb", func := "loop.example/g00720/laws.FnExactOnAt", spec := "fnExactOnAt", apart := false, narrowed := true }
def FnExactOnAtUptoSaid : Prop := fnExactOnAtUptoRow.holds Try.pinned (OpenSpec.upto fnExactOnAtSpec)

/-- 'laws.FnExactOpensAt', WHERE WHAT IT READS IS OF BULK AT MOST 1048576: true; the input reads as it did. -/
def fnExactOpensAtUptoRow : OpenClaim := { program := "ytpmloeneffolpaa", sum := "b37da9309170001fbfe450b01844cd082c1681de46d69fcb98ec78dc29b326cb", func := "loop.example/g00720/laws.FnExactOpensAt", spec := "fnExactOpensAt", apart := false, narrowed := true }
def FnExactOpensAtUptoSaid : Prop := fnExactOpensAtUptoRow.holds Try.pinned (OpenSpec.upto fnExactOpensAtSpec)

/-- 'laws.FnExactOpenedIn', WHERE WHAT IT READS IS OF BULK AT MOST 1048576: true; the input reads as it did. -/
def fnExactOpenedInUptoRow : OpenClaim := { program := "ytpmloeneffolpaa", sum := "b37da9309170001fbfe450b01844cd082c1681de46d69fcb98ec78dc29b326cb", func := "loop.example/g00720/laws.FnExactOpenedIn", spec := "fnExactOpenedIn", apart := false, narrowed := true }
def FnExactOpenedInUptoSaid : Prop := fnExactOpenedInUptoRow.holds Try.pinned (OpenSpec.upto fnExactOpenedInSpec)

end Rows
end Go.Proofs.Ytpmloeneffolpaa
