/-
  No cell of these rows narrows 'for every input' (looked for: loops, veiled, ifaces, maps, wideKeys, modest, calm, conditions, laid).
  DERIVED. THE GIVEN ROWS OF THIS SEAT. 9 by the template 'for every input the law returns true; each argument reads behind the call as it read before'; 0 by the template 'total and deterministic' (their statements: YteoalolkjfeeaaaTotals.lean).
  GIVEN WITH THE SEED: the statements are not yours to turn. If you find one false, say at which input.
  Laid BY PROGRAM, IN A SANDBOX (cutbox-rows.mjs): the forced cells as the released guide's own fill.sh prints them over the translation a7919fd927fb98b1… (all of the seat's roots in one cut). By AI agents, Wed Nov 11 2026. No macro, syntax, notation, axiom, sorry.
-/
import Derived.Test.YteoalolkjfeeaaaChecked
import GoSem.Claim
import GoSem.ClaimJoined
import GoSem.ClaimMapViews
import Derived.JoinedTies
import Derived.KernelRfl
namespace Go.Proofs.Yteoalolkjfeeaaa
/- THE CELL 'sum', in the pinned program and in every row, IS THE sha256 OF THE DUMP (.gsa) THAT YteoalolkjfeeaaaProg.lean LOADS. Nothing in Lean hashes anything: it is a label: what it is worth is what the hold of that sum in a sandbox is worth. -/
noncomputable def Try.pinned : Pinned := { name := "yteoalolkjfeeaaa", sum := "a7919fd927fb98b1b6647319e676eadb536ef09f09e9aafdcf34a898921b5533", checked := Try.checked }
namespace Rows
def none {H : Type} : Left H := { results := [], args := [] }

/-- 'laws.FnLeast': WHATEVER THE INPUT: true; the input reads as it did. -/
def fnLeastSpec : ChangeSpec := { name := "fnLeast", fn := fun _ => fun
  | [d] => { results := [.lit (.bool true)], args := [d] }
  | _ => none }
def fnLeastRow : OpenClaim := { program := "yteoalolkjfeeaaa", sum := "a7919fd927fb98b1b6647319e676eadb536ef09f09e9aafdcf34a898921b5533", func := "loop.example/g00720/laws.FnLeast", spec := "fnLeast", apart := false }
def FnLeastSaid : Prop := fnLeastRow.holds Try.pinned (OpenSpec.ofChange fnLeastSpec)

/-- ITS FALSE NEIGHBOUR: 'it returns false'. Refute it at one input. -/
def fnLeastWrong : ChangeSpec := { name := "fnLeast", fn := fun _ => fun
  | [d] => { results := [.lit (.bool false)], args := [d] }
  | _ => none }
def FnLeastWrongFalsely : Prop := fnLeastRow.holds Try.pinned (OpenSpec.ofChange fnLeastWrong)

/-- 'laws.FnEpoch': WHATEVER THE INPUT: true; the input reads as it did. -/
def fnEpochSpec : ChangeSpec := { name := "fnEpoch", fn := fun _ => fun
  | [d] => { results := [.lit (.bool true)], args := [d] }
  | _ => none }
def fnEpochRow : OpenClaim := { program := "yteoalolkjfeeaaa", sum := "a7919fd927fb98b1b6647319e676eadb536ef09f09e9aafdcf34a898921b5533", func := "loop.example/g00720/laws.FnEpoch", spec := "fnEpoch", apart := false }
def FnEpochSaid : Prop := fnEpochRow.holds Try.pinned (OpenSpec.ofChange fnEpochSpec)

/-- ITS FALSE NEIGHBOUR: 'it returns false'. Refute it at one input. -/
def fnEpochWrong : ChangeSpec := { name := "fnEpoch", fn := fun _ => fun
  | [d] => { results := [.lit (.bool false)], args := [d] }
  | _ => none }
def FnEpochWrongFalsely : Prop := fnEpochRow.holds Try.pinned (OpenSpec.ofChange fnEpochWrong)

/-- 'laws.FnExactClockOk': WHATEVER THE INPUT: true; the input reads as it did. -/
def fnExactClockOkSpec : ChangeSpec := { name := "fnExactClockOk", fn := fun _ => fun
  | [d] => { results := [.lit (.bool true)], args := [d] }
  | _ => none }
def fnExactClockOkRow : OpenClaim := { program := "yteoalolkjfeeaaa", sum := "a7919fd927fb98b1b6647319e676eadb536ef09f09e9aafdcf34a898921b5533", func := "loop.example/g00720/laws.FnExactClockOk", spec := "fnExactClockOk", apart := false }
def FnExactClockOkSaid : Prop := fnExactClockOkRow.holds Try.pinned (OpenSpec.ofChange fnExactClockOkSpec)

/-- ITS FALSE NEIGHBOUR: 'it returns false'. Refute it at one input. -/
def fnExactClockOkWrong : ChangeSpec := { name := "fnExactClockOk", fn := fun _ => fun
  | [d] => { results := [.lit (.bool false)], args := [d] }
  | _ => none }
def FnExactClockOkWrongFalsely : Prop := fnExactClockOkRow.holds Try.pinned (OpenSpec.ofChange fnExactClockOkWrong)

/-- 'laws.FnExactTickOf': WHATEVER THE INPUT: true; the input reads as it did. -/
def fnExactTickOfSpec : ChangeSpec := { name := "fnExactTickOf", fn := fun _ => fun
  | [d1, d2] => { results := [.lit (.bool true)], args := [d1, d2] }
  | _ => none }
def fnExactTickOfRow : OpenClaim := { program := "yteoalolkjfeeaaa", sum := "a7919fd927fb98b1b6647319e676eadb536ef09f09e9aafdcf34a898921b5533", func := "loop.example/g00720/laws.FnExactTickOf", spec := "fnExactTickOf", apart := false }
def FnExactTickOfSaid : Prop := fnExactTickOfRow.holds Try.pinned (OpenSpec.ofChange fnExactTickOfSpec)

/-- ITS FALSE NEIGHBOUR: 'it returns false'. Refute it at one input. -/
def fnExactTickOfWrong : ChangeSpec := { name := "fnExactTickOf", fn := fun _ => fun
  | [d1, d2] => { results := [.lit (.bool false)], args := [d1, d2] }
  | _ => none }
def FnExactTickOfWrongFalsely : Prop := fnExactTickOfRow.holds Try.pinned (OpenSpec.ofChange fnExactTickOfWrong)

/-- 'laws.FnExactJoinedClocks': WHATEVER THE INPUT: true; the input reads as it did. -/
def fnExactJoinedClocksSpec : ChangeSpec := { name := "fnExactJoinedClocks", fn := fun _ => fun
  | [d1, d2] => { results := [.lit (.bool true)], args := [d1, d2] }
  | _ => none }
def fnExactJoinedClocksRow : OpenClaim := { program := "yteoalolkjfeeaaa", sum := "a7919fd927fb98b1b6647319e676eadb536ef09f09e9aafdcf34a898921b5533", func := "loop.example/g00720/laws.FnExactJoinedClocks", spec := "fnExactJoinedClocks", apart := false }
def FnExactJoinedClocksSaid : Prop := fnExactJoinedClocksRow.holds Try.pinned (OpenSpec.ofChange fnExactJoinedClocksSpec)

/-- ITS FALSE NEIGHBOUR: 'it returns false'. Refute it at one input. -/
def fnExactJoinedClocksWrong : ChangeSpec := { name := "fnExactJoinedClocks", fn := fun _ => fun
  | [d1, d2] => { results := [.lit (.bool false)], args := [d1, d2] }
  | _ => none }
def FnExactJoinedClocksWrongFalsely : Prop := fnExactJoinedClocksRow.holds Try.pinned (OpenSpec.ofChange fnExactJoinedClocksWrong)

/-- 'laws.FnExactUnder': WHATEVER THE INPUT: true; the input reads as it did. -/
def fnExactUnderSpec : ChangeSpec := { name := "fnExactUnder", fn := fun _ => fun
  | [d1, d2] => { results := [.lit (.bool true)], args := [d1, d2] }
  | _ => none }
def fnExactUnderRow : OpenClaim := { program := "yteoalolkjfeeaaa", sum := "a7919fd927fb98b1b6647319e676eadb536ef09f09e9aafdcf34a898921b5533", func := "loop.example/g00720/laws.FnExactUnder", spec := "fnExactUnder", apart := false }
def FnExactUnderSaid : Prop := fnExactUnderRow.holds Try.pinned (OpenSpec.ofChange fnExactUnderSpec)

/-- ITS FALSE NEIGHBOUR: 'it returns false'. Refute it at one input. -/
def fnExactUnderWrong : ChangeSpec := { name := "fnExactUnder", fn := fun _ => fun
  | [d1, d2] => { results := [.lit (.bool false)], args := [d1, d2] }
  | _ => none }
def FnExactUnderWrongFalsely : Prop := fnExactUnderRow.holds Try.pinned (OpenSpec.ofChange fnExactUnderWrong)

/-- 'laws.FnExactTicked': WHATEVER THE INPUT: true; the input reads as it did. -/
def fnExactTickedSpec : ChangeSpec := { name := "fnExactTicked", fn := fun _ => fun
  | [d1, d2] => { results := [.lit (.bool true)], args := [d1, d2] }
  | _ => none }
def fnExactTickedRow : OpenClaim := { program := "yteoalolkjfeeaaa", sum := "a7919fd927fb98b1b6647319e676eadb536ef09f09e9aafdcf34a898921b5533", func := "loop.example/g00720/laws.FnExactTicked", spec := "fnExactTicked", apart := false }
def FnExactTickedSaid : Prop := fnExactTickedRow.holds Try.pinned (OpenSpec.ofChange fnExactTickedSpec)

/-- ITS FALSE NEIGHBOUR: 'it returns false'. Refute it at one input. -/
def fnExactTickedWrong : ChangeSpec := { name := "fnExactTicked", fn := fun _ => fun
  | [d1, d2] => { results := [.lit (.bool false)], args := [d1, d2] }
  | _ => none }
def FnExactTickedWrongFalsely : Prop := fnExactTickedRow.holds Try.pinned (OpenSpec.ofChange fnExactTickedWrong)

/-- 'laws.FnExactPackEpoch': WHATEVER THE INPUT: true; the input reads as it did. -/
def fnExactPackEpochSpec : ChangeSpec := { name := "fnExactPackEpoch", fn := fun _ => fun
  | [d1, d2] => { results := [.lit (.bool true)], args := [d1, d2] }
  | _ => none }
def fnExactPackEpochRow : OpenClaim := { program := "yteoalolkjfeeaaa", sum := "a7919fd927fb98b1b6647319e676eadb536ef09f09e9aafdcf34a898921b5533", func := "loop.example/g00720/laws.FnExactPackEpoch", spec := "fnExactPackEpoch", apart := false }
def FnExactPackEpochSaid : Prop := fnExactPackEpochRow.holds Try.pinned (OpenSpec.ofChange fnExactPackEpochSpec)

/-- ITS FALSE NEIGHBOUR: 'it returns false'. Refute it at one input. -/
def fnExactPackEpochWrong : ChangeSpec := { name := "fnExactPackEpoch", fn := fun _ => fun
  | [d1, d2] => { results := [.lit (.bool false)], args := [d1, d2] }
  | _ => none }
def FnExactPackEpochWrongFalsely : Prop := fnExactPackEpochRow.holds Try.pinned (OpenSpec.ofChange fnExactPackEpochWrong)

/-- 'laws.FnExactUnpackEpoch': WHATEVER THE INPUT: true; the input reads as it did. -/
def fnExactUnpackEpochSpec : ChangeSpec := { name := "fnExactUnpackEpoch", fn := fun _ => fun
  | [d] => { results := [.lit (.bool true)], args := [d] }
  | _ => none }
def fnExactUnpackEpochRow : OpenClaim := { program := "yteoalolkjfeeaaa", sum := "a7919fd927fb98b1b6647319e676eadb536ef09f09e9aafdcf34a898921b5533", func := "loop.example/g00720/laws.FnExactUnpackEpoch", spec := "fnExactUnpackEpoch", apart := false }
def FnExactUnpackEpochSaid : Prop := fnExactUnpackEpochRow.holds Try.pinned (OpenSpec.ofChange fnExactUnpackEpochSpec)

/-- ITS FALSE NEIGHBOUR: 'it returns false'. Refute it at one input. -/
def fnExactUnpackEpochWrong : ChangeSpec := { name := "fnExactUnpackEpoch", fn := fun _ => fun
  | [d] => { results := [.lit (.bool false)], args := [d] }
  | _ => none }
def FnExactUnpackEpochWrongFalsely : Prop := fnExactUnpackEpochRow.holds Try.pinned (OpenSpec.ofChange fnExactUnpackEpochWrong)

/- THE SECOND FORM. 'bulk': how many values and letters a reading holds, each counted each time it is reached (what is shared counts as often as it is met; a slice's spare places count too). A statement '..UptoSaid' is the law's where the arguments, and the package variables that the reading takes, are together of bulk at most 1048576: NARROWER than '..Said'. Prove '..Said' where nothing that the law and all that it calls make is longer than what came in: it says more and counts as full. Else prove '..UptoSaid'. A law counts once. -/
mutual
def uptoBulk {H : Type} : DataW H → Nat
  | .lit (.string bytes) => bytes.length + 1
  | .lit _ => 1
  | .nil => 1
  | .ptr d => uptoBulk d + 1
  | .slice elems spare => uptoBulkAll elems + uptoBulkAll spare + 1
  | .agg parts => uptoBulkAll parts + 1
  | .iface _ d => uptoBulk d + 1
  | .map entries => uptoBulkEntries entries + 1
  | .held _ => 1
def uptoBulkAll {H : Type} : List (DataW H) → Nat
  | [] => 0
  | d :: r => uptoBulk d + uptoBulkAll r
def uptoBulkEntries {H : Type} : List (Lit × DataW H) → Nat
  | [] => 0
  | x :: r => uptoBulkEntry x + uptoBulkEntries r
def uptoBulkEntry {H : Type} : Lit × DataW H → Nat
  | (.string bytes, d) => bytes.length + uptoBulk d + 1
  | (_, d) => uptoBulk d + 1
 end
def uptoSmall : (H : Type) → List (DataW H) → Bool := fun _ ds => decide (uptoBulkAll ds ≤ 1048576)
def OpenSpec.upto (s : _root_.Go.ChangeSpec) : _root_.Go.OpenSpec := { _root_.Go.OpenSpec.ofChange s with cond := some uptoSmall }

/-- 'laws.FnLeast', WHERE WHAT IT READS IS OF BULK AT MOST 1048576: true; the input reads as it did. -/
def fnLeastUptoRow : OpenClaim := { program := "yteoalolkjfeeaaa", sum := "a7919fd927fb98b1b6647319e676eadb536ef09f09e9aafdcf34a898921b5533", func := "loop.example/g00720/laws.FnLeast", spec := "fnLeast", apart := false, narrowed := true }
def FnLeastUptoSaid : Prop := fnLeastUptoRow.holds Try.pinned (OpenSpec.upto fnLeastSpec)

/-- 'laws.FnEpoch', WHERE WHAT IT READS IS OF BULK AT MOST 1048576: true; the input reads as it did. -/
def fnEpochUptoRow : OpenClaim := { program := "yteoalolkjfeeaaa", sum := "a7919fd927fb98b1b6647319e676eadb536ef09f09e9aafdcf34a898921b5533", func := "loop.example/g00720/laws.FnEpoch", spec := "fnEpoch", apart := false, narrowed := true }
def FnEpochUptoSaid : Prop := fnEpochUptoRow.holds Try.pinned (OpenSpec.upto fnEpochSpec)

/-- 'laws.FnExactClockOk', WHERE WHAT IT READS IS OF BULK AT MOST 1048576: true; the input reads as it did. -/
def fnExactClockOkUptoRow : OpenClaim := { program := "yteoalolkjfeeaaa", sum := "a7919fd927fb98b1b6647319e676eadb536ef09f09e9aafdcf34a898921b5533", func := "loop.example/g00720/laws.FnExactClockOk", spec := "fnExactClockOk", apart := false, narrowed := true }
def FnExactClockOkUptoSaid : Prop := fnExactClockOkUptoRow.holds Try.pinned (OpenSpec.upto fnExactClockOkSpec)

/-- 'laws.FnExactTickOf', WHERE WHAT IT READS IS OF BULK AT MOST 1048576: true; the input reads as it did. -/
def fnExactTickOfUptoRow : OpenClaim := { program := "yteoalolkjfeeaaa", sum := "a7919fd927fb98b1b6647319e676eadb536ef09f09e9aafdcf34a898921b5533", func := "loop.example/g00720/laws.FnExactTickOf", spec := "fnExactTickOf", apart := false, narrowed := true }
def FnExactTickOfUptoSaid : Prop := fnExactTickOfUptoRow.holds Try.pinned (OpenSpec.upto fnExactTickOfSpec)

/-- 'laws.FnExactJoinedClocks', WHERE WHAT IT READS IS OF BULK AT MOST 1048576: true; the input reads as it did. -/
def fnExactJoinedClocksUptoRow : OpenClaim := { program := "yteoalolkjfeeaaa", sum := "a7919fd927fb98b1b6647319e676eadb536ef09f09e9aafdcf34a898921b5533", func := "loop.example/g00720/laws.FnExactJoinedClocks", spec := "fnExactJoinedClocks", apart := false, narrowed := true }
def FnExactJoinedClocksUptoSaid : Prop := fnExactJoinedClocksUptoRow.holds Try.pinned (OpenSpec.upto fnExactJoinedClocksSpec)

/-- 'laws.FnExactUnder', WHERE WHAT IT READS IS OF BULK AT MOST 1048576: true; the input reads as it did. -/
def fnExactUnderUptoRow : OpenClaim := { program := "yteoalolkjfeeaaa", sum := "a7919fd927fb98b1b6647319e676eadb536ef09f09e9aafdcf34a898921b5533", func := "loop.example/g00720/laws.FnExactUnder", spec := "fnExactUnder", apart := false, narrowed := true }
def FnExactUnderUptoSaid : Prop := fnExactUnderUptoRow.holds Try.pinned (OpenSpec.upto fnExactUnderSpec)

/-- 'laws.FnExactTicked', WHERE WHAT IT READS IS OF BULK AT MOST 1048576: true; the input reads as it did. -/
def fnExactTickedUptoRow : OpenClaim := { program := "yteoalolkjfeeaaa", sum := "a7919fd927fb98b1b6647319e676eadb536ef09f09e9aafdcf34a898921b5533", func := "loop.example/g00720/laws.FnExactTicked", spec := "fnExactTicked", apart := false, narrowed := true }
def FnExactTickedUptoSaid : Prop := fnExactTickedUptoRow.holds Try.pinned (OpenSpec.upto fnExactTickedSpec)

/-- 'laws.FnExactPackEpoch', WHERE WHAT IT READS IS OF BULK AT MOST 1048576: true; the input reads as it did. -/
def fnExactPackEpochUptoRow : OpenClaim := { program := "yteoalolkjfeeaaa", sum := "a7919fd927fb98b1b6647319e676eadb536ef09f09e9aafdcf34a898921b5533", func := "loop.example/g00720/laws.FnExactPackEpoch", spec := "fnExactPackEpoch", apart := false, narrowed := true }
def FnExactPackEpochUptoSaid : Prop := fnExactPackEpochUptoRow.holds Try.pinned (OpenSpec.upto fnExactPackEpochSpec)

/-- 'laws.FnExactUnpackEpoch', WHERE WHAT IT READS IS OF BULK AT MOST 1048576: true; the input reads as it did. -/
def fnExactUnpackEpochUptoRow : OpenClaim := { program := "yteoalolkjfeeaaa", sum := "a7919fd927fb98b1b6647319e676eadb536ef09f09e9aafdcf34a898921b5533", func := "loop.example/g00720/laws.FnExactUnpackEpoch", spec := "fnExactUnpackEpoch", apart := false, narrowed := true }
def FnExactUnpackEpochUptoSaid : Prop := fnExactUnpackEpochUptoRow.holds Try.pinned (OpenSpec.upto fnExactUnpackEpochSpec)

end Rows
end Go.Proofs.Yteoalolkjfeeaaa
