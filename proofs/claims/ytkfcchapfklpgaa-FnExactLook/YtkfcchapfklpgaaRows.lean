/-
  No cell of these rows narrows 'for every input' (looked for: loops, veiled, ifaces, maps, wideKeys, modest, calm, conditions, laid).
  DERIVED. THE GIVEN ROWS OF THIS SEAT. 3 by the template 'for every input the law returns true; each argument reads behind the call as it read before'; 0 by the template 'total and deterministic' (their statements: YtkfcchapfklpgaaTotals.lean).
  GIVEN WITH THE SEED: the statements are not yours to turn. If you find one false, say at which input.
  Laid BY PROGRAM, IN A SANDBOX (cutbox-rows.mjs): the forced cells as the released guide's own fill.sh prints them over the translation afba6173e3e34c96… (all of the seat's roots in one cut). By AI agents, Wed Nov 11 2026. No macro, syntax, notation, axiom, sorry.
-/
import Derived.Test.YtkfcchapfklpgaaChecked
import GoSem.Claim
import GoSem.ClaimJoined
import GoSem.ClaimMapViews
import Derived.JoinedTies
import Derived.KernelRfl
namespace Go.Proofs.Ytkfcchapfklpgaa
/- THE CELL 'sum', in the pinned program and in every row, IS THE sha256 OF THE DUMP (.gsa) THAT YtkfcchapfklpgaaProg.lean LOADS. Nothing in Lean hashes anything: it is a label: what it is worth is what the hold of that sum in a sandbox is worth. -/
noncomputable def Try.pinned : Pinned := { name := "ytkfcchapfklpgaa", sum := "afba6173e3e34c96dbff7905e7f71e3f1a5a64813d0a51c366d64cfdd598d513", checked := Try.checked }
namespace Rows
def none {H : Type} : Left H := { results := [], args := [] }

/-- 'laws.FnExactSamplerOk': WHATEVER THE INPUT: true; the input reads as it did. -/
def fnExactSamplerOkSpec : ChangeSpec := { name := "fnExactSamplerOk", fn := fun _ => fun
  | [d1, d2] => { results := [.lit (.bool true)], args := [d1, d2] }
  | _ => none }
def fnExactSamplerOkRow : OpenClaim := { program := "ytkfcchapfklpgaa", sum := "afba6173e3e34c96dbff7905e7f71e3f1a5a64813d0a51c366d64cfdd598d513", func := "loop.example/g00720/laws.FnExactSamplerOk", spec := "fnExactSamplerOk", plainKeys := false, apart := false }
def FnExactSamplerOkSaid : Prop := fnExactSamplerOkRow.holds Try.pinned (OpenSpec.ofChange fnExactSamplerOkSpec)

/-- ITS FALSE NEIGHBOUR: 'it returns false'. Refute it at one input. -/
def fnExactSamplerOkWrong : ChangeSpec := { name := "fnExactSamplerOk", fn := fun _ => fun
  | [d1, d2] => { results := [.lit (.bool false)], args := [d1, d2] }
  | _ => none }
def FnExactSamplerOkWrongFalsely : Prop := fnExactSamplerOkRow.holds Try.pinned (OpenSpec.ofChange fnExactSamplerOkWrong)

/-- 'laws.FnExactNewSampler': WHATEVER THE INPUT: true; the input reads as it did. -/
def fnExactNewSamplerSpec : ChangeSpec := { name := "fnExactNewSampler", fn := fun _ => fun
  | [] => { results := [.lit (.bool true)], args := [] }
  | _ => none }
def fnExactNewSamplerRow : OpenClaim := { program := "ytkfcchapfklpgaa", sum := "afba6173e3e34c96dbff7905e7f71e3f1a5a64813d0a51c366d64cfdd598d513", func := "loop.example/g00720/laws.FnExactNewSampler", spec := "fnExactNewSampler", plainKeys := false, apart := false }
def FnExactNewSamplerSaid : Prop := fnExactNewSamplerRow.holds Try.pinned (OpenSpec.ofChange fnExactNewSamplerSpec)

/-- ITS FALSE NEIGHBOUR: 'it returns false'. Refute it at one input. -/
def fnExactNewSamplerWrong : ChangeSpec := { name := "fnExactNewSampler", fn := fun _ => fun
  | [] => { results := [.lit (.bool false)], args := [] }
  | _ => none }
def FnExactNewSamplerWrongFalsely : Prop := fnExactNewSamplerRow.holds Try.pinned (OpenSpec.ofChange fnExactNewSamplerWrong)

/-- 'laws.FnExactLook': WHATEVER THE INPUT: true; the input reads as it did. -/
def fnExactLookSpec : ChangeSpec := { name := "fnExactLook", fn := fun _ => fun
  | [d1, d2, d3, d4, d5, d6] => { results := [.lit (.bool true)], args := [d1, d2, d3, d4, d5, d6] }
  | _ => none }
def fnExactLookRow : OpenClaim := { program := "ytkfcchapfklpgaa", sum := "afba6173e3e34c96dbff7905e7f71e3f1a5a64813d0a51c366d64cfdd598d513", func := "loop.example/g00720/laws.FnExactLook", spec := "fnExactLook", unfollowed := true, recurses := true, plainKeys := false, apart := false }
def FnExactLookSaid : Prop := fnExactLookRow.holds Try.pinned (OpenSpec.ofChange fnExactLookSpec)

/-- ITS FALSE NEIGHBOUR: 'it returns false'. Refute it at one input. -/
def fnExactLookWrong : ChangeSpec := { name := "fnExactLook", fn := fun _ => fun
  | [d1, d2, d3, d4, d5, d6] => { results := [.lit (.bool false)], args := [d1, d2, d3, d4, d5, d6] }
  | _ => none }
def FnExactLookWrongFalsely : Prop := fnExactLookRow.holds Try.pinned (OpenSpec.ofChange fnExactLookWrong)

/- THE SECOND FORM. 'bulk': how many values and letters a reading holds, each counted each time it is reached (what is shared counts as often as it is met; a slice's spare places count too). A statement '..UptoSaid' is the law's where the arguments, and the package variables that the reading takes, are together of bulk at most 1048576: NARROWER than '..Said'. Prove '..Said' where nothing that the law and all that it calls make is longer than what came in: it says more and counts as full. Else prove '..UptoSaid'. A law counts once. -/
mutual
def uptoBulk {H : Type} : DataW H → Nat
  | .lit (.string bytes) => bytes.length + 1
  | .lit _ => 1
  | .nil => 1
  | .ptr d => uptoBulk d + 1
  | .slice elems spare => uptoBulkAll elems + uptoBulkAll spare + 1
  | .agg parts => uptoBulkAll parts + 1
  | .iface _ d => uptoBulk d + 1
  | .map entries => uptoBulkEntries entries + 1
  | .held _ => 1
def uptoBulkAll {H : Type} : List (DataW H) → Nat
  | [] => 0
  | d :: r => uptoBulk d + uptoBulkAll r
def uptoBulkEntries {H : Type} : List (Lit × DataW H) → Nat
  | [] => 0
  | x :: r => uptoBulkEntry x + uptoBulkEntries r
def uptoBulkEntry {H : Type} : Lit × DataW H → Nat
  | (.string bytes, d) => bytes.length + uptoBulk d + 1
  | (_, d) => uptoBulk d + 1
 end
def uptoSmall : (H : Type) → List (DataW H) → Bool := fun _ ds => decide (uptoBulkAll ds ≤ 1048576)
def OpenSpec.upto (s : _root_.Go.ChangeSpec) : _root_.Go.OpenSpec := { _root_.Go.OpenSpec.ofChange s with cond := some uptoSmall }

/-- 'laws.FnExactSamplerOk', WHERE WHAT IT READS IS OF BULK AT MOST 1048576: true; the input reads as it did. -/
def fnExactSamplerOkUptoRow : OpenClaim := { program := "ytkfcchapfklpgaa", sum := "afba6173e3e34c96dbff7905e7f71e3f1a5a64813d0a51c366d64cfdd598d513", func := "loop.example/g00720/laws.FnExactSamplerOk", spec := "fnExactSamplerOk", plainKeys := false, apart := false, narrowed := true }
def FnExactSamplerOkUptoSaid : Prop := fnExactSamplerOkUptoRow.holds Try.pinned (OpenSpec.upto fnExactSamplerOkSpec)

/-- 'laws.FnExactNewSampler', WHERE WHAT IT READS IS OF BULK AT MOST 1048576: true; the input reads as it did. -/
def fnExactNewSamplerUptoRow : OpenClaim := { program := "ytkfcchapfklpgaa", sum := "afba6173e3e34c96dbff7905e7f71e3f1a5a64813d0a51c366d64cfdd598d513", func := "loop.example/g00720/laws.FnExactNewSampler", spec := "fnExactNewSampler", plainKeys := false, apart := false, narrowed := true }
def FnExactNewSamplerUptoSaid : Prop := fnExactNewSamplerUptoRow.holds Try.pinned (OpenSpec.upto fnExactNewSamplerSpec)

/-- 'laws.FnExactLook', WHERE WHAT IT READS IS OF BULK AT MOST 1048576: true; the input reads as it did. -/
def fnExactLookUptoRow : OpenClaim := { program := "ytkfcchapfklpgaa", sum := "afba6173e3e34c96dbff7905e7f71e3f1a5a64813d0a51c366d64cfdd598d513", func := "loop.example/g00720/laws.FnExactLook", spec := "fnExactLook", unfollowed := true, recurses := true, plainKeys := false, apart := false, narrowed := true }
def FnExactLookUptoSaid : Prop := fnExactLookUptoRow.holds Try.pinned (OpenSpec.upto fnExactLookSpec)

end Rows
end Go.Proofs.Ytkfcchapfklpgaa
