/-
  DERIVED. GIVEN WITH THE SEED: THE CARDS: each row of YtnekojcgbokhpaaDoorRows.lean that lists a variable, with what it lists TIED to the program's text (the seventh form; the later family's looks); each row that meets fmt, with fmt's text TOLD by the authors' own Lean function (tested against real Go, not proved from fmt's source: count such statements apart). THE CARD IS WHAT COUNTS. Prove the row's statement (the work); the ties are given (YtnekojcgbokhpaaDoorTie.lean); close each card by the builder's one call (the guide's Derived/Test/ToyasCard.lean, 'card_holds'). Laid BY PROGRAM, IN A SANDBOX (cutbox-door.mjs). By AI agents, Wed Nov 11 2026. No macro, syntax, notation, axiom, sorry.
-/
import Derived.Test.YtnekojcgbokhpaaDoorRows
import GoSem.ClaimSeven
namespace Go.Proofs.YtnekojcgbokhpaaDoor
namespace Rows

/-- THE TIED CARD OF 'laws.FnBack'. -/
def fnBackCard : Claim7 := { stood := { row := fnBackRow, standIns := [], harness := (true, "0765508bf8f62ea6a5f9def16272eb41eb8d123de2a20e47e84fcbadcb39bc4a"), looks := true }, kinds := [], alts := [], laidByText := true, laidKinds := [.data, .sentinel, .sentinel, .sentinel, .sentinel], laidTests := true, laidLooks := .later }
def FnBackCardSaid : Prop := Claim7.holds Tryd.pinned (.plain (OpenSpec.ofChange fnBackSpec)) fnBackCard

/-- THE TIED CARD OF 'laws.FnBytesBack'. -/
def fnBytesBackCard : Claim7 := { stood := { row := fnBytesBackRow, standIns := [], harness := (true, "0765508bf8f62ea6a5f9def16272eb41eb8d123de2a20e47e84fcbadcb39bc4a"), looks := true }, kinds := [], alts := [], laidByText := true, laidKinds := [.data, .sentinel, .sentinel, .sentinel, .sentinel], laidTests := true, laidLooks := .later }
def FnBytesBackCardSaid : Prop := Claim7.holds Tryd.pinned (.plain (OpenSpec.ofChange fnBytesBackSpec)) fnBytesBackCard

/-- THE TIED CARD OF 'laws.FnExactCodeIn'. -/
def fnExactCodeInCard : Claim7 := { stood := { row := fnExactCodeInRow, standIns := [], harness := (true, "0765508bf8f62ea6a5f9def16272eb41eb8d123de2a20e47e84fcbadcb39bc4a"), looks := true }, kinds := [], alts := [], laidByText := true, laidKinds := [.data], laidTests := true, laidLooks := .later }
def FnExactCodeInCardSaid : Prop := Claim7.holds Tryd.pinned (.plain (OpenSpec.ofChange fnExactCodeInSpec)) fnExactCodeInCard

/-- THE SECOND FORM's CARD OF 'laws.FnBack'. -/
def fnBackUptoCard : Claim7 := { stood := { row := fnBackUptoRow, standIns := [], harness := (true, "0765508bf8f62ea6a5f9def16272eb41eb8d123de2a20e47e84fcbadcb39bc4a"), looks := true }, kinds := [], alts := [], laidByText := true, laidKinds := [.data, .sentinel, .sentinel, .sentinel, .sentinel], laidTests := true, laidLooks := .later }
def FnBackUptoCardSaid : Prop := Claim7.holds Tryd.pinned (.plain (OpenSpec.upto fnBackSpec)) fnBackUptoCard

/-- THE SECOND FORM's CARD OF 'laws.FnBytesBack'. -/
def fnBytesBackUptoCard : Claim7 := { stood := { row := fnBytesBackUptoRow, standIns := [], harness := (true, "0765508bf8f62ea6a5f9def16272eb41eb8d123de2a20e47e84fcbadcb39bc4a"), looks := true }, kinds := [], alts := [], laidByText := true, laidKinds := [.data, .sentinel, .sentinel, .sentinel, .sentinel], laidTests := true, laidLooks := .later }
def FnBytesBackUptoCardSaid : Prop := Claim7.holds Tryd.pinned (.plain (OpenSpec.upto fnBytesBackSpec)) fnBytesBackUptoCard

/-- THE SECOND FORM's CARD OF 'laws.FnExactCodeIn'. -/
def fnExactCodeInUptoCard : Claim7 := { stood := { row := fnExactCodeInUptoRow, standIns := [], harness := (true, "0765508bf8f62ea6a5f9def16272eb41eb8d123de2a20e47e84fcbadcb39bc4a"), looks := true }, kinds := [], alts := [], laidByText := true, laidKinds := [.data], laidTests := true, laidLooks := .later }
def FnExactCodeInUptoCardSaid : Prop := Claim7.holds Tryd.pinned (.plain (OpenSpec.upto fnExactCodeInSpec)) fnExactCodeInUptoCard
end Rows
end Go.Proofs.YtnekojcgbokhpaaDoor
