/-
  DERIVED. GIVEN WITH THE SEED: THE CARDS: each row of YtikjodbboljhjaaDoorRows.lean that lists a variable, with what it lists TIED to the program's text (the seventh form; the later family's looks); each row that meets fmt, with fmt's text TOLD by the authors' own Lean function (tested against real Go, not proved from fmt's source: count such statements apart). THE CARD IS WHAT COUNTS. Prove the row's statement (the work); the ties are given (YtikjodbboljhjaaDoorTie.lean); close each card by the builder's one call (the guide's Derived/Test/ToyasCard.lean, 'card_holds'). Laid BY PROGRAM, IN A SANDBOX (cutbox-door.mjs). By AI agents, Wed Nov 11 2026. No macro, syntax, notation, axiom, sorry.
-/
import Derived.Test.YtikjodbboljhjaaDoorRows
import GoSem.ClaimSeven
namespace Go.Proofs.YtikjodbboljhjaaDoor
namespace Rows

/-- THE TIED CARD OF 'laws.FnExactLegalLen'. -/
def fnExactLegalLenCard : Claim7 := { stood := { row := fnExactLegalLenRow, standIns := [], harness := (true, "7faf27987f84c0e751e23f82de987018259a28f3e2d6744954f34e3b61c66c5c"), looks := false }, kinds := [], alts := [], laidByText := true, laidKinds := [.data], laidTests := true, laidLooks := .later }
def FnExactLegalLenCardSaid : Prop := Claim7.holds Tryd.pinned (.plain (OpenSpec.ofChange fnExactLegalLenSpec)) fnExactLegalLenCard

/-- THE TIED CARD OF 'laws.FnExactCodeOf'. -/
def fnExactCodeOfCard : Claim7 := { stood := { row := fnExactCodeOfRow, standIns := [], harness := (true, "7faf27987f84c0e751e23f82de987018259a28f3e2d6744954f34e3b61c66c5c"), looks := false }, kinds := [], alts := [], laidByText := true, laidKinds := [.data], laidTests := true, laidLooks := .later }
def FnExactCodeOfCardSaid : Prop := Claim7.holds Tryd.pinned (.plain (OpenSpec.ofChange fnExactCodeOfSpec)) fnExactCodeOfCard

/-- THE SECOND FORM's CARD OF 'laws.FnExactLegalLen'. -/
def fnExactLegalLenUptoCard : Claim7 := { stood := { row := fnExactLegalLenUptoRow, standIns := [], harness := (true, "7faf27987f84c0e751e23f82de987018259a28f3e2d6744954f34e3b61c66c5c"), looks := false }, kinds := [], alts := [], laidByText := true, laidKinds := [.data], laidTests := true, laidLooks := .later }
def FnExactLegalLenUptoCardSaid : Prop := Claim7.holds Tryd.pinned (.plain (OpenSpec.upto fnExactLegalLenSpec)) fnExactLegalLenUptoCard

/-- THE SECOND FORM's CARD OF 'laws.FnExactCodeOf'. -/
def fnExactCodeOfUptoCard : Claim7 := { stood := { row := fnExactCodeOfUptoRow, standIns := [], harness := (true, "7faf27987f84c0e751e23f82de987018259a28f3e2d6744954f34e3b61c66c5c"), looks := false }, kinds := [], alts := [], laidByText := true, laidKinds := [.data], laidTests := true, laidLooks := .later }
def FnExactCodeOfUptoCardSaid : Prop := Claim7.holds Tryd.pinned (.plain (OpenSpec.upto fnExactCodeOfSpec)) fnExactCodeOfUptoCard
end Rows
end Go.Proofs.YtikjodbboljhjaaDoor
