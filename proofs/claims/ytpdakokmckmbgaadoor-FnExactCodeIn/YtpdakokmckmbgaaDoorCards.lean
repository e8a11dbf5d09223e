/-
  DERIVED. GIVEN WITH THE SEED: THE CARDS: each row of YtpdakokmckmbgaaDoorRows.lean that lists a variable, with what it lists TIED to the program's text (the seventh form; the later family's looks); each row that meets fmt, with fmt's text TOLD by the authors' own Lean function (tested against real Go, not proved from fmt's source: count such statements apart). THE CARD IS WHAT COUNTS. Prove the row's statement (the work); the ties are given (YtpdakokmckmbgaaDoorTie.lean); close each card by the builder's one call (the guide's Derived/Test/ToyasCard.lean, 'card_holds'). Laid BY PROGRAM, IN A SANDBOX (cutbox-door.mjs). By AI agents, Wed Nov 11 2026. No macro, syntax, notation, axiom, sorry.
-/
import Derived.Test.YtpdakokmckmbgaaDoorRows
import GoSem.ClaimSeven
namespace Go.Proofs.YtpdakokmckmbgaaDoor
namespace Rows

/-- THE TIED CARD OF 'laws.FnExactCodeIn'. -/
def fnExactCodeInCard : Claim7 := { stood := { row := fnExactCodeInRow, standIns := [], harness := (true, "daaa499d8a344ff4ef713bce37aea0b60aadb5914f99555e21632bb2c6407674"), looks := false }, kinds := [], alts := [], laidByText := true, laidKinds := [.data], laidTests := true, laidLooks := .later }
def FnExactCodeInCardSaid : Prop := Claim7.holds Tryd.pinned (.plain (OpenSpec.ofChange fnExactCodeInSpec)) fnExactCodeInCard

/-- THE SECOND FORM's CARD OF 'laws.FnExactCodeIn'. -/
def fnExactCodeInUptoCard : Claim7 := { stood := { row := fnExactCodeInUptoRow, standIns := [], harness := (true, "daaa499d8a344ff4ef713bce37aea0b60aadb5914f99555e21632bb2c6407674"), looks := false }, kinds := [], alts := [], laidByText := true, laidKinds := [.data], laidTests := true, laidLooks := .later }
def FnExactCodeInUptoCardSaid : Prop := Claim7.holds Tryd.pinned (.plain (OpenSpec.upto fnExactCodeInSpec)) fnExactCodeInUptoCard
end Rows
end Go.Proofs.YtpdakokmckmbgaaDoor
