/-
  DERIVED. GIVEN WITH THE SEED: THE CARDS: each row of YtihdablgnmkjnaaDoorRows.lean that lists a variable, with what it lists TIED to the program's text (the seventh form; the later family's looks); each row that meets fmt, with fmt's text TOLD by the authors' own Lean function (tested against real Go, not proved from fmt's source: count such statements apart). THE CARD IS WHAT COUNTS. Prove the row's statement (the work); the ties are given (YtihdablgnmkjnaaDoorTie.lean); close each card by the builder's one call (the guide's Derived/Test/ToyasCard.lean, 'card_holds'). Laid BY PROGRAM, IN A SANDBOX (cutbox-door.mjs). By AI agents, Wed Nov 11 2026. No macro, syntax, notation, axiom, sorry.
-/
import Derived.Test.YtihdablgnmkjnaaDoorRows
import GoSem.ClaimSeven
namespace Go.Proofs.YtihdablgnmkjnaaDoor
namespace Rows

/-- THE TIED CARD OF 'laws.FnExactGorsOf'. -/
def fnExactGorsOfCard : Claim7 := { stood := { row := fnExactGorsOfRow, standIns := [], harness := (true, "07aa6c1665bf20b9162957d72534081ea0b0b31ba54f9be3cd63bd2de0734b7c"), looks := false }, kinds := [], alts := [], laidByText := true, laidKinds := [.data], laidTests := true, laidLooks := .later }
def FnExactGorsOfCardSaid : Prop := Claim7.holds Tryd.pinned (.plain (OpenSpec.ofChange fnExactGorsOfSpec)) fnExactGorsOfCard

/-- THE SECOND FORM's CARD OF 'laws.FnExactGorsOf'. -/
def fnExactGorsOfUptoCard : Claim7 := { stood := { row := fnExactGorsOfUptoRow, standIns := [], harness := (true, "07aa6c1665bf20b9162957d72534081ea0b0b31ba54f9be3cd63bd2de0734b7c"), looks := false }, kinds := [], alts := [], laidByText := true, laidKinds := [.data], laidTests := true, laidLooks := .later }
def FnExactGorsOfUptoCardSaid : Prop := Claim7.holds Tryd.pinned (.plain (OpenSpec.upto fnExactGorsOfSpec)) fnExactGorsOfUptoCard
end Rows
end Go.Proofs.YtihdablgnmkjnaaDoor
