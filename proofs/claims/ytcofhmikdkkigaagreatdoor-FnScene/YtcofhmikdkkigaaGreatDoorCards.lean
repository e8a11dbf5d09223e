/-
  DERIVED. GIVEN WITH THE SEED: THE CARDS: each row of YtcofhmikdkkigaaGreatDoorRows.lean that lists a variable, with what it lists TIED to the program's text (the seventh form; the later family's looks); each row that meets fmt, with fmt's text TOLD by the authors' own Lean function (tested against real Go, not proved from fmt's source: count such statements apart). THE CARD IS WHAT COUNTS. Prove the row's statement (the work); the ties are given (YtcofhmikdkkigaaGreatDoorTie.lean); close each card by the builder's one call (the guide's Derived/Test/ToyasCard.lean, 'card_holds'). Laid BY PROGRAM, IN A SANDBOX (cutbox-door.mjs). By AI agents, Wed Nov 11 2026. No macro, syntax, notation, axiom, sorry.
-/
import Derived.Test.YtcofhmikdkkigaaGreatDoorRows
import GoSem.ClaimSeven
namespace Go.Proofs.YtcofhmikdkkigaaGreatDoor
namespace Rows

/-- THE TIED CARD OF 'laws.FnScene'. -/
def fnSceneCard : Claim7 := { stood := { row := fnSceneRow, standIns := [], harness := (true, "7639dd462047ea84c6becf31013f2a594706809ba1d62cbc5edc796178d488a3"), looks := false }, kinds := [], alts := [], laidByText := true, laidKinds := [.data], laidTests := true, laidLooks := .later }
def FnSceneCardSaid : Prop := Claim7.holds Tryz.pinned (.plain (OpenSpec.ofChange fnSceneSpec)) fnSceneCard

/-- THE TIED CARD OF 'laws.FnRaces'. -/
def fnRacesCard : Claim7 := { stood := { row := fnRacesRow, standIns := [], harness := (true, "7639dd462047ea84c6becf31013f2a594706809ba1d62cbc5edc796178d488a3"), looks := false }, kinds := [], alts := [], laidByText := true, laidKinds := [.data], laidTests := true, laidLooks := .later }
def FnRacesCardSaid : Prop := Claim7.holds Tryz.pinned (.plain (OpenSpec.ofChange fnRacesSpec)) fnRacesCard

/-- THE TIED CARD OF 'laws.FnShortThere'. -/
def fnShortThereCard : Claim7 := { stood := { row := fnShortThereRow, standIns := [], harness := (true, "7639dd462047ea84c6becf31013f2a594706809ba1d62cbc5edc796178d488a3"), looks := false }, kinds := [], alts := [], laidByText := true, laidKinds := [.data], laidTests := true, laidLooks := .later }
def FnShortThereCardSaid : Prop := Claim7.holds Tryz.pinned (.plain (OpenSpec.ofChange fnShortThereSpec)) fnShortThereCard

/-- THE TIED CARD OF 'laws.FnExactBeforesOf'. -/
def fnExactBeforesOfCard : Claim7 := { stood := { row := fnExactBeforesOfRow, standIns := [], harness := (true, "7639dd462047ea84c6becf31013f2a594706809ba1d62cbc5edc796178d488a3"), looks := false }, kinds := [], alts := [], laidByText := true, laidKinds := [.data, .data], laidTests := true, laidLooks := .later }
def FnExactBeforesOfCardSaid : Prop := Claim7.holds Tryz.pinned (.plain (OpenSpec.ofChange fnExactBeforesOfSpec)) fnExactBeforesOfCard

/-- THE TIED CARD OF 'laws.FnExactIsRace'. -/
def fnExactIsRaceCard : Claim7 := { stood := { row := fnExactIsRaceRow, standIns := [], harness := (true, "7639dd462047ea84c6becf31013f2a594706809ba1d62cbc5edc796178d488a3"), looks := false }, kinds := [], alts := [], laidByText := true, laidKinds := [.data], laidTests := true, laidLooks := .later }
def FnExactIsRaceCardSaid : Prop := Claim7.holds Tryz.pinned (.plain (OpenSpec.ofChange fnExactIsRaceSpec)) fnExactIsRaceCard

/-- THE TIED CARD OF 'laws.FnExactRacesIn'. -/
def fnExactRacesInCard : Claim7 := { stood := { row := fnExactRacesInRow, standIns := [], harness := (true, "7639dd462047ea84c6becf31013f2a594706809ba1d62cbc5edc796178d488a3"), looks := false }, kinds := [], alts := [], laidByText := true, laidKinds := [.data], laidTests := true, laidLooks := .later }
def FnExactRacesInCardSaid : Prop := Claim7.holds Tryz.pinned (.plain (OpenSpec.ofChange fnExactRacesInSpec)) fnExactRacesInCard

/-- THE TIED CARD OF 'laws.FnExactIsShort'. -/
def fnExactIsShortCard : Claim7 := { stood := { row := fnExactIsShortRow, standIns := [], harness := (true, "7639dd462047ea84c6becf31013f2a594706809ba1d62cbc5edc796178d488a3"), looks := false }, kinds := [], alts := [], laidByText := true, laidKinds := [.data], laidTests := true, laidLooks := .later }
def FnExactIsShortCardSaid : Prop := Claim7.holds Tryz.pinned (.plain (OpenSpec.ofChange fnExactIsShortSpec)) fnExactIsShortCard

/-- THE TIED CARD OF 'laws.FnExactShortIn'. -/
def fnExactShortInCard : Claim7 := { stood := { row := fnExactShortInRow, standIns := [], harness := (true, "7639dd462047ea84c6becf31013f2a594706809ba1d62cbc5edc796178d488a3"), looks := false }, kinds := [], alts := [], laidByText := true, laidKinds := [.data], laidTests := true, laidLooks := .later }
def FnExactShortInCardSaid : Prop := Claim7.holds Tryz.pinned (.plain (OpenSpec.ofChange fnExactShortInSpec)) fnExactShortInCard

/-- THE SECOND FORM's CARD OF 'laws.FnScene'. -/
def fnSceneUptoCard : Claim7 := { stood := { row := fnSceneUptoRow, standIns := [], harness := (true, "7639dd462047ea84c6becf31013f2a594706809ba1d62cbc5edc796178d488a3"), looks := false }, kinds := [], alts := [], laidByText := true, laidKinds := [.data], laidTests := true, laidLooks := .later }
def FnSceneUptoCardSaid : Prop := Claim7.holds Tryz.pinned (.plain (OpenSpec.upto fnSceneSpec)) fnSceneUptoCard

/-- THE SECOND FORM's CARD OF 'laws.FnRaces'. -/
def fnRacesUptoCard : Claim7 := { stood := { row := fnRacesUptoRow, standIns := [], harness := (true, "7639dd462047ea84c6becf31013f2a594706809ba1d62cbc5edc796178d488a3"), looks := false }, kinds := [], alts := [], laidByText := true, laidKinds := [.data], laidTests := true, laidLooks := .later }
def FnRacesUptoCardSaid : Prop := Claim7.holds Tryz.pinned (.plain (OpenSpec.upto fnRacesSpec)) fnRacesUptoCard

/-- THE SECOND FORM's CARD OF 'laws.FnShortThere'. -/
def fnShortThereUptoCard : Claim7 := { stood := { row := fnShortThereUptoRow, standIns := [], harness := (true, "7639dd462047ea84c6becf31013f2a594706809ba1d62cbc5edc796178d488a3"), looks := false }, kinds := [], alts := [], laidByText := true, laidKinds := [.data], laidTests := true, laidLooks := .later }
def FnShortThereUptoCardSaid : Prop := Claim7.holds Tryz.pinned (.plain (OpenSpec.upto fnShortThereSpec)) fnShortThereUptoCard

/-- THE SECOND FORM's CARD OF 'laws.FnExactBeforesOf'. -/
def fnExactBeforesOfUptoCard : Claim7 := { stood := { row := fnExactBeforesOfUptoRow, standIns := [], harness := (true, "7639dd462047ea84c6becf31013f2a594706809ba1d62cbc5edc796178d488a3"), looks := false }, kinds := [], alts := [], laidByText := true, laidKinds := [.data, .data], laidTests := true, laidLooks := .later }
def FnExactBeforesOfUptoCardSaid : Prop := Claim7.holds Tryz.pinned (.plain (OpenSpec.upto fnExactBeforesOfSpec)) fnExactBeforesOfUptoCard

/-- THE SECOND FORM's CARD OF 'laws.FnExactIsRace'. -/
def fnExactIsRaceUptoCard : Claim7 := { stood := { row := fnExactIsRaceUptoRow, standIns := [], harness := (true, "7639dd462047ea84c6becf31013f2a594706809ba1d62cbc5edc796178d488a3"), looks := false }, kinds := [], alts := [], laidByText := true, laidKinds := [.data], laidTests := true, laidLooks := .later }
def FnExactIsRaceUptoCardSaid : Prop := Claim7.holds Tryz.pinned (.plain (OpenSpec.upto fnExactIsRaceSpec)) fnExactIsRaceUptoCard

/-- THE SECOND FORM's CARD OF 'laws.FnExactRacesIn'. -/
def fnExactRacesInUptoCard : Claim7 := { stood := { row := fnExactRacesInUptoRow, standIns := [], harness := (true, "7639dd462047ea84c6becf31013f2a594706809ba1d62cbc5edc796178d488a3"), looks := false }, kinds := [], alts := [], laidByText := true, laidKinds := [.data], laidTests := true, laidLooks := .later }
def FnExactRacesInUptoCardSaid : Prop := Claim7.holds Tryz.pinned (.plain (OpenSpec.upto fnExactRacesInSpec)) fnExactRacesInUptoCard

/-- THE SECOND FORM's CARD OF 'laws.FnExactIsShort'. -/
def fnExactIsShortUptoCard : Claim7 := { stood := { row := fnExactIsShortUptoRow, standIns := [], harness := (true, "7639dd462047ea84c6becf31013f2a594706809ba1d62cbc5edc796178d488a3"), looks := false }, kinds := [], alts := [], laidByText := true, laidKinds := [.data], laidTests := true, laidLooks := .later }
def FnExactIsShortUptoCardSaid : Prop := Claim7.holds Tryz.pinned (.plain (OpenSpec.upto fnExactIsShortSpec)) fnExactIsShortUptoCard

/-- THE SECOND FORM's CARD OF 'laws.FnExactShortIn'. -/
def fnExactShortInUptoCard : Claim7 := { stood := { row := fnExactShortInUptoRow, standIns := [], harness := (true, "7639dd462047ea84c6becf31013f2a594706809ba1d62cbc5edc796178d488a3"), looks := false }, kinds := [], alts := [], laidByText := true, laidKinds := [.data], laidTests := true, laidLooks := .later }
def FnExactShortInUptoCardSaid : Prop := Claim7.holds Tryz.pinned (.plain (OpenSpec.upto fnExactShortInSpec)) fnExactShortInUptoCard
end Rows
end Go.Proofs.YtcofhmikdkkigaaGreatDoor
