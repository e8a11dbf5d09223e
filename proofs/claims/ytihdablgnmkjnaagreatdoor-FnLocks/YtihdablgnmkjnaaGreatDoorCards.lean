/-
  DERIVED. GIVEN WITH THE SEED: THE CARDS: each row of YtihdablgnmkjnaaGreatDoorRows.lean that lists a variable, with what it lists TIED to the program's text (the seventh form; the later family's looks); each row that meets fmt, with fmt's text TOLD by the authors' own Lean function (tested against real Go, not proved from fmt's source: count such statements apart). THE CARD IS WHAT COUNTS. Prove the row's statement (the work); the ties are given (YtihdablgnmkjnaaGreatDoorTie.lean); close each card by the builder's one call (the guide's Derived/Test/ToyasCard.lean, 'card_holds'). Laid BY PROGRAM, IN A SANDBOX (cutbox-door.mjs). By AI agents, Wed Nov 11 2026. No macro, syntax, notation, axiom, sorry.
-/
import Derived.Test.YtihdablgnmkjnaaGreatDoorRows
import GoSem.ClaimSeven
namespace Go.Proofs.YtihdablgnmkjnaaGreatDoor
namespace Rows

/-- THE TIED CARD OF 'laws.FnScene'. -/
def fnSceneCard : Claim7 := { stood := { row := fnSceneRow, standIns := [], harness := (true, "824b5fe7066db245479056315883c2009b2ed03bf3c5857259e750a5560c0d47"), looks := false }, kinds := [], alts := [], laidByText := true, laidKinds := [.data], laidTests := true, laidLooks := .later }
def FnSceneCardSaid : Prop := Claim7.holds Tryz.pinned (.plain (OpenSpec.ofChange fnSceneSpec)) fnSceneCard

/-- THE TIED CARD OF 'laws.FnLocks'. -/
def fnLocksCard : Claim7 := { stood := { row := fnLocksRow, standIns := [], harness := (true, "824b5fe7066db245479056315883c2009b2ed03bf3c5857259e750a5560c0d47"), looks := false }, kinds := [], alts := [], laidByText := true, laidKinds := [.data], laidTests := true, laidLooks := .later }
def FnLocksCardSaid : Prop := Claim7.holds Tryz.pinned (.plain (OpenSpec.ofChange fnLocksSpec)) fnLocksCard

/-- THE TIED CARD OF 'laws.FnTouches'. -/
def fnTouchesCard : Claim7 := { stood := { row := fnTouchesRow, standIns := [], harness := (true, "824b5fe7066db245479056315883c2009b2ed03bf3c5857259e750a5560c0d47"), looks := false }, kinds := [], alts := [], laidByText := true, laidKinds := [.data], laidTests := true, laidLooks := .later }
def FnTouchesCardSaid : Prop := Claim7.holds Tryz.pinned (.plain (OpenSpec.ofChange fnTouchesSpec)) fnTouchesCard

/-- THE TIED CARD OF 'laws.FnExactDone'. -/
def fnExactDoneCard : Claim7 := { stood := { row := fnExactDoneRow, standIns := [], harness := (true, "824b5fe7066db245479056315883c2009b2ed03bf3c5857259e750a5560c0d47"), looks := false }, kinds := [], alts := [], laidByText := true, laidKinds := [.data], laidTests := true, laidLooks := .later }
def FnExactDoneCardSaid : Prop := Claim7.holds Tryz.pinned (.plain (OpenSpec.ofChange fnExactDoneSpec)) fnExactDoneCard

/-- THE TIED CARD OF 'laws.FnExactTouchesOf'. -/
def fnExactTouchesOfCard : Claim7 := { stood := { row := fnExactTouchesOfRow, standIns := [], harness := (true, "824b5fe7066db245479056315883c2009b2ed03bf3c5857259e750a5560c0d47"), looks := false }, kinds := [], alts := [], laidByText := true, laidKinds := [.data], laidTests := true, laidLooks := .later }
def FnExactTouchesOfCardSaid : Prop := Claim7.holds Tryz.pinned (.plain (OpenSpec.ofChange fnExactTouchesOfSpec)) fnExactTouchesOfCard

/-- THE SECOND FORM's CARD OF 'laws.FnScene'. -/
def fnSceneUptoCard : Claim7 := { stood := { row := fnSceneUptoRow, standIns := [], harness := (true, "824b5fe7066db245479056315883c2009b2ed03bf3c5857259e750a5560c0d47"), looks := false }, kinds := [], alts := [], laidByText := true, laidKinds := [.data], laidTests := true, laidLooks := .later }
def FnSceneUptoCardSaid : Prop := Claim7.holds Tryz.pinned (.plain (OpenSpec.upto fnSceneSpec)) fnSceneUptoCard

/-- THE SECOND FORM's CARD OF 'laws.FnLocks'. -/
def fnLocksUptoCard : Claim7 := { stood := { row := fnLocksUptoRow, standIns := [], harness := (true, "824b5fe7066db245479056315883c2009b2ed03bf3c5857259e750a5560c0d47"), looks := false }, kinds := [], alts := [], laidByText := true, laidKinds := [.data], laidTests := true, laidLooks := .later }
def FnLocksUptoCardSaid : Prop := Claim7.holds Tryz.pinned (.plain (OpenSpec.upto fnLocksSpec)) fnLocksUptoCard

/-- THE SECOND FORM's CARD OF 'laws.FnTouches'. -/
def fnTouchesUptoCard : Claim7 := { stood := { row := fnTouchesUptoRow, standIns := [], harness := (true, "824b5fe7066db245479056315883c2009b2ed03bf3c5857259e750a5560c0d47"), looks := false }, kinds := [], alts := [], laidByText := true, laidKinds := [.data], laidTests := true, laidLooks := .later }
def FnTouchesUptoCardSaid : Prop := Claim7.holds Tryz.pinned (.plain (OpenSpec.upto fnTouchesSpec)) fnTouchesUptoCard

/-- THE SECOND FORM's CARD OF 'laws.FnExactDone'. -/
def fnExactDoneUptoCard : Claim7 := { stood := { row := fnExactDoneUptoRow, standIns := [], harness := (true, "824b5fe7066db245479056315883c2009b2ed03bf3c5857259e750a5560c0d47"), looks := false }, kinds := [], alts := [], laidByText := true, laidKinds := [.data], laidTests := true, laidLooks := .later }
def FnExactDoneUptoCardSaid : Prop := Claim7.holds Tryz.pinned (.plain (OpenSpec.upto fnExactDoneSpec)) fnExactDoneUptoCard

/-- THE SECOND FORM's CARD OF 'laws.FnExactTouchesOf'. -/
def fnExactTouchesOfUptoCard : Claim7 := { stood := { row := fnExactTouchesOfUptoRow, standIns := [], harness := (true, "824b5fe7066db245479056315883c2009b2ed03bf3c5857259e750a5560c0d47"), looks := false }, kinds := [], alts := [], laidByText := true, laidKinds := [.data], laidTests := true, laidLooks := .later }
def FnExactTouchesOfUptoCardSaid : Prop := Claim7.holds Tryz.pinned (.plain (OpenSpec.upto fnExactTouchesOfSpec)) fnExactTouchesOfUptoCard
end Rows
end Go.Proofs.YtihdablgnmkjnaaGreatDoor
