/-
  DERIVED. GIVEN WITH THE SEED: THE CARDS: each row of YtplnijpolkflcaaGreatDoorRows.lean that lists a variable, with what it lists TIED to the program's text (the seventh form; the later family's looks); each row that meets fmt, with fmt's text TOLD by the authors' own Lean function (tested against real Go, not proved from fmt's source: count such statements apart). THE CARD IS WHAT COUNTS. Prove the row's statement (the work); the ties are given (YtplnijpolkflcaaGreatDoorTie.lean); close each card by the builder's one call (the guide's Derived/Test/ToyasCard.lean, 'card_holds'). Laid BY PROGRAM, IN A SANDBOX (cutbox-door.mjs). By AI agents, Wed Nov 11 2026. No macro, syntax, notation, axiom, sorry.
-/
import Derived.Test.YtplnijpolkflcaaGreatDoorRows
import GoSem.ClaimSeven
namespace Go.Proofs.YtplnijpolkflcaaGreatDoor
namespace Rows

/-- THE TIED CARD OF 'laws.FnScene'. -/
def fnSceneCard : Claim7 := { stood := { row := fnSceneRow, standIns := [], harness := (true, "c8c86fbfcb0ec0263521a6b49a723e48f4ddd29d4ec6979f56b84374441e9c3a"), looks := false }, kinds := [], alts := [], laidByText := true, laidKinds := [.data], laidTests := true, laidLooks := .later }
def FnSceneCardSaid : Prop := Claim7.holds Tryz.pinned (.plain (OpenSpec.ofChange fnSceneSpec)) fnSceneCard

/-- THE TIED CARD OF 'laws.FnOrder'. -/
def fnOrderCard : Claim7 := { stood := { row := fnOrderRow, standIns := [], harness := (true, "c8c86fbfcb0ec0263521a6b49a723e48f4ddd29d4ec6979f56b84374441e9c3a"), looks := false }, kinds := [], alts := [], laidByText := true, laidKinds := [.data, .data], laidTests := true, laidLooks := .later }
def FnOrderCardSaid : Prop := Claim7.holds Tryz.pinned (.plain (OpenSpec.ofChange fnOrderSpec)) fnOrderCard

/-- THE TIED CARD OF 'laws.FnLocked'. -/
def fnLockedCard : Claim7 := { stood := { row := fnLockedRow, standIns := [], harness := (true, "c8c86fbfcb0ec0263521a6b49a723e48f4ddd29d4ec6979f56b84374441e9c3a"), looks := false }, kinds := [], alts := [], laidByText := true, laidKinds := [.data], laidTests := true, laidLooks := .later }
def FnLockedCardSaid : Prop := Claim7.holds Tryz.pinned (.plain (OpenSpec.ofChange fnLockedSpec)) fnLockedCard

/-- THE TIED CARD OF 'laws.FnAtOnce'. -/
def fnAtOnceCard : Claim7 := { stood := { row := fnAtOnceRow, standIns := [], harness := (true, "c8c86fbfcb0ec0263521a6b49a723e48f4ddd29d4ec6979f56b84374441e9c3a"), looks := false }, kinds := [], alts := [], laidByText := true, laidKinds := [.data, .data], laidTests := true, laidLooks := .later }
def FnAtOnceCardSaid : Prop := Claim7.holds Tryz.pinned (.plain (OpenSpec.ofChange fnAtOnceSpec)) fnAtOnceCard

/-- THE TIED CARD OF 'laws.FnExactDone'. -/
def fnExactDoneCard : Claim7 := { stood := { row := fnExactDoneRow, standIns := [], harness := (true, "c8c86fbfcb0ec0263521a6b49a723e48f4ddd29d4ec6979f56b84374441e9c3a"), looks := false }, kinds := [], alts := [], laidByText := true, laidKinds := [.data], laidTests := true, laidLooks := .later }
def FnExactDoneCardSaid : Prop := Claim7.holds Tryz.pinned (.plain (OpenSpec.ofChange fnExactDoneSpec)) fnExactDoneCard

/-- THE TIED CARD OF 'laws.FnExactEdgesInto'. -/
def fnExactEdgesIntoCard : Claim7 := { stood := { row := fnExactEdgesIntoRow, standIns := [], harness := (true, "c8c86fbfcb0ec0263521a6b49a723e48f4ddd29d4ec6979f56b84374441e9c3a"), looks := false }, kinds := [], alts := [], laidByText := true, laidKinds := [.data, .data], laidTests := true, laidLooks := .later }
def FnExactEdgesIntoCardSaid : Prop := Claim7.holds Tryz.pinned (.plain (OpenSpec.ofChange fnExactEdgesIntoSpec)) fnExactEdgesIntoCard

/-- THE TIED CARD OF 'laws.FnExactBeforesOf'. -/
def fnExactBeforesOfCard : Claim7 := { stood := { row := fnExactBeforesOfRow, standIns := [], harness := (true, "c8c86fbfcb0ec0263521a6b49a723e48f4ddd29d4ec6979f56b84374441e9c3a"), looks := false }, kinds := [], alts := [], laidByText := true, laidKinds := [.data, .data], laidTests := true, laidLooks := .later }
def FnExactBeforesOfCardSaid : Prop := Claim7.holds Tryz.pinned (.plain (OpenSpec.ofChange fnExactBeforesOfSpec)) fnExactBeforesOfCard

/-- THE TIED CARD OF 'laws.FnExactOrdered'. -/
def fnExactOrderedCard : Claim7 := { stood := { row := fnExactOrderedRow, standIns := [], harness := (true, "c8c86fbfcb0ec0263521a6b49a723e48f4ddd29d4ec6979f56b84374441e9c3a"), looks := false }, kinds := [], alts := [], laidByText := true, laidKinds := [.data], laidTests := true, laidLooks := .later }
def FnExactOrderedCardSaid : Prop := Claim7.holds Tryz.pinned (.plain (OpenSpec.ofChange fnExactOrderedSpec)) fnExactOrderedCard

/-- THE TIED CARD OF 'laws.FnExactAtOnce'. -/
def fnExactAtOnceCard : Claim7 := { stood := { row := fnExactAtOnceRow, standIns := [], harness := (true, "c8c86fbfcb0ec0263521a6b49a723e48f4ddd29d4ec6979f56b84374441e9c3a"), looks := false }, kinds := [], alts := [], laidByText := true, laidKinds := [.data], laidTests := true, laidLooks := .later }
def FnExactAtOnceCardSaid : Prop := Claim7.holds Tryz.pinned (.plain (OpenSpec.ofChange fnExactAtOnceSpec)) fnExactAtOnceCard

/-- THE SECOND FORM's CARD OF 'laws.FnScene'. -/
def fnSceneUptoCard : Claim7 := { stood := { row := fnSceneUptoRow, standIns := [], harness := (true, "c8c86fbfcb0ec0263521a6b49a723e48f4ddd29d4ec6979f56b84374441e9c3a"), looks := false }, kinds := [], alts := [], laidByText := true, laidKinds := [.data], laidTests := true, laidLooks := .later }
def FnSceneUptoCardSaid : Prop := Claim7.holds Tryz.pinned (.plain (OpenSpec.upto fnSceneSpec)) fnSceneUptoCard

/-- THE SECOND FORM's CARD OF 'laws.FnOrder'. -/
def fnOrderUptoCard : Claim7 := { stood := { row := fnOrderUptoRow, standIns := [], harness := (true, "c8c86fbfcb0ec0263521a6b49a723e48f4ddd29d4ec6979f56b84374441e9c3a"), looks := false }, kinds := [], alts := [], laidByText := true, laidKinds := [.data, .data], laidTests := true, laidLooks := .later }
def FnOrderUptoCardSaid : Prop := Claim7.holds Tryz.pinned (.plain (OpenSpec.upto fnOrderSpec)) fnOrderUptoCard

/-- THE SECOND FORM's CARD OF 'laws.FnLocked'. -/
def fnLockedUptoCard : Claim7 := { stood := { row := fnLockedUptoRow, standIns := [], harness := (true, "c8c86fbfcb0ec0263521a6b49a723e48f4ddd29d4ec6979f56b84374441e9c3a"), looks := false }, kinds := [], alts := [], laidByText := true, laidKinds := [.data], laidTests := true, laidLooks := .later }
def FnLockedUptoCardSaid : Prop := Claim7.holds Tryz.pinned (.plain (OpenSpec.upto fnLockedSpec)) fnLockedUptoCard

/-- THE SECOND FORM's CARD OF 'laws.FnAtOnce'. -/
def fnAtOnceUptoCard : Claim7 := { stood := { row := fnAtOnceUptoRow, standIns := [], harness := (true, "c8c86fbfcb0ec0263521a6b49a723e48f4ddd29d4ec6979f56b84374441e9c3a"), looks := false }, kinds := [], alts := [], laidByText := true, laidKinds := [.data, .data], laidTests := true, laidLooks := .later }
def FnAtOnceUptoCardSaid : Prop := Claim7.holds Tryz.pinned (.plain (OpenSpec.upto fnAtOnceSpec)) fnAtOnceUptoCard

/-- THE SECOND FORM's CARD OF 'laws.FnExactDone'. -/
def fnExactDoneUptoCard : Claim7 := { stood := { row := fnExactDoneUptoRow, standIns := [], harness := (true, "c8c86fbfcb0ec0263521a6b49a723e48f4ddd29d4ec6979f56b84374441e9c3a"), looks := false }, kinds := [], alts := [], laidByText := true, laidKinds := [.data], laidTests := true, laidLooks := .later }
def FnExactDoneUptoCardSaid : Prop := Claim7.holds Tryz.pinned (.plain (OpenSpec.upto fnExactDoneSpec)) fnExactDoneUptoCard

/-- THE SECOND FORM's CARD OF 'laws.FnExactEdgesInto'. -/
def fnExactEdgesIntoUptoCard : Claim7 := { stood := { row := fnExactEdgesIntoUptoRow, standIns := [], harness := (true, "c8c86fbfcb0ec0263521a6b49a723e48f4ddd29d4ec6979f56b84374441e9c3a"), looks := false }, kinds := [], alts := [], laidByText := true, laidKinds := [.data, .data], laidTests := true, laidLooks := .later }
def FnExactEdgesIntoUptoCardSaid : Prop := Claim7.holds Tryz.pinned (.plain (OpenSpec.upto fnExactEdgesIntoSpec)) fnExactEdgesIntoUptoCard

/-- THE SECOND FORM's CARD OF 'laws.FnExactBeforesOf'. -/
def fnExactBeforesOfUptoCard : Claim7 := { stood := { row := fnExactBeforesOfUptoRow, standIns := [], harness := (true, "c8c86fbfcb0ec0263521a6b49a723e48f4ddd29d4ec6979f56b84374441e9c3a"), looks := false }, kinds := [], alts := [], laidByText := true, laidKinds := [.data, .data], laidTests := true, laidLooks := .later }
def FnExactBeforesOfUptoCardSaid : Prop := Claim7.holds Tryz.pinned (.plain (OpenSpec.upto fnExactBeforesOfSpec)) fnExactBeforesOfUptoCard

/-- THE SECOND FORM's CARD OF 'laws.FnExactOrdered'. -/
def fnExactOrderedUptoCard : Claim7 := { stood := { row := fnExactOrderedUptoRow, standIns := [], harness := (true, "c8c86fbfcb0ec0263521a6b49a723e48f4ddd29d4ec6979f56b84374441e9c3a"), looks := false }, kinds := [], alts := [], laidByText := true, laidKinds := [.data], laidTests := true, laidLooks := .later }
def FnExactOrderedUptoCardSaid : Prop := Claim7.holds Tryz.pinned (.plain (OpenSpec.upto fnExactOrderedSpec)) fnExactOrderedUptoCard

/-- THE SECOND FORM's CARD OF 'laws.FnExactAtOnce'. -/
def fnExactAtOnceUptoCard : Claim7 := { stood := { row := fnExactAtOnceUptoRow, standIns := [], harness := (true, "c8c86fbfcb0ec0263521a6b49a723e48f4ddd29d4ec6979f56b84374441e9c3a"), looks := false }, kinds := [], alts := [], laidByText := true, laidKinds := [.data], laidTests := true, laidLooks := .later }
def FnExactAtOnceUptoCardSaid : Prop := Claim7.holds Tryz.pinned (.plain (OpenSpec.upto fnExactAtOnceSpec)) fnExactAtOnceUptoCard
end Rows
end Go.Proofs.YtplnijpolkflcaaGreatDoor
