/-
  DERIVED. GIVEN WITH THE SEED: THE CARDS: each row of YtikjodbboljhjaaGreatDoorRows.lean that lists a variable, with what it lists TIED to the program's text (the seventh form; the later family's looks); each row that meets fmt, with fmt's text TOLD by the authors' own Lean function (tested against real Go, not proved from fmt's source: count such statements apart). THE CARD IS WHAT COUNTS. Prove the row's statement (the work); the ties are given (YtikjodbboljhjaaGreatDoorTie.lean); close each card by the builder's one call (the guide's Derived/Test/ToyasCard.lean, 'card_holds'). Laid BY PROGRAM, IN A SANDBOX (cutbox-door.mjs). By AI agents, Wed Nov 11 2026. No macro, syntax, notation, axiom, sorry.
-/
import Derived.Test.YtikjodbboljhjaaGreatDoorRows
import GoSem.ClaimSeven
namespace Go.Proofs.YtikjodbboljhjaaGreatDoor
namespace Rows

/-- THE TIED CARD OF 'laws.FnScene'. -/
def fnSceneCard : Claim7 := { stood := { row := fnSceneRow, standIns := [], harness := (true, "1f89551fe2845b3d109e8a68699ff469b74949afc87ff99408cf409afb2a040e"), looks := false }, kinds := [], alts := [], laidByText := true, laidKinds := [.data], laidTests := true, laidLooks := .later }
def FnSceneCardSaid : Prop := Claim7.holds Tryz.pinned (.plain (OpenSpec.ofChange fnSceneSpec)) fnSceneCard

/-- THE TIED CARD OF 'laws.FnLocks'. -/
def fnLocksCard : Claim7 := { stood := { row := fnLocksRow, standIns := [], harness := (true, "1f89551fe2845b3d109e8a68699ff469b74949afc87ff99408cf409afb2a040e"), looks := false }, kinds := [], alts := [], laidByText := true, laidKinds := [.data], laidTests := true, laidLooks := .later }
def FnLocksCardSaid : Prop := Claim7.holds Tryz.pinned (.plain (OpenSpec.ofChange fnLocksSpec)) fnLocksCard

/-- THE TIED CARD OF 'laws.FnLegal'. -/
def fnLegalCard : Claim7 := { stood := { row := fnLegalRow, standIns := [], harness := (true, "1f89551fe2845b3d109e8a68699ff469b74949afc87ff99408cf409afb2a040e"), looks := false }, kinds := [], alts := [], laidByText := true, laidKinds := [.data], laidTests := true, laidLooks := .later }
def FnLegalCardSaid : Prop := Claim7.holds Tryz.pinned (.plain (OpenSpec.ofChange fnLegalSpec)) fnLegalCard

/-- THE TIED CARD OF 'laws.FnExactDone'. -/
def fnExactDoneCard : Claim7 := { stood := { row := fnExactDoneRow, standIns := [], harness := (true, "1f89551fe2845b3d109e8a68699ff469b74949afc87ff99408cf409afb2a040e"), looks := false }, kinds := [], alts := [], laidByText := true, laidKinds := [.data], laidTests := true, laidLooks := .later }
def FnExactDoneCardSaid : Prop := Claim7.holds Tryz.pinned (.plain (OpenSpec.ofChange fnExactDoneSpec)) fnExactDoneCard

/-- THE TIED CARD OF 'laws.FnExactSceneAfter'. -/
def fnExactSceneAfterCard : Claim7 := { stood := { row := fnExactSceneAfterRow, standIns := [], harness := (true, "1f89551fe2845b3d109e8a68699ff469b74949afc87ff99408cf409afb2a040e"), looks := false }, kinds := [], alts := [], laidByText := true, laidKinds := [.data], laidTests := true, laidLooks := .later }
def FnExactSceneAfterCardSaid : Prop := Claim7.holds Tryz.pinned (.plain (OpenSpec.ofChange fnExactSceneAfterSpec)) fnExactSceneAfterCard

/-- THE SECOND FORM's CARD OF 'laws.FnScene'. -/
def fnSceneUptoCard : Claim7 := { stood := { row := fnSceneUptoRow, standIns := [], harness := (true, "1f89551fe2845b3d109e8a68699ff469b74949afc87ff99408cf409afb2a040e"), looks := false }, kinds := [], alts := [], laidByText := true, laidKinds := [.data], laidTests := true, laidLooks := .later }
def FnSceneUptoCardSaid : Prop := Claim7.holds Tryz.pinned (.plain (OpenSpec.upto fnSceneSpec)) fnSceneUptoCard

/-- THE SECOND FORM's CARD OF 'laws.FnLocks'. -/
def fnLocksUptoCard : Claim7 := { stood := { row := fnLocksUptoRow, standIns := [], harness := (true, "1f89551fe2845b3d109e8a68699ff469b74949afc87ff99408cf409afb2a040e"), looks := false }, kinds := [], alts := [], laidByText := true, laidKinds := [.data], laidTests := true, laidLooks := .later }
def FnLocksUptoCardSaid : Prop := Claim7.holds Tryz.pinned (.plain (OpenSpec.upto fnLocksSpec)) fnLocksUptoCard

/-- THE SECOND FORM's CARD OF 'laws.FnLegal'. -/
def fnLegalUptoCard : Claim7 := { stood := { row := fnLegalUptoRow, standIns := [], harness := (true, "1f89551fe2845b3d109e8a68699ff469b74949afc87ff99408cf409afb2a040e"), looks := false }, kinds := [], alts := [], laidByText := true, laidKinds := [.data], laidTests := true, laidLooks := .later }
def FnLegalUptoCardSaid : Prop := Claim7.holds Tryz.pinned (.plain (OpenSpec.upto fnLegalSpec)) fnLegalUptoCard

/-- THE SECOND FORM's CARD OF 'laws.FnExactDone'. -/
def fnExactDoneUptoCard : Claim7 := { stood := { row := fnExactDoneUptoRow, standIns := [], harness := (true, "1f89551fe2845b3d109e8a68699ff469b74949afc87ff99408cf409afb2a040e"), looks := false }, kinds := [], alts := [], laidByText := true, laidKinds := [.data], laidTests := true, laidLooks := .later }
def FnExactDoneUptoCardSaid : Prop := Claim7.holds Tryz.pinned (.plain (OpenSpec.upto fnExactDoneSpec)) fnExactDoneUptoCard

/-- THE SECOND FORM's CARD OF 'laws.FnExactSceneAfter'. -/
def fnExactSceneAfterUptoCard : Claim7 := { stood := { row := fnExactSceneAfterUptoRow, standIns := [], harness := (true, "1f89551fe2845b3d109e8a68699ff469b74949afc87ff99408cf409afb2a040e"), looks := false }, kinds := [], alts := [], laidByText := true, laidKinds := [.data], laidTests := true, laidLooks := .later }
def FnExactSceneAfterUptoCardSaid : Prop := Claim7.holds Tryz.pinned (.plain (OpenSpec.upto fnExactSceneAfterSpec)) fnExactSceneAfterUptoCard
end Rows
end Go.Proofs.YtikjodbboljhjaaGreatDoor
