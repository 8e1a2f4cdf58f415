/-
  DERIVED. GIVEN WITH THE SEED: THE CARDS: each row of YtmjpcmeinlkfbaaGreatDoorRows.lean that lists a variable, with what it lists TIED to the program's text (the seventh form; the later family's looks); each row that meets fmt, with fmt's text TOLD by the authors' own Lean function (tested against real Go, not proved from fmt's source: count such statements apart). THE CARD IS WHAT COUNTS. Prove the row's statement (the work); the ties are given (YtmjpcmeinlkfbaaGreatDoorTie.lean); close each card by the builder's one call (the guide's Derived/Test/ToyasCard.lean, 'card_holds'). Laid BY PROGRAM, IN A SANDBOX (cutbox-door.mjs). By AI agents, Wed Nov 11 2026. No macro, syntax, notation, axiom, sorry.
-/
import Derived.Test.YtmjpcmeinlkfbaaGreatDoorRows
import GoSem.ClaimSeven
namespace Go.Proofs.YtmjpcmeinlkfbaaGreatDoor
namespace Rows

/-- THE TIED CARD OF 'tallykeep.ListsOwn'. -/
def listsOwnCard : Claim7 := { stood := { row := listsOwnRow, standIns := [], harness := (true, "b560eacdf12276b762ccbae19e5af93bcb23259da782eca18cca54e2b30d1249"), looks := false }, kinds := [], alts := [], laidByText := true, laidKinds := [.data, .data, .data], laidTests := true, laidLooks := .later }
def ListsOwnCardSaid : Prop := Claim7.holds Tryz.pinned (.plain (OpenSpec.ofChange listsOwnSpec)) listsOwnCard

/-- THE TIED CARD OF 'tallytop.TopOpened'. -/
def topOpenedCard : Claim7 := { stood := { row := topOpenedRow, standIns := [], harness := (true, "b560eacdf12276b762ccbae19e5af93bcb23259da782eca18cca54e2b30d1249"), looks := false }, kinds := [], alts := [], laidByText := true, laidKinds := [.data, .data], laidTests := true, laidLooks := .later }
def TopOpenedCardSaid : Prop := Claim7.holds Tryz.pinned (.plain (OpenSpec.ofChange topOpenedSpec)) topOpenedCard

/-- THE SECOND FORM's CARD OF 'tallykeep.ListsOwn'. -/
def listsOwnUptoCard : Claim7 := { stood := { row := listsOwnUptoRow, standIns := [], harness := (true, "b560eacdf12276b762ccbae19e5af93bcb23259da782eca18cca54e2b30d1249"), looks := false }, kinds := [], alts := [], laidByText := true, laidKinds := [.data, .data, .data], laidTests := true, laidLooks := .later }
def ListsOwnUptoCardSaid : Prop := Claim7.holds Tryz.pinned (.plain (OpenSpec.upto listsOwnSpec)) listsOwnUptoCard

/-- THE SECOND FORM's CARD OF 'tallytop.TopOpened'. -/
def topOpenedUptoCard : Claim7 := { stood := { row := topOpenedUptoRow, standIns := [], harness := (true, "b560eacdf12276b762ccbae19e5af93bcb23259da782eca18cca54e2b30d1249"), looks := false }, kinds := [], alts := [], laidByText := true, laidKinds := [.data, .data], laidTests := true, laidLooks := .later }
def TopOpenedUptoCardSaid : Prop := Claim7.holds Tryz.pinned (.plain (OpenSpec.upto topOpenedSpec)) topOpenedUptoCard
end Rows
end Go.Proofs.YtmjpcmeinlkfbaaGreatDoor
