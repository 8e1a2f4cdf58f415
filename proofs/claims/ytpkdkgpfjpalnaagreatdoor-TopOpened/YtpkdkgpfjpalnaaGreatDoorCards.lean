/-
  DERIVED. GIVEN WITH THE SEED: THE CARDS: each row of YtpkdkgpfjpalnaaGreatDoorRows.lean that lists a variable, with what it lists TIED to the program's text (the seventh form; the later family's looks); each row that meets fmt, with fmt's text TOLD by the authors' own Lean function (tested against real Go, not proved from fmt's source: count such statements apart). THE CARD IS WHAT COUNTS. Prove the row's statement (the work); the ties are given (YtpkdkgpfjpalnaaGreatDoorTie.lean); close each card by the builder's one call (the guide's Derived/Test/ToyasCard.lean, 'card_holds'). Laid BY PROGRAM, IN A SANDBOX (cutbox-door.mjs). By AI agents, Wed Nov 11 2026. No macro, syntax, notation, axiom, sorry.
-/
import Derived.Test.YtpkdkgpfjpalnaaGreatDoorRows
import GoSem.ClaimSeven
namespace Go.Proofs.YtpkdkgpfjpalnaaGreatDoor
namespace Rows

/-- THE TIED CARD OF 'tallykeep.ListsOwn'. -/
def listsOwnCard : Claim7 := { stood := { row := listsOwnRow, standIns := [], harness := (true, "d8f34d80a15d6d0a4ad429230c0eb225e6aac63975a28fd777d5385d84ad4bbe"), looks := false }, kinds := [], alts := [], laidByText := true, laidKinds := [.data, .data, .data], laidTests := true, laidLooks := .later }
def ListsOwnCardSaid : Prop := Claim7.holds Tryz.pinned (.plain (OpenSpec.ofChange listsOwnSpec)) listsOwnCard

/-- THE TIED CARD OF 'tallytop.TopOpened'. -/
def topOpenedCard : Claim7 := { stood := { row := topOpenedRow, standIns := [], harness := (true, "d8f34d80a15d6d0a4ad429230c0eb225e6aac63975a28fd777d5385d84ad4bbe"), looks := false }, kinds := [], alts := [], laidByText := true, laidKinds := [.data, .data], laidTests := true, laidLooks := .later }
def TopOpenedCardSaid : Prop := Claim7.holds Tryz.pinned (.plain (OpenSpec.ofChange topOpenedSpec)) topOpenedCard

/-- THE TIED CARD OF 'tallytop.TopLooks'. -/
def topLooksCard : Claim7 := { stood := { row := topLooksRow, standIns := [], harness := (true, "d8f34d80a15d6d0a4ad429230c0eb225e6aac63975a28fd777d5385d84ad4bbe"), looks := false }, kinds := [], alts := [], laidByText := true, laidKinds := [.data, .data], laidTests := true, laidLooks := .later }
def TopLooksCardSaid : Prop := Claim7.holds Tryz.pinned (.plain (OpenSpec.ofChange topLooksSpec)) topLooksCard

/-- THE SECOND FORM's CARD OF 'tallykeep.ListsOwn'. -/
def listsOwnUptoCard : Claim7 := { stood := { row := listsOwnUptoRow, standIns := [], harness := (true, "d8f34d80a15d6d0a4ad429230c0eb225e6aac63975a28fd777d5385d84ad4bbe"), looks := false }, kinds := [], alts := [], laidByText := true, laidKinds := [.data, .data, .data], laidTests := true, laidLooks := .later }
def ListsOwnUptoCardSaid : Prop := Claim7.holds Tryz.pinned (.plain (OpenSpec.upto listsOwnSpec)) listsOwnUptoCard

/-- THE SECOND FORM's CARD OF 'tallytop.TopOpened'. -/
def topOpenedUptoCard : Claim7 := { stood := { row := topOpenedUptoRow, standIns := [], harness := (true, "d8f34d80a15d6d0a4ad429230c0eb225e6aac63975a28fd777d5385d84ad4bbe"), looks := false }, kinds := [], alts := [], laidByText := true, laidKinds := [.data, .data], laidTests := true, laidLooks := .later }
def TopOpenedUptoCardSaid : Prop := Claim7.holds Tryz.pinned (.plain (OpenSpec.upto topOpenedSpec)) topOpenedUptoCard

/-- THE SECOND FORM's CARD OF 'tallytop.TopLooks'. -/
def topLooksUptoCard : Claim7 := { stood := { row := topLooksUptoRow, standIns := [], harness := (true, "d8f34d80a15d6d0a4ad429230c0eb225e6aac63975a28fd777d5385d84ad4bbe"), looks := false }, kinds := [], alts := [], laidByText := true, laidKinds := [.data, .data], laidTests := true, laidLooks := .later }
def TopLooksUptoCardSaid : Prop := Claim7.holds Tryz.pinned (.plain (OpenSpec.upto topLooksSpec)) topLooksUptoCard
end Rows
end Go.Proofs.YtpkdkgpfjpalnaaGreatDoor
