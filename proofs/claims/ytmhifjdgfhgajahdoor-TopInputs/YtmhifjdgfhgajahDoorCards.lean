/-
  DERIVED. GIVEN WITH THE SEED: THE CARDS: each row of YtmhifjdgfhgajahDoorRows.lean that lists a variable, with what it lists TIED to the program's text (the seventh form; the later family's looks); each row that meets fmt, with fmt's text TOLD by the authors' own Lean function (tested against real Go, not proved from fmt's source: count such statements apart). THE CARD IS WHAT COUNTS. Prove the row's statement (the work); the ties are given (YtmhifjdgfhgajahDoorTie.lean); close each card by the builder's one call (the guide's Derived/Test/ToyasCard.lean, 'card_holds'). Laid BY PROGRAM, IN A SANDBOX (cutbox-door.mjs). By AI agents, Wed Nov 11 2026. No macro, syntax, notation, axiom, sorry.
-/
import Derived.Test.YtmhifjdgfhgajahDoorRows
import GoSem.ClaimSeven
namespace Go.Proofs.YtmhifjdgfhgajahDoor
namespace Rows

/-- THE TIED CARD OF 'tallytop.TopInputs'. -/
def topInputsCard : Claim7 := { stood := { row := topInputsRow, standIns := [], harness := (true, "e6a40eefd384066d4d821a15705c4a7218a53e703657f0accafa00d1f3c2ce2b"), looks := false }, kinds := [], alts := [], laidByText := true, laidKinds := [.data, .data], laidTests := true, laidLooks := .later }
def TopInputsCardSaid : Prop := Claim7.holds Tryd.pinned (.plain (OpenSpec.ofChange topInputsSpec)) topInputsCard

/-- THE TIED CARD OF 'tallytop.TopOpened'. -/
def topOpenedCard : Claim7 := { stood := { row := topOpenedRow, standIns := [], harness := (true, "e6a40eefd384066d4d821a15705c4a7218a53e703657f0accafa00d1f3c2ce2b"), looks := false }, kinds := [], alts := [], laidByText := true, laidKinds := [.data, .data], laidTests := true, laidLooks := .later }
def TopOpenedCardSaid : Prop := Claim7.holds Tryd.pinned (.plain (OpenSpec.ofChange topOpenedSpec)) topOpenedCard

/-- THE SECOND FORM's CARD OF 'tallytop.TopInputs'. -/
def topInputsUptoCard : Claim7 := { stood := { row := topInputsUptoRow, standIns := [], harness := (true, "e6a40eefd384066d4d821a15705c4a7218a53e703657f0accafa00d1f3c2ce2b"), looks := false }, kinds := [], alts := [], laidByText := true, laidKinds := [.data, .data], laidTests := true, laidLooks := .later }
def TopInputsUptoCardSaid : Prop := Claim7.holds Tryd.pinned (.plain (OpenSpec.upto topInputsSpec)) topInputsUptoCard

/-- THE SECOND FORM's CARD OF 'tallytop.TopOpened'. -/
def topOpenedUptoCard : Claim7 := { stood := { row := topOpenedUptoRow, standIns := [], harness := (true, "e6a40eefd384066d4d821a15705c4a7218a53e703657f0accafa00d1f3c2ce2b"), looks := false }, kinds := [], alts := [], laidByText := true, laidKinds := [.data, .data], laidTests := true, laidLooks := .later }
def TopOpenedUptoCardSaid : Prop := Claim7.holds Tryd.pinned (.plain (OpenSpec.upto topOpenedSpec)) topOpenedUptoCard
end Rows
end Go.Proofs.YtmhifjdgfhgajahDoor
