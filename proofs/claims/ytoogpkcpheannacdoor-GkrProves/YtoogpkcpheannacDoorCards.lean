/-
  DERIVED. GIVEN WITH THE SEED: THE CARDS: each row of YtoogpkcpheannacDoorRows.lean that lists a variable, with what it lists TIED to the program's text (the seventh form; the later family's looks); each row that meets fmt, with fmt's text TOLD by the authors' own Lean function (tested against real Go, not proved from fmt's source: count such statements apart). THE CARD IS WHAT COUNTS. Prove the row's statement (the work); the ties are given (YtoogpkcpheannacDoorTie.lean); close each card by the builder's one call (the guide's Derived/Test/ToyasCard.lean, 'card_holds'). Laid BY PROGRAM, IN A SANDBOX (cutbox-door.mjs). By AI agents, Wed Nov 11 2026. No macro, syntax, notation, axiom, sorry.
-/
import Derived.Test.YtoogpkcpheannacDoorRows
import GoSem.ClaimSeven
namespace Go.Proofs.YtoogpkcpheannacDoor
namespace Rows

/-- THE TIED CARD OF 'tallylaw.GkrProves'. -/
def gkrProvesCard : Claim7 := { stood := { row := gkrProvesRow, standIns := [], harness := (true, "ee7752b28fda71ee44f0d68d4e4257a4f70208534c915098617d8d9a4c880f8f"), looks := false }, kinds := [], alts := [], laidByText := true, laidKinds := [.data, .data], laidTests := true, laidLooks := .later }
def GkrProvesCardSaid : Prop := Claim7.holds Tryd.pinned (.plain (OpenSpec.ofChange gkrProvesSpec)) gkrProvesCard

/-- THE TIED CARD OF 'tallylaw.GkrVerifies'. -/
def gkrVerifiesCard : Claim7 := { stood := { row := gkrVerifiesRow, standIns := [], harness := (true, "ee7752b28fda71ee44f0d68d4e4257a4f70208534c915098617d8d9a4c880f8f"), looks := false }, kinds := [], alts := [], laidByText := true, laidKinds := [.data, .data], laidTests := true, laidLooks := .later }
def GkrVerifiesCardSaid : Prop := Claim7.holds Tryd.pinned (.plain (OpenSpec.ofChange gkrVerifiesSpec)) gkrVerifiesCard

/-- THE TIED CARD OF 'tallylaw.FiatSays'. -/
def fiatSaysCard : Claim7 := { stood := { row := fiatSaysRow, standIns := [], harness := (true, "ee7752b28fda71ee44f0d68d4e4257a4f70208534c915098617d8d9a4c880f8f"), looks := false }, kinds := [], alts := [], laidByText := true, laidKinds := [.data, .data], laidTests := true, laidLooks := .later }
def FiatSaysCardSaid : Prop := Claim7.holds Tryd.pinned (.plain (OpenSpec.ofChange fiatSaysSpec)) fiatSaysCard

/-- THE TIED CARD OF 'tallylaw.FiatVerifies'. -/
def fiatVerifiesCard : Claim7 := { stood := { row := fiatVerifiesRow, standIns := [], harness := (true, "ee7752b28fda71ee44f0d68d4e4257a4f70208534c915098617d8d9a4c880f8f"), looks := false }, kinds := [], alts := [], laidByText := true, laidKinds := [.data, .data], laidTests := true, laidLooks := .later }
def FiatVerifiesCardSaid : Prop := Claim7.holds Tryd.pinned (.plain (OpenSpec.ofChange fiatVerifiesSpec)) fiatVerifiesCard

/-- THE TIED CARD OF 'tallylaw.OpenSays'. -/
def openSaysCard : Claim7 := { stood := { row := openSaysRow, standIns := [], harness := (true, "ee7752b28fda71ee44f0d68d4e4257a4f70208534c915098617d8d9a4c880f8f"), looks := false }, kinds := [], alts := [], laidByText := true, laidKinds := [.data, .data], laidTests := true, laidLooks := .later }
def OpenSaysCardSaid : Prop := Claim7.holds Tryd.pinned (.plain (OpenSpec.ofChange openSaysSpec)) openSaysCard

/-- THE SECOND FORM's CARD OF 'tallylaw.GkrProves'. -/
def gkrProvesUptoCard : Claim7 := { stood := { row := gkrProvesUptoRow, standIns := [], harness := (true, "ee7752b28fda71ee44f0d68d4e4257a4f70208534c915098617d8d9a4c880f8f"), looks := false }, kinds := [], alts := [], laidByText := true, laidKinds := [.data, .data], laidTests := true, laidLooks := .later }
def GkrProvesUptoCardSaid : Prop := Claim7.holds Tryd.pinned (.plain (OpenSpec.upto gkrProvesSpec)) gkrProvesUptoCard

/-- THE SECOND FORM's CARD OF 'tallylaw.GkrVerifies'. -/
def gkrVerifiesUptoCard : Claim7 := { stood := { row := gkrVerifiesUptoRow, standIns := [], harness := (true, "ee7752b28fda71ee44f0d68d4e4257a4f70208534c915098617d8d9a4c880f8f"), looks := false }, kinds := [], alts := [], laidByText := true, laidKinds := [.data, .data], laidTests := true, laidLooks := .later }
def GkrVerifiesUptoCardSaid : Prop := Claim7.holds Tryd.pinned (.plain (OpenSpec.upto gkrVerifiesSpec)) gkrVerifiesUptoCard

/-- THE SECOND FORM's CARD OF 'tallylaw.FiatSays'. -/
def fiatSaysUptoCard : Claim7 := { stood := { row := fiatSaysUptoRow, standIns := [], harness := (true, "ee7752b28fda71ee44f0d68d4e4257a4f70208534c915098617d8d9a4c880f8f"), looks := false }, kinds := [], alts := [], laidByText := true, laidKinds := [.data, .data], laidTests := true, laidLooks := .later }
def FiatSaysUptoCardSaid : Prop := Claim7.holds Tryd.pinned (.plain (OpenSpec.upto fiatSaysSpec)) fiatSaysUptoCard

/-- THE SECOND FORM's CARD OF 'tallylaw.FiatVerifies'. -/
def fiatVerifiesUptoCard : Claim7 := { stood := { row := fiatVerifiesUptoRow, standIns := [], harness := (true, "ee7752b28fda71ee44f0d68d4e4257a4f70208534c915098617d8d9a4c880f8f"), looks := false }, kinds := [], alts := [], laidByText := true, laidKinds := [.data, .data], laidTests := true, laidLooks := .later }
def FiatVerifiesUptoCardSaid : Prop := Claim7.holds Tryd.pinned (.plain (OpenSpec.upto fiatVerifiesSpec)) fiatVerifiesUptoCard

/-- THE SECOND FORM's CARD OF 'tallylaw.OpenSays'. -/
def openSaysUptoCard : Claim7 := { stood := { row := openSaysUptoRow, standIns := [], harness := (true, "ee7752b28fda71ee44f0d68d4e4257a4f70208534c915098617d8d9a4c880f8f"), looks := false }, kinds := [], alts := [], laidByText := true, laidKinds := [.data, .data], laidTests := true, laidLooks := .later }
def OpenSaysUptoCardSaid : Prop := Claim7.holds Tryd.pinned (.plain (OpenSpec.upto openSaysSpec)) openSaysUptoCard
end Rows
end Go.Proofs.YtoogpkcpheannacDoor
