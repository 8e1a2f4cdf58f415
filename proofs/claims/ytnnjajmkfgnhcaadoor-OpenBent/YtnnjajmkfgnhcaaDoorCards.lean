/-
  DERIVED. GIVEN WITH THE SEED: THE CARDS: each row of YtnnjajmkfgnhcaaDoorRows.lean that lists a variable, with what it lists TIED to the program's text (the seventh form; the later family's looks); each row that meets fmt, with fmt's text TOLD by the authors' own Lean function (tested against real Go, not proved from fmt's source: count such statements apart). THE CARD IS WHAT COUNTS. Prove the row's statement (the work); the ties are given (YtnnjajmkfgnhcaaDoorTie.lean); close each card by the builder's one call (the guide's Derived/Test/ToyasCard.lean, 'card_holds'). Laid BY PROGRAM, IN A SANDBOX (cutbox-door.mjs). By AI agents, Wed Nov 11 2026. No macro, syntax, notation, axiom, sorry.
-/
import Derived.Test.YtnnjajmkfgnhcaaDoorRows
import GoSem.ClaimSeven
namespace Go.Proofs.YtnnjajmkfgnhcaaDoor
namespace Rows

/-- THE TIED CARD OF 'tallylaw.OpenSays'. -/
def openSaysCard : Claim7 := { stood := { row := openSaysRow, standIns := [], harness := (true, "38365596aee10537731bc51a87d772ae4f70368031b4b8a444802d96a5068578"), looks := false }, kinds := [], alts := [], laidByText := true, laidKinds := [.data, .data], laidTests := true, laidLooks := .later }
def OpenSaysCardSaid : Prop := Claim7.holds Tryd.pinned (.plain (OpenSpec.ofChange openSaysSpec)) openSaysCard

/-- THE TIED CARD OF 'tallykeep.TreeBinds'. -/
def treeBindsCard : Claim7 := { stood := { row := treeBindsRow, standIns := [], harness := (true, "38365596aee10537731bc51a87d772ae4f70368031b4b8a444802d96a5068578"), looks := false }, kinds := [], alts := [], laidByText := true, laidKinds := [.data, .data], laidTests := true, laidLooks := .later }
def TreeBindsCardSaid : Prop := Claim7.holds Tryd.pinned (.plain (OpenSpec.ofChange treeBindsSpec)) treeBindsCard

/-- THE TIED CARD OF 'tallykeep.WiringTells'. -/
def wiringTellsCard : Claim7 := { stood := { row := wiringTellsRow, standIns := [], harness := (true, "38365596aee10537731bc51a87d772ae4f70368031b4b8a444802d96a5068578"), looks := false }, kinds := [], alts := [], laidByText := true, laidKinds := [.data, .data], laidTests := true, laidLooks := .later }
def WiringTellsCardSaid : Prop := Claim7.holds Tryd.pinned (.plain (OpenSpec.ofChange wiringTellsSpec)) wiringTellsCard

/-- THE TIED CARD OF 'tallykeep.OpenComplete'. -/
def openCompleteCard : Claim7 := { stood := { row := openCompleteRow, standIns := [], harness := (true, "38365596aee10537731bc51a87d772ae4f70368031b4b8a444802d96a5068578"), looks := false }, kinds := [], alts := [], laidByText := true, laidKinds := [.data, .data], laidTests := true, laidLooks := .later }
def OpenCompleteCardSaid : Prop := Claim7.holds Tryd.pinned (.plain (OpenSpec.ofChange openCompleteSpec)) openCompleteCard

/-- THE TIED CARD OF 'tallykeep.OpenBent'. -/
def openBentCard : Claim7 := { stood := { row := openBentRow, standIns := [], harness := (true, "38365596aee10537731bc51a87d772ae4f70368031b4b8a444802d96a5068578"), looks := false }, kinds := [], alts := [], laidByText := true, laidKinds := [.data, .data], laidTests := true, laidLooks := .later }
def OpenBentCardSaid : Prop := Claim7.holds Tryd.pinned (.plain (OpenSpec.ofChange openBentSpec)) openBentCard

/-- THE SECOND FORM's CARD OF 'tallylaw.OpenSays'. -/
def openSaysUptoCard : Claim7 := { stood := { row := openSaysUptoRow, standIns := [], harness := (true, "38365596aee10537731bc51a87d772ae4f70368031b4b8a444802d96a5068578"), looks := false }, kinds := [], alts := [], laidByText := true, laidKinds := [.data, .data], laidTests := true, laidLooks := .later }
def OpenSaysUptoCardSaid : Prop := Claim7.holds Tryd.pinned (.plain (OpenSpec.upto openSaysSpec)) openSaysUptoCard

/-- THE SECOND FORM's CARD OF 'tallykeep.TreeBinds'. -/
def treeBindsUptoCard : Claim7 := { stood := { row := treeBindsUptoRow, standIns := [], harness := (true, "38365596aee10537731bc51a87d772ae4f70368031b4b8a444802d96a5068578"), looks := false }, kinds := [], alts := [], laidByText := true, laidKinds := [.data, .data], laidTests := true, laidLooks := .later }
def TreeBindsUptoCardSaid : Prop := Claim7.holds Tryd.pinned (.plain (OpenSpec.upto treeBindsSpec)) treeBindsUptoCard

/-- THE SECOND FORM's CARD OF 'tallykeep.WiringTells'. -/
def wiringTellsUptoCard : Claim7 := { stood := { row := wiringTellsUptoRow, standIns := [], harness := (true, "38365596aee10537731bc51a87d772ae4f70368031b4b8a444802d96a5068578"), looks := false }, kinds := [], alts := [], laidByText := true, laidKinds := [.data, .data], laidTests := true, laidLooks := .later }
def WiringTellsUptoCardSaid : Prop := Claim7.holds Tryd.pinned (.plain (OpenSpec.upto wiringTellsSpec)) wiringTellsUptoCard

/-- THE SECOND FORM's CARD OF 'tallykeep.OpenComplete'. -/
def openCompleteUptoCard : Claim7 := { stood := { row := openCompleteUptoRow, standIns := [], harness := (true, "38365596aee10537731bc51a87d772ae4f70368031b4b8a444802d96a5068578"), looks := false }, kinds := [], alts := [], laidByText := true, laidKinds := [.data, .data], laidTests := true, laidLooks := .later }
def OpenCompleteUptoCardSaid : Prop := Claim7.holds Tryd.pinned (.plain (OpenSpec.upto openCompleteSpec)) openCompleteUptoCard

/-- THE SECOND FORM's CARD OF 'tallykeep.OpenBent'. -/
def openBentUptoCard : Claim7 := { stood := { row := openBentUptoRow, standIns := [], harness := (true, "38365596aee10537731bc51a87d772ae4f70368031b4b8a444802d96a5068578"), looks := false }, kinds := [], alts := [], laidByText := true, laidKinds := [.data, .data], laidTests := true, laidLooks := .later }
def OpenBentUptoCardSaid : Prop := Claim7.holds Tryd.pinned (.plain (OpenSpec.upto openBentSpec)) openBentUptoCard
end Rows
end Go.Proofs.YtnnjajmkfgnhcaaDoor
