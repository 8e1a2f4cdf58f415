/-
  DERIVED. GIVEN WITH THE SEED: THE CARDS: each row of YtkmmdpmpfhlbcafDoorRows.lean that lists a variable, with what it lists TIED to the program's text (the seventh form; the later family's looks); each row that meets fmt, with fmt's text TOLD by the authors' own Lean function (tested against real Go, not proved from fmt's source: count such statements apart). THE CARD IS WHAT COUNTS. Prove the row's statement (the work); the ties are given (YtkmmdpmpfhlbcafDoorTie.lean); close each card by the builder's one call (the guide's Derived/Test/ToyasCard.lean, 'card_holds'). Laid BY PROGRAM, IN A SANDBOX (cutbox-door.mjs). By AI agents, Wed Nov 11 2026. No macro, syntax, notation, axiom, sorry.
-/
import Derived.Test.YtkmmdpmpfhlbcafDoorRows
import GoSem.ClaimSeven
namespace Go.Proofs.YtkmmdpmpfhlbcafDoor
namespace Rows

/-- THE TIED CARD OF 'tallykeep.WiringTells'. -/
def wiringTellsCard : Claim7 := { stood := { row := wiringTellsRow, standIns := [], harness := (true, "9263de942fce55cb3b498ca769a53ab53179e07d6e34a83a2733ad6cf34586c4"), looks := false }, kinds := [], alts := [], laidByText := true, laidKinds := [.data, .data], laidTests := true, laidLooks := .later }
def WiringTellsCardSaid : Prop := Claim7.holds Tryd.pinned (.plain (OpenSpec.ofChange wiringTellsSpec)) wiringTellsCard

/-- THE TIED CARD OF 'tallykeep.GkrComplete'. -/
def gkrCompleteCard : Claim7 := { stood := { row := gkrCompleteRow, standIns := [], harness := (true, "9263de942fce55cb3b498ca769a53ab53179e07d6e34a83a2733ad6cf34586c4"), looks := false }, kinds := [], alts := [], laidByText := true, laidKinds := [.data, .data], laidTests := true, laidLooks := .later }
def GkrCompleteCardSaid : Prop := Claim7.holds Tryd.pinned (.plain (OpenSpec.ofChange gkrCompleteSpec)) gkrCompleteCard

/-- THE TIED CARD OF 'tallykeep.GkrOutputs'. -/
def gkrOutputsCard : Claim7 := { stood := { row := gkrOutputsRow, standIns := [], harness := (true, "9263de942fce55cb3b498ca769a53ab53179e07d6e34a83a2733ad6cf34586c4"), looks := false }, kinds := [], alts := [], laidByText := true, laidKinds := [.data, .data], laidTests := true, laidLooks := .later }
def GkrOutputsCardSaid : Prop := Claim7.holds Tryd.pinned (.plain (OpenSpec.ofChange gkrOutputsSpec)) gkrOutputsCard

/-- THE TIED CARD OF 'tallykeep.FiatComplete'. -/
def fiatCompleteCard : Claim7 := { stood := { row := fiatCompleteRow, standIns := [], harness := (true, "9263de942fce55cb3b498ca769a53ab53179e07d6e34a83a2733ad6cf34586c4"), looks := false }, kinds := [], alts := [], laidByText := true, laidKinds := [.data, .data], laidTests := true, laidLooks := .later }
def FiatCompleteCardSaid : Prop := Claim7.holds Tryd.pinned (.plain (OpenSpec.ofChange fiatCompleteSpec)) fiatCompleteCard

/-- THE TIED CARD OF 'tallykeep.OpenComplete'. -/
def openCompleteCard : Claim7 := { stood := { row := openCompleteRow, standIns := [], harness := (true, "9263de942fce55cb3b498ca769a53ab53179e07d6e34a83a2733ad6cf34586c4"), looks := false }, kinds := [], alts := [], laidByText := true, laidKinds := [.data, .data], laidTests := true, laidLooks := .later }
def OpenCompleteCardSaid : Prop := Claim7.holds Tryd.pinned (.plain (OpenSpec.ofChange openCompleteSpec)) openCompleteCard

/-- THE SECOND FORM's CARD OF 'tallykeep.WiringTells'. -/
def wiringTellsUptoCard : Claim7 := { stood := { row := wiringTellsUptoRow, standIns := [], harness := (true, "9263de942fce55cb3b498ca769a53ab53179e07d6e34a83a2733ad6cf34586c4"), looks := false }, kinds := [], alts := [], laidByText := true, laidKinds := [.data, .data], laidTests := true, laidLooks := .later }
def WiringTellsUptoCardSaid : Prop := Claim7.holds Tryd.pinned (.plain (OpenSpec.upto wiringTellsSpec)) wiringTellsUptoCard

/-- THE SECOND FORM's CARD OF 'tallykeep.GkrComplete'. -/
def gkrCompleteUptoCard : Claim7 := { stood := { row := gkrCompleteUptoRow, standIns := [], harness := (true, "9263de942fce55cb3b498ca769a53ab53179e07d6e34a83a2733ad6cf34586c4"), looks := false }, kinds := [], alts := [], laidByText := true, laidKinds := [.data, .data], laidTests := true, laidLooks := .later }
def GkrCompleteUptoCardSaid : Prop := Claim7.holds Tryd.pinned (.plain (OpenSpec.upto gkrCompleteSpec)) gkrCompleteUptoCard

/-- THE SECOND FORM's CARD OF 'tallykeep.GkrOutputs'. -/
def gkrOutputsUptoCard : Claim7 := { stood := { row := gkrOutputsUptoRow, standIns := [], harness := (true, "9263de942fce55cb3b498ca769a53ab53179e07d6e34a83a2733ad6cf34586c4"), looks := false }, kinds := [], alts := [], laidByText := true, laidKinds := [.data, .data], laidTests := true, laidLooks := .later }
def GkrOutputsUptoCardSaid : Prop := Claim7.holds Tryd.pinned (.plain (OpenSpec.upto gkrOutputsSpec)) gkrOutputsUptoCard

/-- THE SECOND FORM's CARD OF 'tallykeep.FiatComplete'. -/
def fiatCompleteUptoCard : Claim7 := { stood := { row := fiatCompleteUptoRow, standIns := [], harness := (true, "9263de942fce55cb3b498ca769a53ab53179e07d6e34a83a2733ad6cf34586c4"), looks := false }, kinds := [], alts := [], laidByText := true, laidKinds := [.data, .data], laidTests := true, laidLooks := .later }
def FiatCompleteUptoCardSaid : Prop := Claim7.holds Tryd.pinned (.plain (OpenSpec.upto fiatCompleteSpec)) fiatCompleteUptoCard

/-- THE SECOND FORM's CARD OF 'tallykeep.OpenComplete'. -/
def openCompleteUptoCard : Claim7 := { stood := { row := openCompleteUptoRow, standIns := [], harness := (true, "9263de942fce55cb3b498ca769a53ab53179e07d6e34a83a2733ad6cf34586c4"), looks := false }, kinds := [], alts := [], laidByText := true, laidKinds := [.data, .data], laidTests := true, laidLooks := .later }
def OpenCompleteUptoCardSaid : Prop := Claim7.holds Tryd.pinned (.plain (OpenSpec.upto openCompleteSpec)) openCompleteUptoCard
end Rows
end Go.Proofs.YtkmmdpmpfhlbcafDoor
