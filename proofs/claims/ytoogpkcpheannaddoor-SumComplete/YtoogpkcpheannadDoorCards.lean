/-
  DERIVED. GIVEN WITH THE SEED: THE CARDS: each row of YtoogpkcpheannadDoorRows.lean that lists a variable, with what it lists TIED to the program's text (the seventh form; the later family's looks); each row that meets fmt, with fmt's text TOLD by the authors' own Lean function (tested against real Go, not proved from fmt's source: count such statements apart). THE CARD IS WHAT COUNTS. Prove the row's statement (the work); the ties are given (YtoogpkcpheannadDoorTie.lean); close each card by the builder's one call (the guide's Derived/Test/ToyasCard.lean, 'card_holds'). Laid BY PROGRAM, IN A SANDBOX (cutbox-door.mjs). By AI agents, Wed Nov 11 2026. No macro, syntax, notation, axiom, sorry.
-/
import Derived.Test.YtoogpkcpheannadDoorRows
import GoSem.ClaimSeven
namespace Go.Proofs.YtoogpkcpheannadDoor
namespace Rows

/-- THE TIED CARD OF 'tallykeep.MleCorners'. -/
def mleCornersCard : Claim7 := { stood := { row := mleCornersRow, standIns := [], harness := (true, "8280cba51574707be41f3ada8b67706cbb80bfa1525eaf47f61542222f0abf29"), looks := false }, kinds := [], alts := [], laidByText := true, laidKinds := [.data, .data], laidTests := true, laidLooks := .later }
def MleCornersCardSaid : Prop := Claim7.holds Tryd.pinned (.plain (OpenSpec.ofChange mleCornersSpec)) mleCornersCard

/-- THE TIED CARD OF 'tallykeep.MleEqs'. -/
def mleEqsCard : Claim7 := { stood := { row := mleEqsRow, standIns := [], harness := (true, "8280cba51574707be41f3ada8b67706cbb80bfa1525eaf47f61542222f0abf29"), looks := false }, kinds := [], alts := [], laidByText := true, laidKinds := [.data, .data], laidTests := true, laidLooks := .later }
def MleEqsCardSaid : Prop := Claim7.holds Tryd.pinned (.plain (OpenSpec.ofChange mleEqsSpec)) mleEqsCard

/-- THE TIED CARD OF 'tallykeep.SumComplete'. -/
def sumCompleteCard : Claim7 := { stood := { row := sumCompleteRow, standIns := [], harness := (true, "8280cba51574707be41f3ada8b67706cbb80bfa1525eaf47f61542222f0abf29"), looks := false }, kinds := [], alts := [], laidByText := true, laidKinds := [.data, .data], laidTests := true, laidLooks := .later }
def SumCompleteCardSaid : Prop := Claim7.holds Tryd.pinned (.plain (OpenSpec.ofChange sumCompleteSpec)) sumCompleteCard

/-- THE SECOND FORM's CARD OF 'tallykeep.MleCorners'. -/
def mleCornersUptoCard : Claim7 := { stood := { row := mleCornersUptoRow, standIns := [], harness := (true, "8280cba51574707be41f3ada8b67706cbb80bfa1525eaf47f61542222f0abf29"), looks := false }, kinds := [], alts := [], laidByText := true, laidKinds := [.data, .data], laidTests := true, laidLooks := .later }
def MleCornersUptoCardSaid : Prop := Claim7.holds Tryd.pinned (.plain (OpenSpec.upto mleCornersSpec)) mleCornersUptoCard

/-- THE SECOND FORM's CARD OF 'tallykeep.MleEqs'. -/
def mleEqsUptoCard : Claim7 := { stood := { row := mleEqsUptoRow, standIns := [], harness := (true, "8280cba51574707be41f3ada8b67706cbb80bfa1525eaf47f61542222f0abf29"), looks := false }, kinds := [], alts := [], laidByText := true, laidKinds := [.data, .data], laidTests := true, laidLooks := .later }
def MleEqsUptoCardSaid : Prop := Claim7.holds Tryd.pinned (.plain (OpenSpec.upto mleEqsSpec)) mleEqsUptoCard

/-- THE SECOND FORM's CARD OF 'tallykeep.SumComplete'. -/
def sumCompleteUptoCard : Claim7 := { stood := { row := sumCompleteUptoRow, standIns := [], harness := (true, "8280cba51574707be41f3ada8b67706cbb80bfa1525eaf47f61542222f0abf29"), looks := false }, kinds := [], alts := [], laidByText := true, laidKinds := [.data, .data], laidTests := true, laidLooks := .later }
def SumCompleteUptoCardSaid : Prop := Claim7.holds Tryd.pinned (.plain (OpenSpec.upto sumCompleteSpec)) sumCompleteUptoCard
end Rows
end Go.Proofs.YtoogpkcpheannadDoor
