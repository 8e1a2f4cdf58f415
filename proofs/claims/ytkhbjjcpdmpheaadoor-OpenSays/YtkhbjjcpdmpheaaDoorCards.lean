/-
  DERIVED. GIVEN WITH THE SEED: THE CARDS: each row of YtkhbjjcpdmpheaaDoorRows.lean that lists a variable, with what it lists TIED to the program's text (the seventh form; the later family's looks); each row that meets fmt, with fmt's text TOLD by the authors' own Lean function (tested against real Go, not proved from fmt's source: count such statements apart). THE CARD IS WHAT COUNTS. Prove the row's statement (the work); the ties are given (YtkhbjjcpdmpheaaDoorTie.lean); close each card by the builder's one call (the guide's Derived/Test/ToyasCard.lean, 'card_holds'). Laid BY PROGRAM, IN A SANDBOX (cutbox-door.mjs). By AI agents, Wed Nov 11 2026. No macro, syntax, notation, axiom, sorry.
-/
import Derived.Test.YtkhbjjcpdmpheaaDoorRows
import GoSem.ClaimSeven
namespace Go.Proofs.YtkhbjjcpdmpheaaDoor
namespace Rows

/-- THE TIED CARD OF 'tallylaw.OpenSays'. -/
def openSaysCard : Claim7 := { stood := { row := openSaysRow, standIns := [], harness := (true, "27c0a5adc9856a1c393b6effd2f04f4138bf1e892efa8f4fe13c757c4e9dcc14"), looks := false }, kinds := [], alts := [], laidByText := true, laidKinds := [.data, .data], laidTests := true, laidLooks := .later }
def OpenSaysCardSaid : Prop := Claim7.holds Tryd.pinned (.plain (OpenSpec.ofChange openSaysSpec)) openSaysCard

/-- THE SECOND FORM's CARD OF 'tallylaw.OpenSays'. -/
def openSaysUptoCard : Claim7 := { stood := { row := openSaysUptoRow, standIns := [], harness := (true, "27c0a5adc9856a1c393b6effd2f04f4138bf1e892efa8f4fe13c757c4e9dcc14"), looks := false }, kinds := [], alts := [], laidByText := true, laidKinds := [.data, .data], laidTests := true, laidLooks := .later }
def OpenSaysUptoCardSaid : Prop := Claim7.holds Tryd.pinned (.plain (OpenSpec.upto openSaysSpec)) openSaysUptoCard
end Rows
end Go.Proofs.YtkhbjjcpdmpheaaDoor
