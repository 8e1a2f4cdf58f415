/-
  DERIVED. GIVEN WITH THE SEED: THE CARDS: each row of YtoogpkcpheannaaDoorRows.lean that lists a variable, with what it lists TIED to the program's text (the seventh form; the later family's looks); each row that meets fmt, with fmt's text TOLD by the authors' own Lean function (tested against real Go, not proved from fmt's source: count such statements apart). THE CARD IS WHAT COUNTS. Prove the row's statement (the work); the ties are given (YtoogpkcpheannaaDoorTie.lean); close each card by the builder's one call (the guide's Derived/Test/ToyasCard.lean, 'card_holds'). Laid BY PROGRAM, IN A SANDBOX (cutbox-door.mjs). By AI agents, Wed Nov 11 2026. No macro, syntax, notation, axiom, sorry.
-/
import Derived.Test.YtoogpkcpheannaaDoorRows
import GoSem.ClaimSeven
namespace Go.Proofs.YtoogpkcpheannaaDoor
namespace Rows

/-- THE TIED CARD OF 'tallylaw.MleSays'. -/
def mleSaysCard : Claim7 := { stood := { row := mleSaysRow, standIns := [], harness := (true, "287f21f75c4a23ec8e66bf8296e90ad98cae14138d756f3ed6db4f2d476e5d45"), looks := false }, kinds := [], alts := [], laidByText := true, laidKinds := [.data, .data], laidTests := true, laidLooks := .later }
def MleSaysCardSaid : Prop := Claim7.holds Tryd.pinned (.plain (OpenSpec.ofChange mleSaysSpec)) mleSaysCard

/-- THE TIED CARD OF 'tallylaw.SumSays'. -/
def sumSaysCard : Claim7 := { stood := { row := sumSaysRow, standIns := [], harness := (true, "287f21f75c4a23ec8e66bf8296e90ad98cae14138d756f3ed6db4f2d476e5d45"), looks := false }, kinds := [], alts := [], laidByText := true, laidKinds := [.data, .data], laidTests := true, laidLooks := .later }
def SumSaysCardSaid : Prop := Claim7.holds Tryd.pinned (.plain (OpenSpec.ofChange sumSaysSpec)) sumSaysCard

/-- THE TIED CARD OF 'tallylaw.SumProves'. -/
def sumProvesCard : Claim7 := { stood := { row := sumProvesRow, standIns := [], harness := (true, "287f21f75c4a23ec8e66bf8296e90ad98cae14138d756f3ed6db4f2d476e5d45"), looks := false }, kinds := [], alts := [], laidByText := true, laidKinds := [.data, .data], laidTests := true, laidLooks := .later }
def SumProvesCardSaid : Prop := Claim7.holds Tryd.pinned (.plain (OpenSpec.ofChange sumProvesSpec)) sumProvesCard

/-- THE SECOND FORM's CARD OF 'tallylaw.MleSays'. -/
def mleSaysUptoCard : Claim7 := { stood := { row := mleSaysUptoRow, standIns := [], harness := (true, "287f21f75c4a23ec8e66bf8296e90ad98cae14138d756f3ed6db4f2d476e5d45"), looks := false }, kinds := [], alts := [], laidByText := true, laidKinds := [.data, .data], laidTests := true, laidLooks := .later }
def MleSaysUptoCardSaid : Prop := Claim7.holds Tryd.pinned (.plain (OpenSpec.upto mleSaysSpec)) mleSaysUptoCard

/-- THE SECOND FORM's CARD OF 'tallylaw.SumSays'. -/
def sumSaysUptoCard : Claim7 := { stood := { row := sumSaysUptoRow, standIns := [], harness := (true, "287f21f75c4a23ec8e66bf8296e90ad98cae14138d756f3ed6db4f2d476e5d45"), looks := false }, kinds := [], alts := [], laidByText := true, laidKinds := [.data, .data], laidTests := true, laidLooks := .later }
def SumSaysUptoCardSaid : Prop := Claim7.holds Tryd.pinned (.plain (OpenSpec.upto sumSaysSpec)) sumSaysUptoCard

/-- THE SECOND FORM's CARD OF 'tallylaw.SumProves'. -/
def sumProvesUptoCard : Claim7 := { stood := { row := sumProvesUptoRow, standIns := [], harness := (true, "287f21f75c4a23ec8e66bf8296e90ad98cae14138d756f3ed6db4f2d476e5d45"), looks := false }, kinds := [], alts := [], laidByText := true, laidKinds := [.data, .data], laidTests := true, laidLooks := .later }
def SumProvesUptoCardSaid : Prop := Claim7.holds Tryd.pinned (.plain (OpenSpec.upto sumProvesSpec)) sumProvesUptoCard
end Rows
end Go.Proofs.YtoogpkcpheannaaDoor
