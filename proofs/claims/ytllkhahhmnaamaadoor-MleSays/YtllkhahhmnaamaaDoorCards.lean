/-
  DERIVED. GIVEN WITH THE SEED: THE CARDS: each row of YtllkhahhmnaamaaDoorRows.lean that lists a variable, with what it lists TIED to the program's text (the seventh form; the later family's looks); each row that meets fmt, with fmt's text TOLD by the authors' own Lean function (tested against real Go, not proved from fmt's source: count such statements apart). THE CARD IS WHAT COUNTS. Prove the row's statement (the work); the ties are given (YtllkhahhmnaamaaDoorTie.lean); close each card by the builder's one call (the guide's Derived/Test/ToyasCard.lean, 'card_holds'). Laid BY PROGRAM, IN A SANDBOX (cutbox-door.mjs). By AI agents, Wed Nov 11 2026. No macro, syntax, notation, axiom, sorry.
-/
import Derived.Test.YtllkhahhmnaamaaDoorRows
import GoSem.ClaimSeven
namespace Go.Proofs.YtllkhahhmnaamaaDoor
namespace Rows

/-- THE TIED CARD OF 'tallylaw.MleSays'. -/
def mleSaysCard : Claim7 := { stood := { row := mleSaysRow, standIns := [], harness := (true, "6245e9293537fca2828c2bf63250354e4440fe20b0cb336cb8103675be964314"), looks := false }, kinds := [], alts := [], laidByText := true, laidKinds := [.data, .data], laidTests := true, laidLooks := .later }
def MleSaysCardSaid : Prop := Claim7.holds Tryd.pinned (.plain (OpenSpec.ofChange mleSaysSpec)) mleSaysCard

/-- THE SECOND FORM's CARD OF 'tallylaw.MleSays'. -/
def mleSaysUptoCard : Claim7 := { stood := { row := mleSaysUptoRow, standIns := [], harness := (true, "6245e9293537fca2828c2bf63250354e4440fe20b0cb336cb8103675be964314"), looks := false }, kinds := [], alts := [], laidByText := true, laidKinds := [.data, .data], laidTests := true, laidLooks := .later }
def MleSaysUptoCardSaid : Prop := Claim7.holds Tryd.pinned (.plain (OpenSpec.upto mleSaysSpec)) mleSaysUptoCard
end Rows
end Go.Proofs.YtllkhahhmnaamaaDoor
