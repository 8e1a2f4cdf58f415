/-
  DERIVED. GIVEN WITH THE SEED: THE CARDS: each row of YtkmmdpmpfhlbcagDoorRows.lean that lists a variable, with what it lists TIED to the program's text (the seventh form; the later family's looks); each row that meets fmt, with fmt's text TOLD by the authors' own Lean function (tested against real Go, not proved from fmt's source: count such statements apart). THE CARD IS WHAT COUNTS. Prove the row's statement (the work); the ties are given (YtkmmdpmpfhlbcagDoorTie.lean); close each card by the builder's one call (the guide's Derived/Test/ToyasCard.lean, 'card_holds'). Laid BY PROGRAM, IN A SANDBOX (cutbox-door.mjs). By AI agents, Wed Nov 11 2026. No macro, syntax, notation, axiom, sorry.
-/
import Derived.Test.YtkmmdpmpfhlbcagDoorRows
import GoSem.ClaimSeven
namespace Go.Proofs.YtkmmdpmpfhlbcagDoor
namespace Rows

/-- THE TIED CARD OF 'tallykeep.OpenBent'. -/
def openBentCard : Claim7 := { stood := { row := openBentRow, standIns := [], harness := (true, "b364539d06fb819a59b7567c49ca97822a2a13f2e239067b35e5cf0510069b38"), looks := false }, kinds := [], alts := [], laidByText := true, laidKinds := [.data, .data], laidTests := true, laidLooks := .later }
def OpenBentCardSaid : Prop := Claim7.holds Tryd.pinned (.plain (OpenSpec.ofChange openBentSpec)) openBentCard

/-- THE TIED CARD OF 'tallytop.TopComplete'. -/
def topCompleteCard : Claim7 := { stood := { row := topCompleteRow, standIns := [], harness := (true, "b364539d06fb819a59b7567c49ca97822a2a13f2e239067b35e5cf0510069b38"), looks := false }, kinds := [], alts := [], laidByText := true, laidKinds := [.data, .data], laidTests := true, laidLooks := .later }
def TopCompleteCardSaid : Prop := Claim7.holds Tryd.pinned (.plain (OpenSpec.ofChange topCompleteSpec)) topCompleteCard

/-- THE TIED CARD OF 'tallytop.TopSound'. -/
def topSoundCard : Claim7 := { stood := { row := topSoundRow, standIns := [], harness := (true, "b364539d06fb819a59b7567c49ca97822a2a13f2e239067b35e5cf0510069b38"), looks := false }, kinds := [], alts := [], laidByText := true, laidKinds := [.data, .data], laidTests := true, laidLooks := .later }
def TopSoundCardSaid : Prop := Claim7.holds Tryd.pinned (.plain (OpenSpec.ofChange topSoundSpec)) topSoundCard

/-- THE SECOND FORM's CARD OF 'tallykeep.OpenBent'. -/
def openBentUptoCard : Claim7 := { stood := { row := openBentUptoRow, standIns := [], harness := (true, "b364539d06fb819a59b7567c49ca97822a2a13f2e239067b35e5cf0510069b38"), looks := false }, kinds := [], alts := [], laidByText := true, laidKinds := [.data, .data], laidTests := true, laidLooks := .later }
def OpenBentUptoCardSaid : Prop := Claim7.holds Tryd.pinned (.plain (OpenSpec.upto openBentSpec)) openBentUptoCard

/-- THE SECOND FORM's CARD OF 'tallytop.TopComplete'. -/
def topCompleteUptoCard : Claim7 := { stood := { row := topCompleteUptoRow, standIns := [], harness := (true, "b364539d06fb819a59b7567c49ca97822a2a13f2e239067b35e5cf0510069b38"), looks := false }, kinds := [], alts := [], laidByText := true, laidKinds := [.data, .data], laidTests := true, laidLooks := .later }
def TopCompleteUptoCardSaid : Prop := Claim7.holds Tryd.pinned (.plain (OpenSpec.upto topCompleteSpec)) topCompleteUptoCard

/-- THE SECOND FORM's CARD OF 'tallytop.TopSound'. -/
def topSoundUptoCard : Claim7 := { stood := { row := topSoundUptoRow, standIns := [], harness := (true, "b364539d06fb819a59b7567c49ca97822a2a13f2e239067b35e5cf0510069b38"), looks := false }, kinds := [], alts := [], laidByText := true, laidKinds := [.data, .data], laidTests := true, laidLooks := .later }
def TopSoundUptoCardSaid : Prop := Claim7.holds Tryd.pinned (.plain (OpenSpec.upto topSoundSpec)) topSoundUptoCard
end Rows
end Go.Proofs.YtkmmdpmpfhlbcagDoor
