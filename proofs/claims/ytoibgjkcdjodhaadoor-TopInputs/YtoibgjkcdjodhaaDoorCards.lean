/-
  DERIVED. GIVEN WITH THE SEED: THE CARDS: each row of YtoibgjkcdjodhaaDoorRows.lean that lists a variable, with what it lists TIED to the program's text (the seventh form; the later family's looks); each row that meets fmt, with fmt's text TOLD by the authors' own Lean function (tested against real Go, not proved from fmt's source: count such statements apart). THE CARD IS WHAT COUNTS. Prove the row's statement (the work); the ties are given (YtoibgjkcdjodhaaDoorTie.lean); close each card by the builder's one call (the guide's Derived/Test/ToyasCard.lean, 'card_holds'). Laid BY PROGRAM, IN A SANDBOX (cutbox-door.mjs). By AI agents, Wed Nov 11 2026. No macro, syntax, notation, axiom, sorry.
-/
import Derived.Test.YtoibgjkcdjodhaaDoorRows
import GoSem.ClaimSeven
namespace Go.Proofs.YtoibgjkcdjodhaaDoor
namespace Rows

/-- THE TIED CARD OF 'tallykeep.FiatComplete'. -/
def fiatCompleteCard : Claim7 := { stood := { row := fiatCompleteRow, standIns := [], harness := (true, "79f4a8f7d77721df1eacc779d3fe585898466bd185aeb545cb474db342e19b13"), looks := false }, kinds := [], alts := [], laidByText := true, laidKinds := [.data, .data], laidTests := true, laidLooks := .later }
def FiatCompleteCardSaid : Prop := Claim7.holds Tryd.pinned (.plain (OpenSpec.ofChange fiatCompleteSpec)) fiatCompleteCard

/-- THE TIED CARD OF 'tallytop.TopComplete'. -/
def topCompleteCard : Claim7 := { stood := { row := topCompleteRow, standIns := [], harness := (true, "79f4a8f7d77721df1eacc779d3fe585898466bd185aeb545cb474db342e19b13"), looks := false }, kinds := [], alts := [], laidByText := true, laidKinds := [.data, .data], laidTests := true, laidLooks := .later }
def TopCompleteCardSaid : Prop := Claim7.holds Tryd.pinned (.plain (OpenSpec.ofChange topCompleteSpec)) topCompleteCard

/-- THE TIED CARD OF 'tallytop.TopSound'. -/
def topSoundCard : Claim7 := { stood := { row := topSoundRow, standIns := [], harness := (true, "79f4a8f7d77721df1eacc779d3fe585898466bd185aeb545cb474db342e19b13"), looks := false }, kinds := [], alts := [], laidByText := true, laidKinds := [.data, .data], laidTests := true, laidLooks := .later }
def TopSoundCardSaid : Prop := Claim7.holds Tryd.pinned (.plain (OpenSpec.ofChange topSoundSpec)) topSoundCard

/-- THE TIED CARD OF 'tallytop.TopInputs'. -/
def topInputsCard : Claim7 := { stood := { row := topInputsRow, standIns := [], harness := (true, "79f4a8f7d77721df1eacc779d3fe585898466bd185aeb545cb474db342e19b13"), looks := false }, kinds := [], alts := [], laidByText := true, laidKinds := [.data, .data], laidTests := true, laidLooks := .later }
def TopInputsCardSaid : Prop := Claim7.holds Tryd.pinned (.plain (OpenSpec.ofChange topInputsSpec)) topInputsCard

/-- THE SECOND FORM's CARD OF 'tallykeep.FiatComplete'. -/
def fiatCompleteUptoCard : Claim7 := { stood := { row := fiatCompleteUptoRow, standIns := [], harness := (true, "79f4a8f7d77721df1eacc779d3fe585898466bd185aeb545cb474db342e19b13"), looks := false }, kinds := [], alts := [], laidByText := true, laidKinds := [.data, .data], laidTests := true, laidLooks := .later }
def FiatCompleteUptoCardSaid : Prop := Claim7.holds Tryd.pinned (.plain (OpenSpec.upto fiatCompleteSpec)) fiatCompleteUptoCard

/-- THE SECOND FORM's CARD OF 'tallytop.TopComplete'. -/
def topCompleteUptoCard : Claim7 := { stood := { row := topCompleteUptoRow, standIns := [], harness := (true, "79f4a8f7d77721df1eacc779d3fe585898466bd185aeb545cb474db342e19b13"), looks := false }, kinds := [], alts := [], laidByText := true, laidKinds := [.data, .data], laidTests := true, laidLooks := .later }
def TopCompleteUptoCardSaid : Prop := Claim7.holds Tryd.pinned (.plain (OpenSpec.upto topCompleteSpec)) topCompleteUptoCard

/-- THE SECOND FORM's CARD OF 'tallytop.TopSound'. -/
def topSoundUptoCard : Claim7 := { stood := { row := topSoundUptoRow, standIns := [], harness := (true, "79f4a8f7d77721df1eacc779d3fe585898466bd185aeb545cb474db342e19b13"), looks := false }, kinds := [], alts := [], laidByText := true, laidKinds := [.data, .data], laidTests := true, laidLooks := .later }
def TopSoundUptoCardSaid : Prop := Claim7.holds Tryd.pinned (.plain (OpenSpec.upto topSoundSpec)) topSoundUptoCard

/-- THE SECOND FORM's CARD OF 'tallytop.TopInputs'. -/
def topInputsUptoCard : Claim7 := { stood := { row := topInputsUptoRow, standIns := [], harness := (true, "79f4a8f7d77721df1eacc779d3fe585898466bd185aeb545cb474db342e19b13"), looks := false }, kinds := [], alts := [], laidByText := true, laidKinds := [.data, .data], laidTests := true, laidLooks := .later }
def TopInputsUptoCardSaid : Prop := Claim7.holds Tryd.pinned (.plain (OpenSpec.upto topInputsSpec)) topInputsUptoCard
end Rows
end Go.Proofs.YtoibgjkcdjodhaaDoor
