/-
  DERIVED. GIVEN WITH THE SEED: THE CARDS: each row of YtkhacijkfjcdeaaDoorRows.lean that lists a variable, with what it lists TIED to the program's text (the seventh form; the later family's looks); each row that meets fmt, with fmt's text TOLD by the authors' own Lean function (tested against real Go, not proved from fmt's source: count such statements apart). THE CARD IS WHAT COUNTS. Prove the row's statement (the work); the ties are given (YtkhacijkfjcdeaaDoorTie.lean); close each card by the builder's one call (the guide's Derived/Test/ToyasCard.lean, 'card_holds'). Laid BY PROGRAM, IN A SANDBOX (cutbox-door.mjs). By AI agents, Wed Nov 11 2026. No macro, syntax, notation, axiom, sorry.
-/
import Derived.Test.YtkhacijkfjcdeaaDoorRows
import GoSem.ClaimSeven
namespace Go.Proofs.YtkhacijkfjcdeaaDoor
namespace Rows

/-- THE TIED CARD OF 'tallylaw.GkrVerifies'. -/
def gkrVerifiesCard : Claim7 := { stood := { row := gkrVerifiesRow, standIns := [], harness := (true, "427f7eb6ba3b826f4074b1df59ca35962af085d113e440a5be2be5bcfd8dd16d"), looks := false }, kinds := [], alts := [], laidByText := true, laidKinds := [.data, .data], laidTests := true, laidLooks := .later }
def GkrVerifiesCardSaid : Prop := Claim7.holds Tryd.pinned (.plain (OpenSpec.ofChange gkrVerifiesSpec)) gkrVerifiesCard

/-- THE TIED CARD OF 'tallylaw.FiatSays'. -/
def fiatSaysCard : Claim7 := { stood := { row := fiatSaysRow, standIns := [], harness := (true, "427f7eb6ba3b826f4074b1df59ca35962af085d113e440a5be2be5bcfd8dd16d"), looks := false }, kinds := [], alts := [], laidByText := true, laidKinds := [.data, .data], laidTests := true, laidLooks := .later }
def FiatSaysCardSaid : Prop := Claim7.holds Tryd.pinned (.plain (OpenSpec.ofChange fiatSaysSpec)) fiatSaysCard

/-- THE TIED CARD OF 'tallylaw.FiatVerifies'. -/
def fiatVerifiesCard : Claim7 := { stood := { row := fiatVerifiesRow, standIns := [], harness := (true, "427f7eb6ba3b826f4074b1df59ca35962af085d113e440a5be2be5bcfd8dd16d"), looks := false }, kinds := [], alts := [], laidByText := true, laidKinds := [.data, .data], laidTests := true, laidLooks := .later }
def FiatVerifiesCardSaid : Prop := Claim7.holds Tryd.pinned (.plain (OpenSpec.ofChange fiatVerifiesSpec)) fiatVerifiesCard

/-- THE TIED CARD OF 'tallykeep.GkrComplete'. -/
def gkrCompleteCard : Claim7 := { stood := { row := gkrCompleteRow, standIns := [], harness := (true, "427f7eb6ba3b826f4074b1df59ca35962af085d113e440a5be2be5bcfd8dd16d"), looks := false }, kinds := [], alts := [], laidByText := true, laidKinds := [.data, .data], laidTests := true, laidLooks := .later }
def GkrCompleteCardSaid : Prop := Claim7.holds Tryd.pinned (.plain (OpenSpec.ofChange gkrCompleteSpec)) gkrCompleteCard

/-- THE TIED CARD OF 'tallykeep.GkrOutputs'. -/
def gkrOutputsCard : Claim7 := { stood := { row := gkrOutputsRow, standIns := [], harness := (true, "427f7eb6ba3b826f4074b1df59ca35962af085d113e440a5be2be5bcfd8dd16d"), looks := false }, kinds := [], alts := [], laidByText := true, laidKinds := [.data, .data], laidTests := true, laidLooks := .later }
def GkrOutputsCardSaid : Prop := Claim7.holds Tryd.pinned (.plain (OpenSpec.ofChange gkrOutputsSpec)) gkrOutputsCard

/-- THE SECOND FORM's CARD OF 'tallylaw.GkrVerifies'. -/
def gkrVerifiesUptoCard : Claim7 := { stood := { row := gkrVerifiesUptoRow, standIns := [], harness := (true, "427f7eb6ba3b826f4074b1df59ca35962af085d113e440a5be2be5bcfd8dd16d"), looks := false }, kinds := [], alts := [], laidByText := true, laidKinds := [.data, .data], laidTests := true, laidLooks := .later }
def GkrVerifiesUptoCardSaid : Prop := Claim7.holds Tryd.pinned (.plain (OpenSpec.upto gkrVerifiesSpec)) gkrVerifiesUptoCard

/-- THE SECOND FORM's CARD OF 'tallylaw.FiatSays'. -/
def fiatSaysUptoCard : Claim7 := { stood := { row := fiatSaysUptoRow, standIns := [], harness := (true, "427f7eb6ba3b826f4074b1df59ca35962af085d113e440a5be2be5bcfd8dd16d"), looks := false }, kinds := [], alts := [], laidByText := true, laidKinds := [.data, .data], laidTests := true, laidLooks := .later }
def FiatSaysUptoCardSaid : Prop := Claim7.holds Tryd.pinned (.plain (OpenSpec.upto fiatSaysSpec)) fiatSaysUptoCard

/-- THE SECOND FORM's CARD OF 'tallylaw.FiatVerifies'. -/
def fiatVerifiesUptoCard : Claim7 := { stood := { row := fiatVerifiesUptoRow, standIns := [], harness := (true, "427f7eb6ba3b826f4074b1df59ca35962af085d113e440a5be2be5bcfd8dd16d"), looks := false }, kinds := [], alts := [], laidByText := true, laidKinds := [.data, .data], laidTests := true, laidLooks := .later }
def FiatVerifiesUptoCardSaid : Prop := Claim7.holds Tryd.pinned (.plain (OpenSpec.upto fiatVerifiesSpec)) fiatVerifiesUptoCard

/-- THE SECOND FORM's CARD OF 'tallykeep.GkrComplete'. -/
def gkrCompleteUptoCard : Claim7 := { stood := { row := gkrCompleteUptoRow, standIns := [], harness := (true, "427f7eb6ba3b826f4074b1df59ca35962af085d113e440a5be2be5bcfd8dd16d"), looks := false }, kinds := [], alts := [], laidByText := true, laidKinds := [.data, .data], laidTests := true, laidLooks := .later }
def GkrCompleteUptoCardSaid : Prop := Claim7.holds Tryd.pinned (.plain (OpenSpec.upto gkrCompleteSpec)) gkrCompleteUptoCard

/-- THE SECOND FORM's CARD OF 'tallykeep.GkrOutputs'. -/
def gkrOutputsUptoCard : Claim7 := { stood := { row := gkrOutputsUptoRow, standIns := [], harness := (true, "427f7eb6ba3b826f4074b1df59ca35962af085d113e440a5be2be5bcfd8dd16d"), looks := false }, kinds := [], alts := [], laidByText := true, laidKinds := [.data, .data], laidTests := true, laidLooks := .later }
def GkrOutputsUptoCardSaid : Prop := Claim7.holds Tryd.pinned (.plain (OpenSpec.upto gkrOutputsSpec)) gkrOutputsUptoCard
end Rows
end Go.Proofs.YtkhacijkfjcdeaaDoor
