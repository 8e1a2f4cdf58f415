/-
  DERIVED. GIVEN WITH THE SEED: THE CARDS: each row of YtihacogpmhbbmaeDoorRows.lean that lists a variable, with what it lists TIED to the program's text (the seventh form; the later family's looks); each row that meets fmt, with fmt's text TOLD by the authors' own Lean function (tested against real Go, not proved from fmt's source: count such statements apart). THE CARD IS WHAT COUNTS. Prove the row's statement (the work); the ties are given (YtihacogpmhbbmaeDoorTie.lean); close each card by the builder's one call (the guide's Derived/Test/ToyasCard.lean, 'card_holds'). Laid BY PROGRAM, IN A SANDBOX (cutbox-door.mjs). By AI agents, Wed Nov 11 2026. No macro, syntax, notation, axiom, sorry.
-/
import Derived.Test.YtihacogpmhbbmaeDoorRows
import GoSem.ClaimSeven
namespace Go.Proofs.YtihacogpmhbbmaeDoor
namespace Rows

/-- THE TIED CARD OF 'tallykeep.SumSound'. -/
def sumSoundCard : Claim7 := { stood := { row := sumSoundRow, standIns := [], harness := (true, "53fa740f63751036797e464bcdcc17cad507d016ebe427c1035c99c6c9656ab6"), looks := false }, kinds := [], alts := [], laidByText := true, laidKinds := [.data, .data], laidTests := true, laidLooks := .later }
def SumSoundCardSaid : Prop := Claim7.holds Tryd.pinned (.plain (OpenSpec.ofChange sumSoundSpec)) sumSoundCard

/-- THE TIED CARD OF 'tallykeep.SumBent'. -/
def sumBentCard : Claim7 := { stood := { row := sumBentRow, standIns := [], harness := (true, "53fa740f63751036797e464bcdcc17cad507d016ebe427c1035c99c6c9656ab6"), looks := false }, kinds := [], alts := [], laidByText := true, laidKinds := [.data, .data], laidTests := true, laidLooks := .later }
def SumBentCardSaid : Prop := Claim7.holds Tryd.pinned (.plain (OpenSpec.ofChange sumBentSpec)) sumBentCard

/-- THE SECOND FORM's CARD OF 'tallykeep.SumSound'. -/
def sumSoundUptoCard : Claim7 := { stood := { row := sumSoundUptoRow, standIns := [], harness := (true, "53fa740f63751036797e464bcdcc17cad507d016ebe427c1035c99c6c9656ab6"), looks := false }, kinds := [], alts := [], laidByText := true, laidKinds := [.data, .data], laidTests := true, laidLooks := .later }
def SumSoundUptoCardSaid : Prop := Claim7.holds Tryd.pinned (.plain (OpenSpec.upto sumSoundSpec)) sumSoundUptoCard

/-- THE SECOND FORM's CARD OF 'tallykeep.SumBent'. -/
def sumBentUptoCard : Claim7 := { stood := { row := sumBentUptoRow, standIns := [], harness := (true, "53fa740f63751036797e464bcdcc17cad507d016ebe427c1035c99c6c9656ab6"), looks := false }, kinds := [], alts := [], laidByText := true, laidKinds := [.data, .data], laidTests := true, laidLooks := .later }
def SumBentUptoCardSaid : Prop := Claim7.holds Tryd.pinned (.plain (OpenSpec.upto sumBentSpec)) sumBentUptoCard
end Rows
end Go.Proofs.YtihacogpmhbbmaeDoor
