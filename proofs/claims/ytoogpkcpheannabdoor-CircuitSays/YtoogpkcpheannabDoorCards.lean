/-
  DERIVED. GIVEN WITH THE SEED: THE CARDS: each row of YtoogpkcpheannabDoorRows.lean that lists a variable, with what it lists TIED to the program's text (the seventh form; the later family's looks); each row that meets fmt, with fmt's text TOLD by the authors' own Lean function (tested against real Go, not proved from fmt's source: count such statements apart). THE CARD IS WHAT COUNTS. Prove the row's statement (the work); the ties are given (YtoogpkcpheannabDoorTie.lean); close each card by the builder's one call (the guide's Derived/Test/ToyasCard.lean, 'card_holds'). Laid BY PROGRAM, IN A SANDBOX (cutbox-door.mjs). By AI agents, Wed Nov 11 2026. No macro, syntax, notation, axiom, sorry.
-/
import Derived.Test.YtoogpkcpheannabDoorRows
import GoSem.ClaimSeven
namespace Go.Proofs.YtoogpkcpheannabDoor
namespace Rows

/-- THE TIED CARD OF 'tallylaw.TreeSays'. -/
def treeSaysCard : Claim7 := { stood := { row := treeSaysRow, standIns := [], harness := (true, "8f5987a9688e69e774a5c85026c547735397b07dd7131d9bbab2720661fba156"), looks := false }, kinds := [], alts := [], laidByText := true, laidKinds := [.data, .data], laidTests := true, laidLooks := .later }
def TreeSaysCardSaid : Prop := Claim7.holds Tryd.pinned (.plain (OpenSpec.ofChange treeSaysSpec)) treeSaysCard

/-- THE TIED CARD OF 'tallylaw.CircuitSays'. -/
def circuitSaysCard : Claim7 := { stood := { row := circuitSaysRow, standIns := [], harness := (true, "8f5987a9688e69e774a5c85026c547735397b07dd7131d9bbab2720661fba156"), looks := false }, kinds := [], alts := [], laidByText := true, laidKinds := [.data, .data, .data], laidTests := true, laidLooks := .later }
def CircuitSaysCardSaid : Prop := Claim7.holds Tryd.pinned (.plain (OpenSpec.ofChange circuitSaysSpec)) circuitSaysCard

/-- THE TIED CARD OF 'tallylaw.CircuitReads'. -/
def circuitReadsCard : Claim7 := { stood := { row := circuitReadsRow, standIns := [], harness := (true, "8f5987a9688e69e774a5c85026c547735397b07dd7131d9bbab2720661fba156"), looks := false }, kinds := [], alts := [], laidByText := true, laidKinds := [.data, .pinned], laidTests := true, laidLooks := .later }
def CircuitReadsCardSaid : Prop := Claim7.holds Tryd.pinned (.plain (OpenSpec.ofChange circuitReadsSpec)) circuitReadsCard

/-- THE SECOND FORM's CARD OF 'tallylaw.TreeSays'. -/
def treeSaysUptoCard : Claim7 := { stood := { row := treeSaysUptoRow, standIns := [], harness := (true, "8f5987a9688e69e774a5c85026c547735397b07dd7131d9bbab2720661fba156"), looks := false }, kinds := [], alts := [], laidByText := true, laidKinds := [.data, .data], laidTests := true, laidLooks := .later }
def TreeSaysUptoCardSaid : Prop := Claim7.holds Tryd.pinned (.plain (OpenSpec.upto treeSaysSpec)) treeSaysUptoCard

/-- THE SECOND FORM's CARD OF 'tallylaw.CircuitSays'. -/
def circuitSaysUptoCard : Claim7 := { stood := { row := circuitSaysUptoRow, standIns := [], harness := (true, "8f5987a9688e69e774a5c85026c547735397b07dd7131d9bbab2720661fba156"), looks := false }, kinds := [], alts := [], laidByText := true, laidKinds := [.data, .data, .data], laidTests := true, laidLooks := .later }
def CircuitSaysUptoCardSaid : Prop := Claim7.holds Tryd.pinned (.plain (OpenSpec.upto circuitSaysSpec)) circuitSaysUptoCard

/-- THE SECOND FORM's CARD OF 'tallylaw.CircuitReads'. -/
def circuitReadsUptoCard : Claim7 := { stood := { row := circuitReadsUptoRow, standIns := [], harness := (true, "8f5987a9688e69e774a5c85026c547735397b07dd7131d9bbab2720661fba156"), looks := false }, kinds := [], alts := [], laidByText := true, laidKinds := [.data, .pinned], laidTests := true, laidLooks := .later }
def CircuitReadsUptoCardSaid : Prop := Claim7.holds Tryd.pinned (.plain (OpenSpec.upto circuitReadsSpec)) circuitReadsUptoCard
end Rows
end Go.Proofs.YtoogpkcpheannabDoor
