/-
  DERIVED. GIVEN WITH THE SEED: THE CARDS: each row of YtfdbmpadfdeepafDoorRows.lean that lists a variable, with what it lists TIED to the program's text (the seventh form; the later family's looks); each row that meets fmt, with fmt's text TOLD by the authors' own Lean function (tested against real Go, not proved from fmt's source: count such statements apart). THE CARD IS WHAT COUNTS. Prove the row's statement (the work); the ties are given (YtfdbmpadfdeepafDoorTie.lean); close each card by the builder's one call (the guide's Derived/Test/ToyasCard.lean, 'card_holds'). Laid BY PROGRAM, IN A SANDBOX (cutbox-door.mjs). By AI agents, Wed Nov 11 2026. No macro, syntax, notation, axiom, sorry.
-/
import Derived.Test.YtfdbmpadfdeepafDoorRows
import GoSem.ClaimSeven
namespace Go.Proofs.YtfdbmpadfdeepafDoor
namespace Rows

/-- THE TIED CARD OF 'tallykeep.WiringTells'. -/
def wiringTellsCard : Claim7 := { stood := { row := wiringTellsRow, standIns := [], harness := (true, "969407846fb2d17f41fba21e651b046e7edbc151e2263ce37db03e321f53e43e"), looks := false }, kinds := [], alts := [], laidByText := true, laidKinds := [.data, .data], laidTests := true, laidLooks := .later }
def WiringTellsCardSaid : Prop := Claim7.holds Tryd.pinned (.plain (OpenSpec.ofChange wiringTellsSpec)) wiringTellsCard

/-- THE SECOND FORM's CARD OF 'tallykeep.WiringTells'. -/
def wiringTellsUptoCard : Claim7 := { stood := { row := wiringTellsUptoRow, standIns := [], harness := (true, "969407846fb2d17f41fba21e651b046e7edbc151e2263ce37db03e321f53e43e"), looks := false }, kinds := [], alts := [], laidByText := true, laidKinds := [.data, .data], laidTests := true, laidLooks := .later }
def WiringTellsUptoCardSaid : Prop := Claim7.holds Tryd.pinned (.plain (OpenSpec.upto wiringTellsSpec)) wiringTellsUptoCard
end Rows
end Go.Proofs.YtfdbmpadfdeepafDoor
