/-
  DERIVED. GIVEN WITH THE SEED: THE CARDS: each row of YtnmkdmncmaakmaeDoorRows.lean that lists a variable, with what it lists TIED to the program's text (the seventh form; the later family's looks); each row that meets fmt, with fmt's text TOLD by the authors' own Lean function (tested against real Go, not proved from fmt's source: count such statements apart). THE CARD IS WHAT COUNTS. Prove the row's statement (the work); the ties are given (YtnmkdmncmaakmaeDoorTie.lean); close each card by the builder's one call (the guide's Derived/Test/ToyasCard.lean, 'card_holds'). Laid BY PROGRAM, IN A SANDBOX (cutbox-door.mjs). By AI agents, Wed Nov 11 2026. No macro, syntax, notation, axiom, sorry.
-/
import Derived.Test.YtnmkdmncmaakmaeDoorRows
import GoSem.ClaimSeven
namespace Go.Proofs.YtnmkdmncmaakmaeDoor
namespace Rows

/-- THE TIED CARD OF 'tallykeep.SumSound'. -/
def sumSoundCard : Claim7 := { stood := { row := sumSoundRow, standIns := [], harness := (true, "11d946c3b34d5af23163a1ad1eb3d12653d2635f682ea685fd668af06e6d480b"), looks := false }, kinds := [], alts := [], laidByText := true, laidKinds := [.data, .data], laidTests := true, laidLooks := .later }
def SumSoundCardSaid : Prop := Claim7.holds Tryd.pinned (.plain (OpenSpec.ofChange sumSoundSpec)) sumSoundCard

/-- THE TIED CARD OF 'tallykeep.SumBent'. -/
def sumBentCard : Claim7 := { stood := { row := sumBentRow, standIns := [], harness := (true, "11d946c3b34d5af23163a1ad1eb3d12653d2635f682ea685fd668af06e6d480b"), looks := false }, kinds := [], alts := [], laidByText := true, laidKinds := [.data, .data], laidTests := true, laidLooks := .later }
def SumBentCardSaid : Prop := Claim7.holds Tryd.pinned (.plain (OpenSpec.ofChange sumBentSpec)) sumBentCard

/-- THE TIED CARD OF 'tallykeep.TreePaths'. -/
def treePathsCard : Claim7 := { stood := { row := treePathsRow, standIns := [], harness := (true, "11d946c3b34d5af23163a1ad1eb3d12653d2635f682ea685fd668af06e6d480b"), looks := false }, kinds := [], alts := [], laidByText := true, laidKinds := [.data, .data], laidTests := true, laidLooks := .later }
def TreePathsCardSaid : Prop := Claim7.holds Tryd.pinned (.plain (OpenSpec.ofChange treePathsSpec)) treePathsCard

/-- THE TIED CARD OF 'tallykeep.TreeBinds'. -/
def treeBindsCard : Claim7 := { stood := { row := treeBindsRow, standIns := [], harness := (true, "11d946c3b34d5af23163a1ad1eb3d12653d2635f682ea685fd668af06e6d480b"), looks := false }, kinds := [], alts := [], laidByText := true, laidKinds := [.data, .data], laidTests := true, laidLooks := .later }
def TreeBindsCardSaid : Prop := Claim7.holds Tryd.pinned (.plain (OpenSpec.ofChange treeBindsSpec)) treeBindsCard

/-- THE SECOND FORM's CARD OF 'tallykeep.SumSound'. -/
def sumSoundUptoCard : Claim7 := { stood := { row := sumSoundUptoRow, standIns := [], harness := (true, "11d946c3b34d5af23163a1ad1eb3d12653d2635f682ea685fd668af06e6d480b"), looks := false }, kinds := [], alts := [], laidByText := true, laidKinds := [.data, .data], laidTests := true, laidLooks := .later }
def SumSoundUptoCardSaid : Prop := Claim7.holds Tryd.pinned (.plain (OpenSpec.upto sumSoundSpec)) sumSoundUptoCard

/-- THE SECOND FORM's CARD OF 'tallykeep.SumBent'. -/
def sumBentUptoCard : Claim7 := { stood := { row := sumBentUptoRow, standIns := [], harness := (true, "11d946c3b34d5af23163a1ad1eb3d12653d2635f682ea685fd668af06e6d480b"), looks := false }, kinds := [], alts := [], laidByText := true, laidKinds := [.data, .data], laidTests := true, laidLooks := .later }
def SumBentUptoCardSaid : Prop := Claim7.holds Tryd.pinned (.plain (OpenSpec.upto sumBentSpec)) sumBentUptoCard

/-- THE SECOND FORM's CARD OF 'tallykeep.TreePaths'. -/
def treePathsUptoCard : Claim7 := { stood := { row := treePathsUptoRow, standIns := [], harness := (true, "11d946c3b34d5af23163a1ad1eb3d12653d2635f682ea685fd668af06e6d480b"), looks := false }, kinds := [], alts := [], laidByText := true, laidKinds := [.data, .data], laidTests := true, laidLooks := .later }
def TreePathsUptoCardSaid : Prop := Claim7.holds Tryd.pinned (.plain (OpenSpec.upto treePathsSpec)) treePathsUptoCard

/-- THE SECOND FORM's CARD OF 'tallykeep.TreeBinds'. -/
def treeBindsUptoCard : Claim7 := { stood := { row := treeBindsUptoRow, standIns := [], harness := (true, "11d946c3b34d5af23163a1ad1eb3d12653d2635f682ea685fd668af06e6d480b"), looks := false }, kinds := [], alts := [], laidByText := true, laidKinds := [.data, .data], laidTests := true, laidLooks := .later }
def TreeBindsUptoCardSaid : Prop := Claim7.holds Tryd.pinned (.plain (OpenSpec.upto treeBindsSpec)) treeBindsUptoCard
end Rows
end Go.Proofs.YtnmkdmncmaakmaeDoor
