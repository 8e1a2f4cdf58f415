/-
  DERIVED. GIVEN WITH THE SEED: THE CARDS: each row of YtoogpkcpheannaeDoorRows.lean that lists a variable, with what it lists TIED to the program's text (the seventh form; the later family's looks); each row that meets fmt, with fmt's text TOLD by the authors' own Lean function (tested against real Go, not proved from fmt's source: count such statements apart). THE CARD IS WHAT COUNTS. Prove the row's statement (the work); the ties are given (YtoogpkcpheannaeDoorTie.lean); close each card by the builder's one call (the guide's Derived/Test/ToyasCard.lean, 'card_holds'). Laid BY PROGRAM, IN A SANDBOX (cutbox-door.mjs). By AI agents, Wed Nov 11 2026. No macro, syntax, notation, axiom, sorry.
-/
import Derived.Test.YtoogpkcpheannaeDoorRows
import GoSem.ClaimSeven
namespace Go.Proofs.YtoogpkcpheannaeDoor
namespace Rows

/-- THE TIED CARD OF 'tallykeep.SumSound'. -/
def sumSoundCard : Claim7 := { stood := { row := sumSoundRow, standIns := [], harness := (true, "5307253d5b4ba94227bd18854644839d7585df36979264a21f446bd20fd14c80"), looks := false }, kinds := [], alts := [], laidByText := true, laidKinds := [.data, .data], laidTests := true, laidLooks := .later }
def SumSoundCardSaid : Prop := Claim7.holds Tryd.pinned (.plain (OpenSpec.ofChange sumSoundSpec)) sumSoundCard

/-- THE TIED CARD OF 'tallykeep.SumBent'. -/
def sumBentCard : Claim7 := { stood := { row := sumBentRow, standIns := [], harness := (true, "5307253d5b4ba94227bd18854644839d7585df36979264a21f446bd20fd14c80"), looks := false }, kinds := [], alts := [], laidByText := true, laidKinds := [.data, .data], laidTests := true, laidLooks := .later }
def SumBentCardSaid : Prop := Claim7.holds Tryd.pinned (.plain (OpenSpec.ofChange sumBentSpec)) sumBentCard

/-- THE TIED CARD OF 'tallykeep.TreePaths'. -/
def treePathsCard : Claim7 := { stood := { row := treePathsRow, standIns := [], harness := (true, "5307253d5b4ba94227bd18854644839d7585df36979264a21f446bd20fd14c80"), looks := false }, kinds := [], alts := [], laidByText := true, laidKinds := [.data, .data], laidTests := true, laidLooks := .later }
def TreePathsCardSaid : Prop := Claim7.holds Tryd.pinned (.plain (OpenSpec.ofChange treePathsSpec)) treePathsCard

/-- THE TIED CARD OF 'tallykeep.TreeBinds'. -/
def treeBindsCard : Claim7 := { stood := { row := treeBindsRow, standIns := [], harness := (true, "5307253d5b4ba94227bd18854644839d7585df36979264a21f446bd20fd14c80"), looks := false }, kinds := [], alts := [], laidByText := true, laidKinds := [.data, .data], laidTests := true, laidLooks := .later }
def TreeBindsCardSaid : Prop := Claim7.holds Tryd.pinned (.plain (OpenSpec.ofChange treeBindsSpec)) treeBindsCard

/-- THE TIED CARD OF 'tallykeep.CircuitBack'. -/
def circuitBackCard : Claim7 := { stood := { row := circuitBackRow, standIns := [], harness := (true, "5307253d5b4ba94227bd18854644839d7585df36979264a21f446bd20fd14c80"), looks := false }, kinds := [], alts := [], laidByText := true, laidKinds := [.data, .data, .data, .data, .pinned], laidTests := true, laidLooks := .later }
def CircuitBackCardSaid : Prop := Claim7.holds Tryd.pinned (.plain (OpenSpec.ofChange circuitBackSpec)) circuitBackCard

/-- THE SECOND FORM's CARD OF 'tallykeep.SumSound'. -/
def sumSoundUptoCard : Claim7 := { stood := { row := sumSoundUptoRow, standIns := [], harness := (true, "5307253d5b4ba94227bd18854644839d7585df36979264a21f446bd20fd14c80"), looks := false }, kinds := [], alts := [], laidByText := true, laidKinds := [.data, .data], laidTests := true, laidLooks := .later }
def SumSoundUptoCardSaid : Prop := Claim7.holds Tryd.pinned (.plain (OpenSpec.upto sumSoundSpec)) sumSoundUptoCard

/-- THE SECOND FORM's CARD OF 'tallykeep.SumBent'. -/
def sumBentUptoCard : Claim7 := { stood := { row := sumBentUptoRow, standIns := [], harness := (true, "5307253d5b4ba94227bd18854644839d7585df36979264a21f446bd20fd14c80"), looks := false }, kinds := [], alts := [], laidByText := true, laidKinds := [.data, .data], laidTests := true, laidLooks := .later }
def SumBentUptoCardSaid : Prop := Claim7.holds Tryd.pinned (.plain (OpenSpec.upto sumBentSpec)) sumBentUptoCard

/-- THE SECOND FORM's CARD OF 'tallykeep.TreePaths'. -/
def treePathsUptoCard : Claim7 := { stood := { row := treePathsUptoRow, standIns := [], harness := (true, "5307253d5b4ba94227bd18854644839d7585df36979264a21f446bd20fd14c80"), looks := false }, kinds := [], alts := [], laidByText := true, laidKinds := [.data, .data], laidTests := true, laidLooks := .later }
def TreePathsUptoCardSaid : Prop := Claim7.holds Tryd.pinned (.plain (OpenSpec.upto treePathsSpec)) treePathsUptoCard

/-- THE SECOND FORM's CARD OF 'tallykeep.TreeBinds'. -/
def treeBindsUptoCard : Claim7 := { stood := { row := treeBindsUptoRow, standIns := [], harness := (true, "5307253d5b4ba94227bd18854644839d7585df36979264a21f446bd20fd14c80"), looks := false }, kinds := [], alts := [], laidByText := true, laidKinds := [.data, .data], laidTests := true, laidLooks := .later }
def TreeBindsUptoCardSaid : Prop := Claim7.holds Tryd.pinned (.plain (OpenSpec.upto treeBindsSpec)) treeBindsUptoCard

/-- THE SECOND FORM's CARD OF 'tallykeep.CircuitBack'. -/
def circuitBackUptoCard : Claim7 := { stood := { row := circuitBackUptoRow, standIns := [], harness := (true, "5307253d5b4ba94227bd18854644839d7585df36979264a21f446bd20fd14c80"), looks := false }, kinds := [], alts := [], laidByText := true, laidKinds := [.data, .data, .data, .data, .pinned], laidTests := true, laidLooks := .later }
def CircuitBackUptoCardSaid : Prop := Claim7.holds Tryd.pinned (.plain (OpenSpec.upto circuitBackSpec)) circuitBackUptoCard
end Rows
end Go.Proofs.YtoogpkcpheannaeDoor
