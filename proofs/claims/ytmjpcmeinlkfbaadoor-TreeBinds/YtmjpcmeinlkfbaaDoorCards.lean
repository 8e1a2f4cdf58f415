/-
  DERIVED. GIVEN WITH THE SEED: THE CARDS: each row of YtmjpcmeinlkfbaaDoorRows.lean that lists a variable, with what it lists TIED to the program's text (the seventh form; the later family's looks); each row that meets fmt, with fmt's text TOLD by the authors' own Lean function (tested against real Go, not proved from fmt's source: count such statements apart). THE CARD IS WHAT COUNTS. Prove the row's statement (the work); the ties are given (YtmjpcmeinlkfbaaDoorTie.lean); close each card by the builder's one call (the guide's Derived/Test/ToyasCard.lean, 'card_holds'). Laid BY PROGRAM, IN A SANDBOX (cutbox-door.mjs). By AI agents, Wed Nov 11 2026. No macro, syntax, notation, axiom, sorry.
-/
import Derived.Test.YtmjpcmeinlkfbaaDoorRows
import GoSem.ClaimSeven
namespace Go.Proofs.YtmjpcmeinlkfbaaDoor
namespace Rows

/-- THE TIED CARD OF 'tallylaw.GkrProves'. -/
def gkrProvesCard : Claim7 := { stood := { row := gkrProvesRow, standIns := [], harness := (true, "22554aeb0b51f0e5b5087e27ebe883c2158256cfd63ace9a5aa68d234d4df1fe"), looks := false }, kinds := [], alts := [], laidByText := true, laidKinds := [.data, .data], laidTests := true, laidLooks := .later }
def GkrProvesCardSaid : Prop := Claim7.holds Tryd.pinned (.plain (OpenSpec.ofChange gkrProvesSpec)) gkrProvesCard

/-- THE TIED CARD OF 'tallylaw.FiatSays'. -/
def fiatSaysCard : Claim7 := { stood := { row := fiatSaysRow, standIns := [], harness := (true, "22554aeb0b51f0e5b5087e27ebe883c2158256cfd63ace9a5aa68d234d4df1fe"), looks := false }, kinds := [], alts := [], laidByText := true, laidKinds := [.data, .data], laidTests := true, laidLooks := .later }
def FiatSaysCardSaid : Prop := Claim7.holds Tryd.pinned (.plain (OpenSpec.ofChange fiatSaysSpec)) fiatSaysCard

/-- THE TIED CARD OF 'tallykeep.TreePaths'. -/
def treePathsCard : Claim7 := { stood := { row := treePathsRow, standIns := [], harness := (true, "22554aeb0b51f0e5b5087e27ebe883c2158256cfd63ace9a5aa68d234d4df1fe"), looks := false }, kinds := [], alts := [], laidByText := true, laidKinds := [.data, .data], laidTests := true, laidLooks := .later }
def TreePathsCardSaid : Prop := Claim7.holds Tryd.pinned (.plain (OpenSpec.ofChange treePathsSpec)) treePathsCard

/-- THE TIED CARD OF 'tallykeep.TreeBinds'. -/
def treeBindsCard : Claim7 := { stood := { row := treeBindsRow, standIns := [], harness := (true, "22554aeb0b51f0e5b5087e27ebe883c2158256cfd63ace9a5aa68d234d4df1fe"), looks := false }, kinds := [], alts := [], laidByText := true, laidKinds := [.data, .data], laidTests := true, laidLooks := .later }
def TreeBindsCardSaid : Prop := Claim7.holds Tryd.pinned (.plain (OpenSpec.ofChange treeBindsSpec)) treeBindsCard

/-- THE SECOND FORM's CARD OF 'tallylaw.GkrProves'. -/
def gkrProvesUptoCard : Claim7 := { stood := { row := gkrProvesUptoRow, standIns := [], harness := (true, "22554aeb0b51f0e5b5087e27ebe883c2158256cfd63ace9a5aa68d234d4df1fe"), looks := false }, kinds := [], alts := [], laidByText := true, laidKinds := [.data, .data], laidTests := true, laidLooks := .later }
def GkrProvesUptoCardSaid : Prop := Claim7.holds Tryd.pinned (.plain (OpenSpec.upto gkrProvesSpec)) gkrProvesUptoCard

/-- THE SECOND FORM's CARD OF 'tallylaw.FiatSays'. -/
def fiatSaysUptoCard : Claim7 := { stood := { row := fiatSaysUptoRow, standIns := [], harness := (true, "22554aeb0b51f0e5b5087e27ebe883c2158256cfd63ace9a5aa68d234d4df1fe"), looks := false }, kinds := [], alts := [], laidByText := true, laidKinds := [.data, .data], laidTests := true, laidLooks := .later }
def FiatSaysUptoCardSaid : Prop := Claim7.holds Tryd.pinned (.plain (OpenSpec.upto fiatSaysSpec)) fiatSaysUptoCard

/-- THE SECOND FORM's CARD OF 'tallykeep.TreePaths'. -/
def treePathsUptoCard : Claim7 := { stood := { row := treePathsUptoRow, standIns := [], harness := (true, "22554aeb0b51f0e5b5087e27ebe883c2158256cfd63ace9a5aa68d234d4df1fe"), looks := false }, kinds := [], alts := [], laidByText := true, laidKinds := [.data, .data], laidTests := true, laidLooks := .later }
def TreePathsUptoCardSaid : Prop := Claim7.holds Tryd.pinned (.plain (OpenSpec.upto treePathsSpec)) treePathsUptoCard

/-- THE SECOND FORM's CARD OF 'tallykeep.TreeBinds'. -/
def treeBindsUptoCard : Claim7 := { stood := { row := treeBindsUptoRow, standIns := [], harness := (true, "22554aeb0b51f0e5b5087e27ebe883c2158256cfd63ace9a5aa68d234d4df1fe"), looks := false }, kinds := [], alts := [], laidByText := true, laidKinds := [.data, .data], laidTests := true, laidLooks := .later }
def TreeBindsUptoCardSaid : Prop := Claim7.holds Tryd.pinned (.plain (OpenSpec.upto treeBindsSpec)) treeBindsUptoCard
end Rows
end Go.Proofs.YtmjpcmeinlkfbaaDoor
