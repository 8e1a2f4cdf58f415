/-
  No cell of these rows narrows 'for every input' (looked for: loops, veiled, ifaces, maps, wideKeys, modest, calm, conditions, laid).
  DERIVED. THE GIVEN ROWS OF THIS SEAT. 3 by the template 'for every input the law returns true; each argument reads behind the call as it read before'; 0 by the template 'total and deterministic' (their statements: YtoogpkcpheannabTotals.lean).
  GIVEN WITH THE SEED: the statements are not yours to turn. If you find one false, say at which input.
  Laid BY PROGRAM, IN A SANDBOX (cutbox-rows.mjs): the forced cells as the released guide's own fill.sh prints them over the translation d0cf0ee73878337f… (all of the seat's roots in one cut). By AI agents, Wed Nov 11 2026. No macro, syntax, notation, axiom, sorry.
-/
import Derived.Test.YtoogpkcpheannabChecked
import GoSem.Claim
import GoSem.ClaimJoined
import GoSem.ClaimMapViews
import Derived.JoinedTies
import Derived.KernelRfl
namespace Go.Proofs.Ytoogpkcpheannab
/- THE CELL 'sum', in the pinned program and in every row, IS THE sha256 OF THE DUMP (.gsa) THAT YtoogpkcpheannabProg.lean LOADS. Nothing in Lean hashes anything: it is a label: what it is worth is what the hold of that sum in a sandbox is worth. -/
noncomputable def Try.pinned : Pinned := { name := "ytoogpkcpheannab", sum := "d0cf0ee73878337fb2d1f3cff15d5288330cd5d4ddc746065b18da2a18f8bf29", checked := Try.checked }
namespace Rows
def none {H : Type} : Left H := { results := [], args := [] }

/-- 'tallylaw.SumVerifies': WHATEVER THE INPUT: true; the input reads as it did. -/
def sumVerifiesSpec : ChangeSpec := { name := "sumVerifies", fn := fun _ => fun
  | [d1, d2, d3] => { results := [.lit (.bool true)], args := [d1, d2, d3] }
  | _ => none }
def sumVerifiesRow : OpenClaim := { program := "ytoogpkcpheannab", sum := "d0cf0ee73878337fb2d1f3cff15d5288330cd5d4ddc746065b18da2a18f8bf29", func := "tallystick/tallylaw.SumVerifies", spec := "sumVerifies", apart := false }
def SumVerifiesSaid : Prop := sumVerifiesRow.holds Try.pinned (OpenSpec.ofChange sumVerifiesSpec)

/-- ITS FALSE NEIGHBOUR: 'it returns false'. Refute it at one input. -/
def sumVerifiesWrong : ChangeSpec := { name := "sumVerifies", fn := fun _ => fun
  | [d1, d2, d3] => { results := [.lit (.bool false)], args := [d1, d2, d3] }
  | _ => none }
def SumVerifiesWrongFalsely : Prop := sumVerifiesRow.holds Try.pinned (OpenSpec.ofChange sumVerifiesWrong)

/-- 'tallylaw.SpongePlays': WHATEVER THE INPUT: true; the input reads as it did. -/
def spongePlaysSpec : ChangeSpec := { name := "spongePlays", fn := fun _ => fun
  | [d1, d2] => { results := [.lit (.bool true)], args := [d1, d2] }
  | _ => none }
def spongePlaysRow : OpenClaim := { program := "ytoogpkcpheannab", sum := "d0cf0ee73878337fb2d1f3cff15d5288330cd5d4ddc746065b18da2a18f8bf29", func := "tallystick/tallylaw.SpongePlays", spec := "spongePlays", apart := false }
def SpongePlaysSaid : Prop := spongePlaysRow.holds Try.pinned (OpenSpec.ofChange spongePlaysSpec)

/-- ITS FALSE NEIGHBOUR: 'it returns false'. Refute it at one input. -/
def spongePlaysWrong : ChangeSpec := { name := "spongePlays", fn := fun _ => fun
  | [d1, d2] => { results := [.lit (.bool false)], args := [d1, d2] }
  | _ => none }
def SpongePlaysWrongFalsely : Prop := spongePlaysRow.holds Try.pinned (OpenSpec.ofChange spongePlaysWrong)

/-- 'tallylaw.WiringSays': WHATEVER THE INPUT: true; the input reads as it did. -/
def wiringSaysSpec : ChangeSpec := { name := "wiringSays", fn := fun _ => fun
  | [d1, d2, d3, d4, d5, d6, d7, d8] => { results := [.lit (.bool true)], args := [d1, d2, d3, d4, d5, d6, d7, d8] }
  | _ => none }
def wiringSaysRow : OpenClaim := { program := "ytoogpkcpheannab", sum := "d0cf0ee73878337fb2d1f3cff15d5288330cd5d4ddc746065b18da2a18f8bf29", func := "tallystick/tallylaw.WiringSays", spec := "wiringSays", apart := false }
def WiringSaysSaid : Prop := wiringSaysRow.holds Try.pinned (OpenSpec.ofChange wiringSaysSpec)

/-- ITS FALSE NEIGHBOUR: 'it returns false'. Refute it at one input. -/
def wiringSaysWrong : ChangeSpec := { name := "wiringSays", fn := fun _ => fun
  | [d1, d2, d3, d4, d5, d6, d7, d8] => { results := [.lit (.bool false)], args := [d1, d2, d3, d4, d5, d6, d7, d8] }
  | _ => none }
def WiringSaysWrongFalsely : Prop := wiringSaysRow.holds Try.pinned (OpenSpec.ofChange wiringSaysWrong)

/- THE SECOND FORM. 'bulk': how many values and letters a reading holds, each counted each time it is reached (what is shared counts as often as it is met; a slice's spare places count too). A statement '..UptoSaid' is the law's where the arguments, and the package variables that the reading takes, are together of bulk at most 1048576: NARROWER than '..Said'. Prove '..Said' where nothing that the law and all that it calls make is longer than what came in: it says more and counts as full. Else prove '..UptoSaid'. A law counts once. -/
mutual
def uptoBulk {H : Type} : DataW H → Nat
  | .lit (.string bytes) => bytes.length + 1
  | .lit _ => 1
  | .nil => 1
  | .ptr d => uptoBulk d + 1
  | .slice elems spare => uptoBulkAll elems + uptoBulkAll spare + 1
  | .agg parts => uptoBulkAll parts + 1
  | .iface _ d => uptoBulk d + 1
  | .map entries => uptoBulkEntries entries + 1
  | .held _ => 1
def uptoBulkAll {H : Type} : List (DataW H) → Nat
  | [] => 0
  | d :: r => uptoBulk d + uptoBulkAll r
def uptoBulkEntries {H : Type} : List (Lit × DataW H) → Nat
  | [] => 0
  | x :: r => uptoBulkEntry x + uptoBulkEntries r
def uptoBulkEntry {H : Type} : Lit × DataW H → Nat
  | (.string bytes, d) => bytes.length + uptoBulk d + 1
  | (_, d) => uptoBulk d + 1
 end
def uptoSmall : (H : Type) → List (DataW H) → Bool := fun _ ds => decide (uptoBulkAll ds ≤ 1048576)
def OpenSpec.upto (s : _root_.Go.ChangeSpec) : _root_.Go.OpenSpec := { _root_.Go.OpenSpec.ofChange s with cond := some uptoSmall }

/-- 'tallylaw.SumVerifies', WHERE WHAT IT READS IS OF BULK AT MOST 1048576: true; the input reads as it did. -/
def sumVerifiesUptoRow : OpenClaim := { program := "ytoogpkcpheannab", sum := "d0cf0ee73878337fb2d1f3cff15d5288330cd5d4ddc746065b18da2a18f8bf29", func := "tallystick/tallylaw.SumVerifies", spec := "sumVerifies", apart := false, narrowed := true }
def SumVerifiesUptoSaid : Prop := sumVerifiesUptoRow.holds Try.pinned (OpenSpec.upto sumVerifiesSpec)

/-- 'tallylaw.SpongePlays', WHERE WHAT IT READS IS OF BULK AT MOST 1048576: true; the input reads as it did. -/
def spongePlaysUptoRow : OpenClaim := { program := "ytoogpkcpheannab", sum := "d0cf0ee73878337fb2d1f3cff15d5288330cd5d4ddc746065b18da2a18f8bf29", func := "tallystick/tallylaw.SpongePlays", spec := "spongePlays", apart := false, narrowed := true }
def SpongePlaysUptoSaid : Prop := spongePlaysUptoRow.holds Try.pinned (OpenSpec.upto spongePlaysSpec)

/-- 'tallylaw.WiringSays', WHERE WHAT IT READS IS OF BULK AT MOST 1048576: true; the input reads as it did. -/
def wiringSaysUptoRow : OpenClaim := { program := "ytoogpkcpheannab", sum := "d0cf0ee73878337fb2d1f3cff15d5288330cd5d4ddc746065b18da2a18f8bf29", func := "tallystick/tallylaw.WiringSays", spec := "wiringSays", apart := false, narrowed := true }
def WiringSaysUptoSaid : Prop := wiringSaysUptoRow.holds Try.pinned (OpenSpec.upto wiringSaysSpec)

end Rows
end Go.Proofs.Ytoogpkcpheannab
