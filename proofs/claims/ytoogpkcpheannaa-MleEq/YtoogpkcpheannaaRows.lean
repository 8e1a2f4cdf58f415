/-
  No cell of these rows narrows 'for every input' (looked for: loops, veiled, ifaces, maps, wideKeys, modest, calm, conditions, laid).
  DERIVED. THE GIVEN ROWS OF THIS SEAT. 3 by the template 'for every input the law returns true; each argument reads behind the call as it read before'; 0 by the template 'total and deterministic' (their statements: YtoogpkcpheannaaTotals.lean).
  GIVEN WITH THE SEED: the statements are not yours to turn. If you find one false, say at which input.
  Laid BY PROGRAM, IN A SANDBOX (cutbox-rows.mjs): the forced cells as the released guide's own fill.sh prints them over the translation 5af9d710967ab8a1… (all of the seat's roots in one cut). By AI agents, Wed Nov 11 2026. No macro, syntax, notation, axiom, sorry.
-/
import Derived.Test.YtoogpkcpheannaaChecked
import GoSem.Claim
import GoSem.ClaimJoined
import GoSem.ClaimMapViews
import Derived.JoinedTies
import Derived.KernelRfl
namespace Go.Proofs.Ytoogpkcpheannaa
/- THE CELL 'sum', in the pinned program and in every row, IS THE sha256 OF THE DUMP (.gsa) THAT YtoogpkcpheannaaProg.lean LOADS. Nothing in Lean hashes anything: it is a label: what it is worth is what the hold of that sum in a sandbox is worth. -/
noncomputable def Try.pinned : Pinned := { name := "ytoogpkcpheannaa", sum := "5af9d710967ab8a1cf2cd1023ead113ecf5a54a6100f8955c7f47137562c56eb", checked := Try.checked }
namespace Rows
def none {H : Type} : Left H := { results := [], args := [] }

/-- 'tallylaw.FieldSays': WHATEVER THE INPUT: true; the input reads as it did. -/
def fieldSaysSpec : ChangeSpec := { name := "fieldSays", fn := fun _ => fun
  | [d1, d2, d3] => { results := [.lit (.bool true)], args := [d1, d2, d3] }
  | _ => none }
def fieldSaysRow : OpenClaim := { program := "ytoogpkcpheannaa", sum := "5af9d710967ab8a1cf2cd1023ead113ecf5a54a6100f8955c7f47137562c56eb", func := "tallystick/tallylaw.FieldSays", spec := "fieldSays", apart := false }
def FieldSaysSaid : Prop := fieldSaysRow.holds Try.pinned (OpenSpec.ofChange fieldSaysSpec)

/-- ITS FALSE NEIGHBOUR: 'it returns false'. Refute it at one input. -/
def fieldSaysWrong : ChangeSpec := { name := "fieldSays", fn := fun _ => fun
  | [d1, d2, d3] => { results := [.lit (.bool false)], args := [d1, d2, d3] }
  | _ => none }
def FieldSaysWrongFalsely : Prop := fieldSaysRow.holds Try.pinned (OpenSpec.ofChange fieldSaysWrong)

/-- 'tallylaw.UniSays': WHATEVER THE INPUT: true; the input reads as it did. -/
def uniSaysSpec : ChangeSpec := { name := "uniSays", fn := fun _ => fun
  | [d1, d2] => { results := [.lit (.bool true)], args := [d1, d2] }
  | _ => none }
def uniSaysRow : OpenClaim := { program := "ytoogpkcpheannaa", sum := "5af9d710967ab8a1cf2cd1023ead113ecf5a54a6100f8955c7f47137562c56eb", func := "tallystick/tallylaw.UniSays", spec := "uniSays", apart := false }
def UniSaysSaid : Prop := uniSaysRow.holds Try.pinned (OpenSpec.ofChange uniSaysSpec)

/-- ITS FALSE NEIGHBOUR: 'it returns false'. Refute it at one input. -/
def uniSaysWrong : ChangeSpec := { name := "uniSays", fn := fun _ => fun
  | [d1, d2] => { results := [.lit (.bool false)], args := [d1, d2] }
  | _ => none }
def UniSaysWrongFalsely : Prop := uniSaysRow.holds Try.pinned (OpenSpec.ofChange uniSaysWrong)

/-- 'tallylaw.MleEq': WHATEVER THE INPUT: true; the input reads as it did. -/
def mleEqSpec : ChangeSpec := { name := "mleEq", fn := fun _ => fun
  | [d] => { results := [.lit (.bool true)], args := [d] }
  | _ => none }
def mleEqRow : OpenClaim := { program := "ytoogpkcpheannaa", sum := "5af9d710967ab8a1cf2cd1023ead113ecf5a54a6100f8955c7f47137562c56eb", func := "tallystick/tallylaw.MleEq", spec := "mleEq", apart := false }
def MleEqSaid : Prop := mleEqRow.holds Try.pinned (OpenSpec.ofChange mleEqSpec)

/-- ITS FALSE NEIGHBOUR: 'it returns false'. Refute it at one input. -/
def mleEqWrong : ChangeSpec := { name := "mleEq", fn := fun _ => fun
  | [d] => { results := [.lit (.bool false)], args := [d] }
  | _ => none }
def MleEqWrongFalsely : Prop := mleEqRow.holds Try.pinned (OpenSpec.ofChange mleEqWrong)

/- THE SECOND FORM. 'bulk': how many values and letters a reading holds, each counted each time it is reached (what is shared counts as often as it is met; a slice's spare places count too). A statement '..UptoSaid' is the law's where the arguments, and the package variables that the reading takes, are together of bulk at most 1048576: NARROWER than '..Said'. Prove '..Said' where nothing that the law and all that it calls make is longer than what came in: it says more and counts as full. Else prove '..UptoSaid'. A law counts once. -/
mutual
def uptoBulk {H : Type} : DataW H → Nat
  | .lit (.string bytes) => bytes.length + 1
  | .lit _ => 1
  | .nil => 1
  | .ptr d => uptoBulk d + 1
  | .slice elems spare => uptoBulkAll elems + uptoBulkAll spare + 1
  | .agg parts => uptoBulkAll parts + 1
  | .iface _ d => uptoBulk d + 1
  | .map entries => uptoBulkEntries entries + 1
  | .held _ => 1
def uptoBulkAll {H : Type} : List (DataW H) → Nat
  | [] => 0
  | d :: r => uptoBulk d + uptoBulkAll r
def uptoBulkEntries {H : Type} : List (Lit × DataW H) → Nat
  | [] => 0
  | x :: r => uptoBulkEntry x + uptoBulkEntries r
def uptoBulkEntry {H : Type} : Lit × DataW H → Nat
  | (.string bytes, d) => bytes.length + uptoBulk d + 1
  | (_, d) => uptoBulk d + 1
 end
def uptoSmall : (H : Type) → List (DataW H) → Bool := fun _ ds => decide (uptoBulkAll ds ≤ 1048576)
def OpenSpec.upto (s : _root_.Go.ChangeSpec) : _root_.Go.OpenSpec := { _root_.Go.OpenSpec.ofChange s with cond := some uptoSmall }

/-- 'tallylaw.FieldSays', WHERE WHAT IT READS IS OF BULK AT MOST 1048576: true; the input reads as it did. -/
def fieldSaysUptoRow : OpenClaim := { program := "ytoogpkcpheannaa", sum := "5af9d710967ab8a1cf2cd1023ead113ecf5a54a6100f8955c7f47137562c56eb", func := "tallystick/tallylaw.FieldSays", spec := "fieldSays", apart := false, narrowed := true }
def FieldSaysUptoSaid : Prop := fieldSaysUptoRow.holds Try.pinned (OpenSpec.upto fieldSaysSpec)

/-- 'tallylaw.UniSays', WHERE WHAT IT READS IS OF BULK AT MOST 1048576: true; the input reads as it did. -/
def uniSaysUptoRow : OpenClaim := { program := "ytoogpkcpheannaa", sum := "5af9d710967ab8a1cf2cd1023ead113ecf5a54a6100f8955c7f47137562c56eb", func := "tallystick/tallylaw.UniSays", spec := "uniSays", apart := false, narrowed := true }
def UniSaysUptoSaid : Prop := uniSaysUptoRow.holds Try.pinned (OpenSpec.upto uniSaysSpec)

/-- 'tallylaw.MleEq', WHERE WHAT IT READS IS OF BULK AT MOST 1048576: true; the input reads as it did. -/
def mleEqUptoRow : OpenClaim := { program := "ytoogpkcpheannaa", sum := "5af9d710967ab8a1cf2cd1023ead113ecf5a54a6100f8955c7f47137562c56eb", func := "tallystick/tallylaw.MleEq", spec := "mleEq", apart := false, narrowed := true }
def MleEqUptoSaid : Prop := mleEqUptoRow.holds Try.pinned (OpenSpec.upto mleEqSpec)

end Rows
end Go.Proofs.Ytoogpkcpheannaa
