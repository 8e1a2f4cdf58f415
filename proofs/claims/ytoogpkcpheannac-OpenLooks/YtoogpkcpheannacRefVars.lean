/-
  A contract of tallyref's Vars: for every list; nothing is written.
-/
import Derived.Test.YtoogpkcpheannacChecked
import Derived.Test.YtoogpkcpheannacMem
import Derived.WalkKit
import Derived.Deep.LoopGhost
import Derived.Deep.Light
namespace Go.Proofs.Ytoogpkcpheannac
open Go.RowKit
set_option linter.unusedVariables false

theorem shl_one {k : Nat} (hk : k ≤ 8) : wrap64 ((2 : Int) ^ k) = ((2 ^ k : Nat) : Int) := by
  have h : 2 ^ k ≤ 256 := Nat.pow_le_pow_right (j := 8) (by omega) hk
  rw [show ((2 : Int) ^ k) = ((2 ^ k : Nat) : Int) from by simp]
  generalize 2 ^ k = M at h
  exact IntWalk.wrap64_in _ (by omega)


end Go.Proofs.Ytoogpkcpheannac
