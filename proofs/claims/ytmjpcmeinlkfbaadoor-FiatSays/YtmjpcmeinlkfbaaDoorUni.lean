/-
  Contracts of package uni's functions, each for every input: Coefs and At; what they tell is what the text Poly names, and nothing that was there is written.
-/
import Derived.Test.YtmjpcmeinlkfbaaDoorChecked
import Derived.Test.YtmjpcmeinlkfbaaDoorPoly
import Derived.Test.YtmjpcmeinlkfbaaDoorMem
import Derived.Test.YtmjpcmeinlkfbaaDoorField
import Derived.Test.YtmjpcmeinlkfbaaDoorDiff
import Derived.WalkKit
import Derived.Deep.RegionHeld3
import Derived.Deep.RegionWith
import Derived.Deep.OwnRows
import Derived.Deep.LoopGhost
import Derived.Deep.Light
import Derived.Deep.DrawnRows
namespace Go.Proofs.YtmjpcmeinlkfbaaDoor
open Go.RowKit
set_option linter.unusedVariables false
attribute [local go_sem ↓] Go.wp_at_zero Go.wp_at_succ



theorem coef_step (v : Nat → Int) (n m q j : Nat) (hq : q + m + 2 = n) (hj : j < n) :
    (if q ≤ j ∧ j < q + (n - q) then stepF (q : Int) 0 (n - q) (fun t => cfM v n m (q + t)) (j - q) else cfM v n m j) = cfM v n (m + 1) j := by
  have e : n - 2 - m = q := by omega
  show _ = stepF ((n - 2 - m : Nat) : Int) (n - 2 - m) n (cfM v n m) j
  rw [e]
  by_cases h : q ≤ j
  · rw [if_pos (by omega)]
    unfold stepF
    have e1 : q + (j - q) = j := by omega
    have e2 : q + (j - q + 1) = j + 1 := by omega
    by_cases h2 : j + 1 < n
    · rw [if_pos (by omega), if_pos (by omega)]
      dsimp only
      rw [e1, e2]
    · rw [if_neg (by omega), if_neg (by omega)]
      dsimp only
      rw [e1]
  · rw [if_neg (by omega)]
    unfold stepF
    rw [if_neg (by omega)]

theorem Nums_cfM (v : Nat → Int) (n m q : Nat) : Nums (fun j => cfM v n m (q + j)) := fun j => by
  have := cfM_rng v n m (q + j)
  dsimp only
  omega



theorem ret_pair {a c : Int} (h : a = c) (e : Int) : Ending.returned (.tuple #[.int .u64 a, .int .i64 e]) = .returned (.tuple #[.int .u64 c, .int .i64 e]) := by rw [h]
theorem hor_step (f : Nat → Int) (x : Int) (n m q : Nat) (hq : q + m + 1 = n) : addQ (mulQ (horQ f x (n - m) m) x) (f q) = horQ f x (n - (m + 1)) (m + 1) := by
  have e1 : n - m = q + 1 := by omega
  have e2 : n - (m + 1) = q := by omega
  rw [e1, e2]; rfl


end Go.Proofs.YtmjpcmeinlkfbaaDoor
