/-
  Contracts of package uni's functions, each for every input: Check, stepOut and differences; what they tell is what the text Poly names, and nothing that was there is written.
-/
import Derived.Test.YtmjpcmeinlkfbaaDoorChecked
import Derived.Test.YtmjpcmeinlkfbaaDoorPoly
import Derived.Test.YtmjpcmeinlkfbaaDoorMem
import Derived.Test.YtmjpcmeinlkfbaaDoorField
import Derived.WalkKit
import Derived.Deep.RegionHeld3
import Derived.Deep.RegionWith
import Derived.Deep.OwnRows
import Derived.Deep.LoopGhost
import Derived.Deep.Light
import Derived.Deep.DrawnRows
namespace Go.Proofs.YtmjpcmeinlkfbaaDoor
open Go.RowKit
set_option linter.unusedVariables false
attribute [local go_sem ↓] Go.wp_at_zero Go.wp_at_succ

/-- As far as place k. -/
def stepTo (a : Int) (n k : Nat) (f : Nat → Int) : Nat → Int := fun j => if j < k ∧ j + 1 < n then subQ (f j) (mulQ a (f (j + 1))) else f j
theorem stepTo_zero (a : Int) (n : Nat) (f : Nat → Int) (j : Nat) : stepTo a n 0 f j = f j := by unfold stepTo; rw [if_neg (by omega)]
theorem stepTo_at (a : Int) (n k : Nat) (f : Nat → Int) (j : Nat) (h : k ≤ j) : stepTo a n k f j = f j := by unfold stepTo; rw [if_neg (by omega)]
theorem stepTo_next (a : Int) (n k : Nat) (f : Nat → Int) (hk : k + 1 < n) (j : Nat) : (if j = k then subQ (f k) (mulQ a (f (k + 1))) else stepTo a n k f j) = stepTo a n (k + 1) f j := by
  unfold stepTo
  by_cases e : j = k
  · subst e; rw [if_pos rfl, if_pos ⟨by omega, hk⟩]
  · rw [if_neg e]
    by_cases h : j < k ∧ j + 1 < n
    · rw [if_pos h, if_pos ⟨by omega, h.2⟩]
    · rw [if_neg h, if_neg (by omega)]
theorem stepTo_end (a : Int) (n k : Nat) (f : Nat → Int) (hk : n ≤ k + 1) (j : Nat) : stepTo a n k f j = stepF a 0 n f j := by
  unfold stepTo stepF
  by_cases h : j + 1 < n
  · rw [if_pos ⟨by omega, h⟩, if_pos ⟨by omega, h⟩]
  · rw [if_neg (by omega), if_neg (by omega)]



theorem Tryd.infoU : (Tryd.prog.info? 45).map (fun i => (i.zero, i.size, i.bytes)) = some (some (.int .u64 0), 1, 8) := by kernel_rfl

theorem ddQ_here (v : Nat → Int) (k i : Nat) : ddQ v (k + 1) (i + 1) = mulQ (subQ (ddQ v k (i + 1)) (ddQ v k i)) (invQ ((k : Int) + 1)) := rfl
theorem diff_start (v : Nat → Int) (n j : Nat) (hj : j < n) : (if j < n then nrm (v j) else 0) = ddQ v (min 0 j) j := by
  rw [if_pos hj, Nat.zero_min]; rfl
theorem diff_in (v : Nat → Int) (n k j : Nat) (hj : j < n) : ddQ v (min k j) j = if j ≤ n - 1 then ddQ v (min k j) j else ddQ v (min (k + 1) j) j := by
  rw [if_pos (by omega)]
theorem diff_step (v : Nat → Int) (k i j : Nat) (hk : k ≤ i) (z : Int) (hz : z = ddQ v (k + 1) (i + 1)) :
    (if j = i + 1 then z else if j ≤ i + 1 then ddQ v (min k j) j else ddQ v (min (k + 1) j) j) = if j ≤ i then ddQ v (min k j) j else ddQ v (min (k + 1) j) j := by
  by_cases e : j = i + 1
  · subst e; rw [if_pos rfl, if_neg (by omega), hz, Nat.min_eq_left (by omega)]
  · rw [if_neg e]
    by_cases h : j ≤ i
    · rw [if_pos h, if_pos (by omega)]
    · rw [if_neg h, if_neg (by omega)]
theorem diff_out (v : Nat → Int) (k j : Nat) : (if j ≤ k then ddQ v (min k j) j else ddQ v (min (k + 1) j) j) = ddQ v (min (k + 1) j) j := by
  by_cases h : j ≤ k
  · rw [if_pos h, Nat.min_eq_right h, Nat.min_eq_right (by omega)]
  · rw [if_neg h]
theorem norm_step (v : Nat → Int) (k j : Nat) : (if j = k then nrm (v k) else if j < k then nrm (v j) else 0) = if j < k + 1 then nrm (v j) else 0 := by
  by_cases e : j = k
  · subst e; rw [if_pos rfl, if_pos (by omega)]
  · rw [if_neg e]
    by_cases h : j < k
    · rw [if_pos h, if_pos (by omega)]
    · rw [if_neg h, if_neg (by omega)]
theorem small_ne (k : Nat) (h : k ≤ 100) : nrm ((k : Int) + 1) ≠ 0 := by unfold nrm; rw [Q_eq]; omega


end Go.Proofs.YtmjpcmeinlkfbaaDoor
