/-
  Contracts of package mle's Vars, Sum, fold, Fix and Eval, each for every input; they make new rows and write nothing that was there.
-/
import Derived.Test.YtoogpkcpheannacChecked
import Derived.Test.YtoogpkcpheannacMulti
import Derived.Test.YtoogpkcpheannacOwn
import Derived.Test.YtoogpkcpheannacFieldA
import Derived.Test.YtoogpkcpheannacBits
import Derived.WalkKit
import Derived.Deep.RegionHeld3
import Derived.Deep.RegionWith
import Derived.Deep.OwnRows
import Derived.Deep.LoopGhost
import Derived.Deep.Light
import Derived.Deep.DrawnRows
namespace Go.Proofs.Ytoogpkcpheannac
open Go.RowKit
set_option linter.unusedVariables false
attribute [local go_sem ↓] Go.wp_at_zero Go.wp_at_succ

theorem Try.infoM : (Try.prog.info? 22).map (fun i => (i.zero, i.size, i.bytes)) = some (some (.int .u64 0), 1, 8) := by kernel_rfl

theorem isPow_pow (n : Nat) (h : n ≤ 8) : isPow (2 ^ n) = true := by
  obtain rfl | rfl | rfl | rfl | rfl | rfl | rfl | rfl | rfl : n = 0 ∨ n = 1 ∨ n = 2 ∨ n = 3 ∨ n = 4 ∨ n = 5 ∨ n = 6 ∨ n = 7 ∨ n = 8 := by omega
  all_goals rfl
theorem isPow_back (N : Nat) (h : isPow N = true) : ∃ n, n ≤ 8 ∧ N = 2 ^ n := by
  simp only [isPow, Bool.or_eq_true, beq_iff_eq] at h
  rcases h with (((((((h | h) | h) | h) | h) | h) | h) | h) | h
  · exact ⟨0, by omega, h⟩
  · exact ⟨1, by omega, h⟩
  · exact ⟨2, by omega, h⟩
  · exact ⟨3, by omega, h⟩
  · exact ⟨4, by omega, h⟩
  · exact ⟨5, by omega, h⟩
  · exact ⟨6, by omega, h⟩
  · exact ⟨7, by omega, h⟩
  · exact ⟨8, by omega, h⟩
theorem pow_up {i n : Nat} (h : i ≤ n) : 2 ^ i ≤ 2 ^ n := Nat.pow_le_pow_right (by omega) h
theorem pow_256 {n : Nat} (h : n ≤ 8) : 2 ^ n ≤ 256 := pow_up (n := 8) h

/-- What fold leaves at b; h: half of the places. -/
def fldF (f : Nat → Int) (h : Nat) (x : Int) (b : Nat) : Int := addQ (f b) (mulQ x (subQ (f (h + b)) (f b)))
theorem kk_fldF (f : Nat → Int) (h : Nat) (x : Int) (b : Nat) : kk (fldF f h x b) = foldK (fun j => kk (f j)) h (kk x) b := by
  unfold fldF foldK; rw [kk_addQ, kk_mulQ, kk_subQ]
theorem fld_step (f : Nat → Int) (h : Nat) (x a c : Int) (k j : Nat) (ha : f k = a) (hc : f (h + k) = c) : (if j = k then addQ a (mulQ x (subQ c a)) else if j < k then fldF f h x j else 0) = if j < k + 1 then fldF f h x j else 0 := by
  by_cases e : j = k
  · subst e
    rw [if_pos rfl, if_pos (by omega), fldF, ha, hc]
  · rw [if_neg e]
    by_cases h2 : j < k
    · rw [if_pos h2, if_pos (by omega)]
    · rw [if_neg h2, if_neg (by omega)]
theorem Nums_fld (f : Nat → Int) (h : Nat) (x : Int) : Nums (fldF f h x) := fun j => by
  have := addQ_rng (f j) (mulQ x (subQ (f (h + j)) (f j)))
  unfold fldF
  omega

end Go.Proofs.Ytoogpkcpheannac
