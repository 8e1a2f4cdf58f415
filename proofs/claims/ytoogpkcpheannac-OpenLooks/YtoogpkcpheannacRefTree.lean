/-
  Contracts of tallyref's Root, for every table, each for every input; they write nothing that was there.
-/
import Derived.Test.YtoogpkcpheannacRefSpong3
import Derived.Test.YtoogpkcpheannacTree
import Derived.Deep.RegionWith
namespace Go.Proofs.Ytoogpkcpheannac
open Go.RowKit
set_option linter.unusedVariables false
attribute [local go_sem ↓] Go.wp_at_zero Go.wp_at_succ

theorem Nums_part {f : Nat → Int} (h : Nums f) (k : Nat) : Nums (fun j => f (k + j)) := fun j => h _
theorem Row.half {w : World} {b off h : Nat} {f : Nat → Int} (r : Row w b off (2 * h) f) : Row w b off h f ∧ Row w b (off + h) h (fun j => f (h + j)) :=
  ⟨fun j hj => r j (by omega), fun j hj => by have := r (h + j) (by omega); rw [← Nat.add_assoc] at this; exact this⟩

end Go.Proofs.Ytoogpkcpheannac
