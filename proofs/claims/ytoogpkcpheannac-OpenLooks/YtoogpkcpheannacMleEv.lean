/-
  Contracts of package mle's Fix and Eval, each for every input; they make new rows and write nothing that was there.
-/
import Derived.Test.YtoogpkcpheannacMle
namespace Go.Proofs.Ytoogpkcpheannac
open Go.RowKit
set_option linter.unusedVariables false
attribute [local go_sem ↓] Go.wp_at_zero Go.wp_at_succ

/-- What stands behind k folds. -/
def Folded (f g : Nat → Int) (n k M : Nat) (h : Nat → Int) : Prop := M = 2 ^ (n - k) ∧ Nums h ∧ ∀ j, j < M → kk (h j) = folds (fun j => kk (f j)) n (fun j => kk (g j)) k j
theorem Folded.start {f g : Nat → Int} {n N : Nat} (hN : N = 2 ^ n) (hv : Nums f) : Folded f g n 0 N f := ⟨hN, hv, fun j _ => rfl⟩
theorem Folded.next {f g h : Nat → Int} {n k H : Nat} {x : Int} (hk : k < n) (hf : Folded f g n k (2 * H) h) (hx : g k = x) : Folded f g n (k + 1) H (fldF h H x) := by
  obtain ⟨e, hv, hj⟩ := hf
  have e2 : H = 2 ^ (n - 1 - k) := by
    rw [show n - k = (n - 1 - k) + 1 from by omega, Nat.pow_succ] at e
    omega
  refine ⟨by rw [e2]; congr 1; omega, Nums_fld h H x, fun j hj2 => ?_⟩
  rw [kk_fldF, folds, ← e2, hx]
  unfold foldK
  dsimp only
  rw [hj j (by omega), hj (H + j) (by omega)]
theorem Folded.done {f g h : Nat → Int} {n M : Nat} (hf : Folded f g n n M h) : nrm (h 0) = ofK (evS (fun j => kk (f j)) (fun j => kk (g j)) n) := by
  obtain ⟨e, hv, hj⟩ := hf
  rw [nrm_ofK, hj 0 (by rw [e]; exact Nat.two_pow_pos _), ← evS_end]
theorem half_of {n k M : Nat} (hk : k < n) (h : M = 2 ^ (n - k)) : ∃ H, M = 2 * H ∧ 1 ≤ H := ⟨2 ^ (n - 1 - k), by rw [h, show n - k = (n - 1 - k) + 1 from by omega, Nat.pow_succ]; omega, Nat.one_le_two_pow⟩

end Go.Proofs.Ytoogpkcpheannac
