/-
  Plain: how many numbers each layer has, and its values from those below; no program in it.
-/
import Derived.Test.YtbchbmelofojkaaGreatDoorCircM
namespace Go.Proofs.YtbchbmelofojkaaGreatDoor
open Go.RowKit
set_option linter.unusedVariables false

/-- How many numbers the inputs (0) and each layer have. -/
def lenQ (c : CQ) (i : Nat) : Nat := 2 ^ (belowQ c i).toNat
theorem lenQ_rng {c : CQ} (h : c.right) (i : Nat) (hi : i ≤ c.layers.length) : 1 ≤ lenQ c i ∧ lenQ c i ≤ 16 := by
  refine ⟨Nat.one_le_two_pow, ?_⟩
  obtain ⟨bk, e, h4⟩ := below_rng (k := i) rfl h.log.1 h.log.2 fun j _ x hx => h.layer j x hx
  unfold lenQ
  rw [e]
  exact Nat.le_trans (Nat.pow_le_pow_right (by omega) (by simpa using h4)) (by decide)
theorem lenQ_layer {c : CQ} (h : c.right) {k : Nat} {l : LQ} (hl : c.layers[k]? = some l) : l.gates.length = lenQ c (k + 1) := by
  have := (h.layer k l hl).2.1
  rw [lenQ, belowQ, hl]
  exact this
theorem vals_layer {c : CQ} {f : Nat → Int} {k : Nat} {l : LQ} (hl : c.layers[k]? = some l) : layV l.gates (valsQ c f k) = valsQ c f (k + 1) := by
  funext j
  rw [valsQ, hl]
theorem Nums_vals (c : CQ) (f : Nat → Int) (k : Nat) : Nums (valsQ c f k) := fun j => by
  have := valsQ_rng c f k j
  omega

end Go.Proofs.YtbchbmelofojkaaGreatDoor
