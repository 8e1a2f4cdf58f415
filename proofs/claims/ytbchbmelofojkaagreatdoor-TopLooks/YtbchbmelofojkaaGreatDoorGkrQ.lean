/-
  Plain: a circuit as the parts of a proof, the highest layer first; how many draws there are; no program in it.
-/
import Derived.Test.YtbchbmelofojkaaGreatDoorLayers
import Derived.Test.YtbchbmelofojkaaGreatDoorWirQ
namespace Go.Proofs.YtbchbmelofojkaaGreatDoor
set_option linter.unusedVariables false

/-- The gates of layer i. -/
def gatesQ (c : CQ) (i : Nat) : List GQ := (c.layers[i]?.map LQ.gates).getD []
theorem gatesQ_at {c : CQ} {i : Nat} {l : LQ} (h : c.layers[i]? = some l) : gatesQ c i = l.gates := by rw [gatesQ, h]; rfl
/-- Part j is of layer n - 1 - j. -/
def partsQ (c : CQ) : Parts where
  n := c.layers.length
  lg := fun j => (belowQ c (c.layers.length - j)).toNat
  M := fun j => gM (gatesQ c (c.layers.length - 1 - j))
  A := fun j => gA (gatesQ c (c.layers.length - 1 - j))
  B := fun j => gB (gatesQ c (c.layers.length - 1 - j))
theorem belowQ_rng {c : CQ} (hc : c.right) (i : Nat) : ∃ k : Nat, belowQ c i = (k : Int) ∧ k ≤ 4 := below_rng (k := i) rfl hc.log.1 hc.log.2 fun j _ x hx => hc.layer j x hx
theorem parts_lg {c : CQ} (hc : c.right) (j : Nat) : (partsQ c).lg j ≤ 4 := by
  obtain ⟨k, e, h⟩ := belowQ_rng hc (c.layers.length - j)
  show (belowQ c (c.layers.length - j)).toNat ≤ 4
  rw [e]; simpa using h
theorem parts_layer {c : CQ} (hc : c.right) {j : Nat} (hj : j < c.layers.length) : ∃ l, c.layers[c.layers.length - 1 - j]? = some l ∧ (partsQ c).lg j = l.log.toNat ∧ l.gates.length = 2 ^ (partsQ c).lg j ∧ gatesQ c (c.layers.length - 1 - j) = l.gates ∧ ∀ q ∈ l.gates, gateOk ((2 ^ (partsQ c).lg (j + 1) : Nat) : Int) q := by
  obtain ⟨l, hl⟩ : ∃ l, c.layers[c.layers.length - 1 - j]? = some l := ⟨c.layers[c.layers.length - 1 - j]'(by omega), by simp⟩
  obtain ⟨_, r2, r3⟩ := hc.layer _ l hl
  have e1 : (partsQ c).lg j = l.log.toNat := by
    show (belowQ c (c.layers.length - j)).toNat = _
    rw [show c.layers.length - j = (c.layers.length - 1 - j) + 1 from by omega, belowQ, hl]; rfl
  have e2 : (partsQ c).lg (j + 1) = (belowQ c (c.layers.length - 1 - j)).toNat := by
    show (belowQ c (c.layers.length - (j + 1))).toNat = _
    rw [show c.layers.length - (j + 1) = c.layers.length - 1 - j from by omega]
  exact ⟨l, hl, e1, by rw [e1]; exact r2, gatesQ_at hl, by rw [e2]; exact r3⟩
theorem parts_fits {c : CQ} (hc : c.right) : (partsQ c).fits := by
  intro j hj g hg
  obtain ⟨l, hl, _, h2, h3, h4⟩ := parts_layer hc hj
  obtain ⟨q, hq⟩ : ∃ q, l.gates[g]? = some q := ⟨l.gates[g]'(by rw [h2]; exact hg), by simp⟩
  obtain ⟨⟨a0, a1⟩, b0, b1⟩ := h4 q (List.mem_of_getElem? hq)
  show gA (gatesQ c (c.layers.length - 1 - j)) g < _ ∧ gB (gatesQ c (c.layers.length - 1 - j)) g < _
  rw [h3, gA_at hq, gB_at hq]
  omega
/-- The values, the highest layer's first. -/
def valsK (c : CQ) (f : Nat → Int) (j g : Nat) : K := kk (valsQ c f (c.layers.length - j) g)
theorem parts_run {c : CQ} (hc : c.right) (f : Nat → Int) : (partsQ c).run (valsK c f) := by
  intro j hj g hg
  have hj' : j < c.layers.length := hj
  obtain ⟨l, hl, _, h2, h3, _⟩ := parts_layer hc hj
  show kk (valsQ c f (c.layers.length - j) g) = gateK (gM (gatesQ c (c.layers.length - 1 - j))) (gA (gatesQ c (c.layers.length - 1 - j))) (gB (gatesQ c (c.layers.length - 1 - j))) (valsK c f (j + 1)) g
  rw [show c.layers.length - j = (c.layers.length - 1 - j) + 1 from by omega, ← vals_layer hl, h3, lay_gate (by rw [h2]; exact hg)]
  unfold valsK
  rw [show c.layers.length - (j + 1) = c.layers.length - 1 - j from by omega]
/-- The draws of the lowest i layers. -/
def needP (c : CQ) : Nat → Nat
  | 0 => 0
  | i + 1 => needP c i + 2 * (belowQ c i).toNat + 1
theorem need_at (c : CQ) (i : Nat) (hi : i ≤ c.layers.length) : (partsQ c).at c.layers.length = (partsQ c).at (c.layers.length - i) + needP c i := by
  induction i with
  | zero => rfl
  | succ i ih =>
    rw [ih (by omega), show c.layers.length - i = (c.layers.length - (i + 1)) + 1 from by omega]
    show (partsQ c).at (c.layers.length - (i + 1)) + 2 * (partsQ c).lg (c.layers.length - (i + 1) + 1) + 1 + needP c i = (partsQ c).at (c.layers.length - (i + 1)) + (needP c i + 2 * (belowQ c i).toNat + 1)
    have e : (partsQ c).lg (c.layers.length - (i + 1) + 1) = (belowQ c i).toNat := by
      show (belowQ c (c.layers.length - (c.layers.length - (i + 1) + 1))).toNat = _
      rw [show c.layers.length - (c.layers.length - (i + 1) + 1) = i from by omega]
    rw [e]; omega
/-- How many draws there are. -/
def needQ (c : CQ) : Nat := (partsQ c).at c.layers.length
theorem need_is (c : CQ) : needQ c = (partsQ c).lg 0 + needP c c.layers.length := by
  unfold needQ
  rw [need_at c c.layers.length (Nat.le_refl _), Nat.sub_self]; rfl
theorem needP_le {c : CQ} (hc : c.right) (i : Nat) : needP c i ≤ 9 * i := by
  induction i with
  | zero => exact Nat.le_refl _
  | succ i ih =>
    obtain ⟨k, e, h⟩ := belowQ_rng hc i
    rw [needP, e]
    simp only [Int.toNat_natCast]
    omega
theorem needQ_le {c : CQ} (hc : c.right) : needQ c ≤ 40 := by
  rw [need_is]
  have h1 := parts_lg hc 0
  have h2 := needP_le hc c.layers.length
  have h3 := hc.few
  omega
/-- A line's numbers. -/
def linQ (x y : Nat → Int) (t : Int) (j : Nat) : Int := addQ (x j) (mulQ t (subQ (y j) (x j)))
theorem linQ_rng (x y : Nat → Int) (t : Int) (j : Nat) : 0 ≤ linQ x y t j ∧ linQ x y t j ≤ 2305843009213693950 := addQ_rng _ _
theorem kk_linQ (x y : Nat → Int) (t : Int) (j : Nat) : kk (linQ x y t j) = lineK (pK x) (pK y) (kk t) j := by
  unfold linQ lineK pK
  rw [kk_addQ, kk_mulQ, kk_subQ]

end Go.Proofs.YtbchbmelofojkaaGreatDoor
