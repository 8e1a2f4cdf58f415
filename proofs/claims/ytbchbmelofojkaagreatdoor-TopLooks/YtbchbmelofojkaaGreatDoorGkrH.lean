/-
  Plain: a proof's points as numbers; where draws begin; when a part fits; no program in it.
-/
import Derived.Test.YtbchbmelofojkaaGreatDoorPrf
namespace Go.Proofs.YtbchbmelofojkaaGreatDoor
open Go.RowKit
set_option linter.unusedVariables false

/-- A part's point, as numbers. -/
def zQ (C : Parts) (D : Nat → Int) : Nat → Nat → Int
  | 0 => D
  | j + 1 => linQ (fun i => D (C.at j + i)) (fun i => D (C.at j + C.lg (j + 1) + i)) (C.tau D j)
theorem kk_zQ (C : Parts) (D : Nat → Int) (j i : Nat) : kk (zQ C D j i) = C.z D j i := by
  cases j with
  | zero => rfl
  | succ j =>
    rw [zQ, Parts.z, kk_linQ]
    unfold lineK pK Parts.d
    dsimp only
    rw [Nat.add_assoc]
theorem Nums_zQ {D : Nat → Int} (h : Nums D) (C : Parts) (j : Nat) : Nums (zQ C D j) := by
  cases j with
  | zero => exact h
  | succ j =>
    intro i
    have := linQ_rng (fun i => D (C.at j + i)) (fun i => D (C.at j + C.lg (j + 1) + i)) (C.tau D j) i
    rw [zQ]
    omega
theorem Nums_from {D : Nat → Int} (h : Nums D) (a : Nat) : Nums (fun i => D (a + i)) := fun i => h (a + i)
theorem at_mono (C : Parts) {i j : Nat} (h : i ≤ j) : C.at i ≤ C.at j := by
  induction j with
  | zero => rw [show i = 0 from by omega]; exact Nat.le_refl _
  | succ j ih =>
    by_cases e : i = j + 1
    · rw [e]; exact Nat.le_refl _
    · have := ih (by omega)
      show C.at i ≤ C.at j + 2 * C.lg (j + 1) + 1
      omega
theorem at_fits {c : CQ} {j : Nat} (hj : j < c.layers.length) : (partsQ c).at j + 2 * (partsQ c).lg (j + 1) + 1 ≤ needQ c := at_mono (partsQ c) (show j + 1 ≤ c.layers.length from hj)
theorem first_bad (p : Nat → Prop) (n : Nat) : (∀ k, k < n → p k) ∨ ∃ t, t < n ∧ ¬ p t ∧ ∀ k, k < t → p k := by
  induction n with
  | zero => exact .inl fun k hk => absurd hk (by omega)
  | succ n ih =>
    rcases ih with h | ⟨t, ht, hn, hall⟩
    · by_cases e : p n
      · refine .inl fun k hk => ?_
        by_cases e2 : k = n
        · rw [e2]; exact e
        · exact h k (by omega)
      · exact .inr ⟨n, by omega, e, h⟩
    · exact .inr ⟨t, by omega, hn, hall⟩
theorem claim_in {c0 : Int} (h0 : 0 ≤ c0) (h1 : c0 ≤ 2305843009213693950) (C : Parts) (D : Nat → Int) (p : Told) (j : Nat) : 0 ≤ C.claim D p c0 j ∧ C.claim D p c0 j ≤ 2305843009213693950 := by
  cases j with
  | zero => exact ⟨h0, h1⟩
  | succ j => exact atQ_rng _ _ _
theorem now_nrm {c0 : Int} (h0 : 0 ≤ c0) (h1 : c0 ≤ 2305843009213693950) (C : Parts) (D : Nat → Int) (p : Told) (j r : Nat) : nrm (toldQ (C.claim D p c0 j) (p.R j) 3 (fun i => D (C.at j + i)) r) = C.now D p c0 j r := by
  obtain ⟨a0, a1⟩ := claim_in h0 h1 C D p j
  rw [told_nrm, nrm_in a0 a1]; rfl
/-- A part's step, as the document tells it. -/
theorem part_step {c : CQ} {n i t lk bk : Nat} {l : LQ} (hn : c.layers.length = n) (hi : i + t + 1 = n) (hl : c.layers[i]? = some l) (h1 : (partsQ c).lg t = lk) (h2 : (partsQ c).lg (t + 1) = bk) (D : Nat → Int) (p : Told) (v0 vy : Int) (e0 : kk v0 = kk (p.L t 0)) (e1 : kk vy = kk ((partsQ c).v1 p t)) :
    wstQ l.gates lk bk (zQ (partsQ c) D t) (fun i => D ((partsQ c).at t + i)) (fun i => D ((partsQ c).at t + bk + i)) v0 vy =
    ofK (stepK ((partsQ c).M t) ((partsQ c).A t) ((partsQ c).B t) ((partsQ c).lg t) ((partsQ c).lg (t + 1)) ((partsQ c).z D t) ((partsQ c).d D t) (fun i => (partsQ c).d D t ((partsQ c).lg (t + 1) + i)) (kk (p.L t 0)) (kk ((partsQ c).v1 p t))) := by
  unfold wstQ
  have hg : gatesQ c (c.layers.length - 1 - t) = l.gates := by rw [hn, show n - 1 - t = i from by omega]; exact gatesQ_at hl
  show _ = ofK (stepK (gM (gatesQ c (c.layers.length - 1 - t))) (gA (gatesQ c (c.layers.length - 1 - t))) (gB (gatesQ c (c.layers.length - 1 - t))) _ _ _ _ _ _ _)
  rw [hg, h1, h2, e0, e1]
  congr 1
  exact stepK_congr _ _ _ _ _ _ _ (fun j _ => kk_zQ (partsQ c) D t j) (fun _ _ => rfl) (fun j _ => by unfold pK Parts.d; dsimp only; rw [Nat.add_assoc])

end Go.Proofs.YtbchbmelofojkaaGreatDoor
