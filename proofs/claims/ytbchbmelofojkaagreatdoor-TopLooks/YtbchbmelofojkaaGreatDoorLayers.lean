/-
  Plain: proofs, layer by layer: what is claimed from part to part, when a proof holds, that a right one does, that it does for just the outputs and inputs that are the same where it was drawn, and what a proof for wrong outputs has told; no program in it.
-/
import Derived.Test.YtbchbmelofojkaaGreatDoorCube
namespace Go.Proofs.YtbchbmelofojkaaGreatDoor
set_option linter.unusedVariables false

/-- A circuit's parts, the highest layer first: part j is of 2^(lg j) gates, wired to 2^(lg (j + 1)) below. -/
structure Parts where
  n : Nat
  lg : Nat → Nat
  M : Nat → Nat → Bool
  A : Nat → Nat → Nat
  B : Nat → Nat → Nat
/-- Each gate's inputs are of the layer below. -/
def Parts.fits (C : Parts) : Prop := ∀ j, j < C.n → ∀ g, g < 2 ^ C.lg j → C.A j g < 2 ^ C.lg (j + 1) ∧ C.B j g < 2 ^ C.lg (j + 1)
/-- The values, the highest layer's first: V (j + 1) is below V j. -/
def Parts.run (C : Parts) (V : Nat → Nat → K) : Prop := ∀ j, j < C.n → ∀ g, g < 2 ^ C.lg j → V j g = gateK (C.M j) (C.A j) (C.B j) (V (j + 1)) g
/-- Where a part's draws begin. -/
def Parts.at (C : Parts) : Nat → Nat
  | 0 => C.lg 0
  | j + 1 => C.at j + 2 * C.lg (j + 1) + 1
/-- A part's draws: of x and y, and of the line. -/
def Parts.d (C : Parts) (D : Nat → Int) (j i : Nat) : K := kk (D (C.at j + i))
def Parts.tau (C : Parts) (D : Nat → Int) (j : Nat) : Int := D (C.at j + 2 * C.lg (j + 1))
/-- A part's point. -/
def Parts.z (C : Parts) (D : Nat → Int) : Nat → Nat → K
  | 0 => fun i => kk (D i)
  | j + 1 => lineK (C.d D j) (fun i => C.d D j (C.lg (j + 1) + i)) (kk (C.tau D j))
/-- What is summed in part j. -/
def Parts.F (C : Parts) (V : Nat → Nat → K) (D : Nat → Int) (j : Nat) : (Nat → K) → K := layF (C.M j) (C.A j) (C.B j) (C.lg j) (C.lg (j + 1)) (V (j + 1)) (C.z D j)
/-- The right rounds and the right line. -/
def Parts.rnd (C : Parts) (V : Nat → Nat → K) (D : Nat → Int) (j r : Nat) (x : K) : K := rndK (C.F V D j) (C.lg (j + 1) + C.lg (j + 1)) (C.d D j) r x
def Parts.line (C : Parts) (V : Nat → Nat → K) (D : Nat → Int) (j : Nat) (t : K) : K := evS (V (j + 1)) (lineK (C.d D j) (fun i => C.d D j (C.lg (j + 1) + i)) t) (C.lg (j + 1))
/-- What is truly claimed of part j. -/
def Parts.tru (C : Parts) (V : Nat → Nat → K) (D : Nat → Int) (j : Nat) : K := evS (V j) (C.z D j) (C.lg j)
/-- Behind r rounds of it. -/
def Parts.mid (C : Parts) (V : Nat → Nat → K) (D : Nat → Int) (j r : Nat) : K := cubeS (C.F V D j) r (C.lg (j + 1) + C.lg (j + 1) - r) (C.d D j)
theorem Parts.mid_first (C : Parts) {V : Nat → Nat → K} (D : Nat → Int) (hf : C.fits) (hr : C.run V) {j : Nat} (hj : j < C.n) : C.mid V D j 0 = C.tru V D j := by
  unfold Parts.mid Parts.F
  rw [Nat.sub_zero, lay_sum _ _ _ _ _ _ _ _ (fun g hg => (hf j hj g hg).1) (fun g hg => (hf j hj g hg).2)]
  exact evS_congr _ (fun b hb => (hr j hj b hb).symm) (fun _ _ => rfl)
theorem Parts.mid_last (C : Parts) (V : Nat → Nat → K) (D : Nat → Int) (j : Nat) : C.mid V D j (C.lg (j + 1) + C.lg (j + 1)) = stepK (C.M j) (C.A j) (C.B j) (C.lg j) (C.lg (j + 1)) (C.z D j) (C.d D j) (fun i => C.d D j (C.lg (j + 1) + i)) (C.line V D j 0) (C.line V D j 1) := by
  unfold Parts.mid
  rw [cube_last]
  unfold Parts.F layF Parts.line
  rw [lineK_zero, lineK_one]
theorem Parts.ends (C : Parts) (V : Nat → Nat → K) (D : Nat → Int) (j r : Nat) (h : r < C.lg (j + 1) + C.lg (j + 1)) : C.rnd V D j r 0 + C.rnd V D j r 1 = C.mid V D j r := rnd_ends _ _ _ _ h
theorem Parts.draw (C : Parts) (V : Nat → Nat → K) (D : Nat → Int) (j r : Nat) : C.rnd V D j r (C.d D j r) = C.mid V D j (r + 1) := rnd_draw _ _ _ _
theorem Parts.next (C : Parts) (V : Nat → Nat → K) (D : Nat → Int) (j : Nat) : C.line V D j (kk (C.tau D j)) = C.tru V D (j + 1) := rfl
theorem Parts.rnd_poly (C : Parts) (V : Nat → Nat → K) (D : Nat → Int) (j r : Nat) (h : r < C.lg (j + 1) + C.lg (j + 1)) : IsP 3 (fun x => C.rnd V D j r x) :=
  Go.Proofs.YtbchbmelofojkaaGreatDoor.rnd_poly _ 3 _ _ _ fun g => layF_poly _ _ _ _ _ _ _ g r h
theorem Parts.line_poly (C : Parts) (V : Nat → Nat → K) (D : Nat → Int) (j : Nat) : IsP (C.lg (j + 1) + 1) (fun t => C.line V D j t) := evS_line_poly _ _ _ _

/-- A proof's numbers: rounds and lines. -/
structure Told where
  R : Nat → Nat → Nat → Int
  L : Nat → Nat → Int
/-- What is claimed of part j. -/
def Parts.claim (C : Parts) (D : Nat → Int) (p : Told) (c0 : Int) : Nat → Int
  | 0 => c0
  | j + 1 => atQ (p.L j) (C.lg (j + 1) + 1) (C.tau D j)
/-- Behind r of its rounds. -/
def Parts.now (C : Parts) (D : Nat → Int) (p : Told) (c0 : Int) (j r : Nat) : Int := toldQ (C.claim D p c0 j) (p.R j) 3 (fun i => D (C.at j + i)) r
/-- The line's values that stand for those at x and at y. -/
def Parts.v1 (C : Parts) (p : Told) (j : Nat) : Int := if C.lg (j + 1) = 0 then p.L j 0 else p.L j 1
/-- Part j fits. -/
structure Parts.part (C : Parts) (D : Nat → Int) (p : Told) (c0 : Int) (j : Nat) : Prop where
  sums : ∀ r, r < C.lg (j + 1) + C.lg (j + 1) → addQ (p.R j r 0) (p.R j r 1) = C.now D p c0 j r
  step : ofK (stepK (C.M j) (C.A j) (C.B j) (C.lg j) (C.lg (j + 1)) (C.z D j) (C.d D j) (fun i => C.d D j (C.lg (j + 1) + i)) (kk (p.L j 0)) (kk (C.v1 p j))) = C.now D p c0 j (C.lg (j + 1) + C.lg (j + 1))
/-- A proof holds. -/
def Parts.holds (C : Parts) (D : Nat → Int) (p : Told) (c0 : Int) (inp : Nat → K) : Prop := (∀ j, j < C.n → C.part D p c0 j) ∧ ofK (evS inp (C.z D C.n) (C.lg C.n)) = C.claim D p c0 C.n
/-- The right proof. -/
def Parts.right (C : Parts) (V : Nat → Nat → K) (D : Nat → Int) : Told := ⟨fun j r v => ofK (C.rnd V D j r (kn v)), fun j t => ofK (C.line V D j (kn t))⟩
theorem Parts.right_at (C : Parts) (V : Nat → Nat → K) (D : Nat → Int) (j r : Nat) (h : r < C.lg (j + 1) + C.lg (j + 1)) (x : Int) : atQ ((C.right V D).R j r) 3 x = ofK (C.rnd V D j r (kk x)) :=
  eq_ofK (atQ_rng _ _ _).1 (atQ_rng _ _ _).2 (at_only _ 3 (by omega) (C.rnd_poly V D j r h) (fun i _ => by show _ = kk (ofK _); rw [kk_ofK]) x)
theorem Parts.right_line (C : Parts) (V : Nat → Nat → K) (D : Nat → Int) (j : Nat) (hk : C.lg (j + 1) ≤ 100) (x : Int) : atQ ((C.right V D).L j) (C.lg (j + 1) + 1) x = ofK (C.line V D j (kk x)) :=
  eq_ofK (atQ_rng _ _ _).1 (atQ_rng _ _ _).2 (at_only _ _ (by omega) (C.line_poly V D j) (fun i _ => by show _ = kk (ofK _); rw [kk_ofK]) x)
theorem Parts.right_v1 (C : Parts) (V : Nat → Nat → K) (D : Nat → Int) (j : Nat) : kk (C.v1 (C.right V D) j) = C.line V D j 1 := by
  unfold Parts.v1
  by_cases h : C.lg (j + 1) = 0
  · rw [if_pos h]
    show kk (ofK _) = _
    rw [kk_ofK]
    unfold Parts.line
    rw [h, evS_zero, evS_zero]
  · rw [if_neg h]
    show kk (ofK _) = _
    rw [kk_ofK]; rfl
theorem Parts.right_claim (C : Parts) (V : Nat → Nat → K) (D : Nat → Int) (c0 : Int) (hl : ∀ j, C.lg j ≤ 100) (j : Nat) : C.claim D (C.right V D) c0 (j + 1) = ofK (C.tru V D (j + 1)) := by
  show atQ ((C.right V D).L j) (C.lg (j + 1) + 1) (C.tau D j) = _
  rw [C.right_line V D j (hl _)]; rfl
theorem Parts.right_now (C : Parts) (V : Nat → Nat → K) (D : Nat → Int) (c0 : Int) (j r : Nat) (h : r < C.lg (j + 1) + C.lg (j + 1)) : C.now D (C.right V D) c0 j (r + 1) = ofK (C.mid V D j (r + 1)) := by
  show atQ ((C.right V D).R j r) 3 (D (C.at j + r)) = _
  rw [C.right_at V D j r h, ← C.draw V D j r]; rfl
/-- A part of the right proof fits where what is claimed of it is true. -/
theorem Parts.right_part (C : Parts) {V : Nat → Nat → K} (D : Nat → Int) (c0 : Int) (hf : C.fits) (hr : C.run V) {j : Nat} (hj : j < C.n) : C.part D (C.right V D) c0 j ↔ C.claim D (C.right V D) c0 j = ofK (C.tru V D j) := by
  have hnow : C.claim D (C.right V D) c0 j = ofK (C.tru V D j) → ∀ r, r ≤ C.lg (j + 1) + C.lg (j + 1) → C.now D (C.right V D) c0 j r = ofK (C.mid V D j r) := by
    intro h r hr2
    cases r with
    | zero => show C.claim D (C.right V D) c0 j = _; rw [h, C.mid_first D hf hr hj]
    | succ r => exact C.right_now V D c0 j r (by omega)
  have hsum : ∀ r, r < C.lg (j + 1) + C.lg (j + 1) → addQ ((C.right V D).R j r 0) ((C.right V D).R j r 1) = ofK (C.mid V D j r) := by
    intro r h
    rw [addQ_ofK]
    show ofK (kk (ofK (C.rnd V D j r (kn 0))) + kk (ofK (C.rnd V D j r (kn 1)))) = _
    rw [kk_ofK, kk_ofK, ← C.ends V D j r h]; rfl
  have hstep : ofK (stepK (C.M j) (C.A j) (C.B j) (C.lg j) (C.lg (j + 1)) (C.z D j) (C.d D j) (fun i => C.d D j (C.lg (j + 1) + i)) (kk ((C.right V D).L j 0)) (kk (C.v1 (C.right V D) j))) = ofK (C.mid V D j (C.lg (j + 1) + C.lg (j + 1))) := by
    rw [C.mid_last V D j, C.right_v1 V D j]
    have : kk ((C.right V D).L j 0) = C.line V D j 0 := by show kk (ofK _) = _; rw [kk_ofK]; rfl
    rw [this]
  constructor
  · intro h
    by_cases h0 : C.lg (j + 1) = 0
    · have := h.step
      rw [hstep, h0] at this
      rw [← C.mid_first D hf hr hj]
      exact this.symm
    · have := h.sums 0 (by omega)
      rw [hsum 0 (by omega), C.mid_first D hf hr hj] at this
      exact this.symm
  · intro h
    exact ⟨fun r hr2 => by rw [hsum r hr2, hnow h r (by omega)], by rw [hstep, hnow h _ (Nat.le_refl _)]⟩
/-- The right proof holds for just what is the same at the first point, and at the last one. -/
theorem Parts.right_holds (C : Parts) {V : Nat → Nat → K} (D : Nat → Int) (c0 : Int) (inp : Nat → K) (hf : C.fits) (hr : C.run V) (hl : ∀ j, C.lg j ≤ 100) (hn : 0 < C.n) : C.holds D (C.right V D) c0 inp ↔ c0 = ofK (C.tru V D 0) ∧ evS inp (C.z D C.n) (C.lg C.n) = C.tru V D C.n := by
  have hlast : C.claim D (C.right V D) c0 C.n = ofK (C.tru V D C.n) := by
    obtain ⟨m, hm⟩ : ∃ m, C.n = m + 1 := ⟨C.n - 1, by omega⟩
    rw [hm]; exact C.right_claim V D c0 hl m
  constructor
  · rintro ⟨h1, h2⟩
    refine ⟨(C.right_part D c0 hf hr hn).1 (h1 0 hn), ?_⟩
    rw [hlast] at h2
    exact ofK_inj h2
  · rintro ⟨h1, h2⟩
    refine ⟨fun j hj => (C.right_part D c0 hf hr hj).2 ?_, by rw [h2, hlast]⟩
    cases j with
    | zero => exact h1
    | succ j => exact C.right_claim V D c0 hl j

theorem Parts.kk_at (v : Nat → Int) (n : Nat) (hn : n ≤ 1000) (x y : Int) (h : kk x = kk y) : kk (atQ v n x) = kk (atQ v n y) := by
  obtain ⟨f, _, _, hf⟩ := at_poly v n (by omega)
  rw [hf, hf, h]
theorem Parts.at_val (v : Nat → Int) (n j : Nat) (hn : n ≤ 1000) (hj : j < n) : kk (atQ v n (j : Int)) = kk (v j) := by
  obtain ⟨f, _, h1, hf⟩ := at_poly v n (by omega)
  rw [hf, ← h1 j hj]; rfl
/-- A part that fits, of a wrong claim: a round of it is wrong at 0 or at 1, and right at its draw; or its line is wrong at 0 or at 1. -/
theorem Parts.lie_part (C : Parts) {V : Nat → Nat → K} (D : Nat → Int) (p : Told) (c0 : Int) (hf : C.fits) (hr : C.run V) {j : Nat} (hj : j < C.n) (hp : C.part D p c0 j) (hc : kk (C.claim D p c0 j) ≠ C.tru V D j) :
    (∃ r, r < C.lg (j + 1) + C.lg (j + 1) ∧ (kk (atQ (p.R j r) 3 0) ≠ C.rnd V D j r 0 ∨ kk (atQ (p.R j r) 3 1) ≠ C.rnd V D j r 1) ∧ kk (atQ (p.R j r) 3 (D (C.at j + r))) = C.rnd V D j r (C.d D j r)) ∨
    (kk (p.L j 0) ≠ C.line V D j 0 ∨ kk (C.v1 p j) ≠ C.line V D j 1) := by
  by_cases hline : kk (p.L j 0) ≠ C.line V D j 0 ∨ kk (C.v1 p j) ≠ C.line V D j 1
  · exact .inr hline
  · left
    have l0 : kk (p.L j 0) = C.line V D j 0 := Classical.byContradiction fun h => hline (.inl h)
    have l1 : kk (C.v1 p j) = C.line V D j 1 := Classical.byContradiction fun h => hline (.inr h)
    obtain ⟨r, hr2, hw, hd⟩ := sound (C.mid V D j) (C.rnd V D j) (fun r => kk (C.now D p c0 j r)) (fun r x => kk (atQ (p.R j r) 3 (ofK x))) (C.d D j) (C.lg (j + 1) + C.lg (j + 1))
      (fun r h => C.ends V D j r h) (fun r _ => C.draw V D j r)
      (fun r h => by
        show kk (atQ (p.R j r) 3 (ofK 0)) + kk (atQ (p.R j r) 3 (ofK 1)) = kk (C.now D p c0 j r)
        rw [← hp.sums r h, kk_addQ, ofK_zero, ofK_one]
        have a0 := Parts.at_val (p.R j r) 3 0 (by omega) (by omega)
        have a1 := Parts.at_val (p.R j r) 3 1 (by omega) (by omega)
        rw [← a0, ← a1]; rfl)
      (fun r h => by
        show kk (atQ (p.R j r) 3 (ofK (C.d D j r))) = kk (atQ (p.R j r) 3 (D (C.at j + r)))
        exact Parts.kk_at _ 3 (by omega) _ _ (kk_ofK _))
      (fun e => hc (by rw [← C.mid_first D hf hr hj, ← e]; rfl))
      (by
        show kk (C.now D p c0 j _) = _
        rw [← hp.step, kk_ofK, C.mid_last V D j, l0, l1])
    refine ⟨r, hr2, ?_, ?_⟩
    · rw [← ofK_zero, ← ofK_one]; exact hw
    · rw [← hd]; exact Parts.kk_at _ 3 (by omega) _ _ (kk_ofK _).symm
/-- SCHWARTZ, ZIPPEL, layer by layer: a proof that holds from a wrong claim has told a round or a line that is wrong at 0 or at 1, and right at its draw. -/
theorem Parts.lie (C : Parts) {V : Nat → Nat → K} (D : Nat → Int) (p : Told) (c0 : Int) (hf : C.fits) (hr : C.run V) (hl : ∀ j, C.lg j ≤ 100) (hp : C.holds D p c0 (V C.n)) (hc : kk c0 ≠ C.tru V D 0) :
    ∃ j, j < C.n ∧ ((∃ r, r < C.lg (j + 1) + C.lg (j + 1) ∧ (kk (atQ (p.R j r) 3 0) ≠ C.rnd V D j r 0 ∨ kk (atQ (p.R j r) 3 1) ≠ C.rnd V D j r 1) ∧ kk (atQ (p.R j r) 3 (D (C.at j + r))) = C.rnd V D j r (C.d D j r)) ∨
      ((kk (p.L j 0) ≠ C.line V D j 0 ∨ kk (C.v1 p j) ≠ C.line V D j 1) ∧ kk (atQ (p.L j) (C.lg (j + 1) + 1) (C.tau D j)) = C.line V D j (kk (C.tau D j)))) := by
  apply Classical.byContradiction
  intro hno
  have hall : ∀ j, j ≤ C.n → kk (C.claim D p c0 j) ≠ C.tru V D j := by
    intro j
    induction j with
    | zero => exact fun _ => hc
    | succ j ih =>
      intro hj e
      rcases C.lie_part D p c0 hf hr (show j < C.n by omega) (hp.1 j (by omega)) (ih (by omega)) with h | h
      · exact hno ⟨j, by omega, .inl h⟩
      · exact hno ⟨j, by omega, .inr ⟨h, e⟩⟩
  refine hall C.n (Nat.le_refl _) ?_
  rw [← hp.2, kk_ofK]; rfl

end Go.Proofs.YtbchbmelofojkaaGreatDoor
