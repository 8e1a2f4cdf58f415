/-
  Plain: sums of products of tables, told bit by bit. What a round is (a polynomial in the first variable that is left), that its values at 0 and 1 are the claim together, that at a draw it is the claim of the tables so fixed, that its values tell it; what is left at the end; no program in it.
-/
import Derived.Test.YtbchbmelofojkaaGreatDoorMulti
namespace Go.Proofs.YtbchbmelofojkaaGreatDoor
set_option linter.unusedVariables false

/-- Tables of numbers, as tables of rests. -/
def kF (F : Nat → Nat → Int) (i j : Nat) : K := kk (F i j)
/-- The product of the first m. -/
def prK (F : Nat → K) : Nat → K
  | 0 => 1
  | m + 1 => prK F m * F m
theorem prK_congr {F G : Nat → K} (m : Nat) (h : ∀ i, i < m → F i = G i) : prK F m = prK G m := by
  induction m with
  | zero => rfl
  | succ m ih => rw [prK, prK, ih (fun i hi => h i (by omega)), h m (by omega)]
/-- The sum, over the first N places, of the products of m tables. -/
def claimK (F : Nat → Nat → K) (m N : Nat) : K := sK (fun b => prK (fun i => F i b) m) N
theorem claimK_congr {F G : Nat → Nat → K} (m N : Nat) (h : ∀ i b, i < m → b < N → F i b = G i b) : claimK F m N = claimK G m N :=
  sK_congr N fun b hb => prK_congr m fun i hi => h i b hi hb
/-- A round: the claim of the tables with the first variable at x. -/
def roundK (F : Nat → Nat → K) (m h : Nat) (x : K) : K := claimK (fun i => foldK (F i) h x) m h
theorem roundK_congr {F G : Nat → Nat → K} (m h : Nat) (x : K) (e : ∀ i b, i < m → b < h + h → F i b = G i b) : roundK F m h x = roundK G m h x :=
  claimK_congr m h fun i b hi hb => by unfold foldK; rw [e i b hi (by omega), e i (h + b) hi (by omega)]
theorem fold_zero (f : Nat → K) (h b : Nat) : foldK f h 0 b = f b := by unfold foldK; grind
theorem fold_one (f : Nat → K) (h b : Nat) : foldK f h 1 b = f (h + b) := by unfold foldK; grind
/-- The values at 0 and 1 are the claim together. -/
theorem roundK_ends (F : Nat → Nat → K) (m h : Nat) : roundK F m h 0 + roundK F m h 1 = claimK F m (h + h) := by
  unfold roundK claimK
  rw [sK_split]
  congr 1
  · exact sK_congr h fun b _ => prK_congr m fun i _ => fold_zero _ h b
  · exact sK_congr h fun b _ => prK_congr m fun i _ => fold_one _ h b
theorem IsP.sum (f : Nat → K → K) (k : Nat) (N : Nat) (h : ∀ b, IsP k (f b)) : IsP k (fun x => sK (fun b => f b x) N) := by
  induction N with
  | zero => exact IsP.zero k
  | succ N ih => exact (ih.add (h N)).congr fun x => rfl
theorem prK_poly (a c : Nat → K) (m : Nat) : IsP (m + 1) (fun x => prK (fun i => a i + c i * x) m) := by
  induction m with
  | zero => exact (IsP.const 1).congr fun x => rfl
  | succ m ih => exact (ih.line (a m) (c m)).congr fun x => by rw [prK]; grind
/-- A round is a polynomial of m + 1 coefficients. -/
theorem roundK_poly (F : Nat → Nat → K) (m h : Nat) : IsP (m + 1) (fun x => roundK F m h x) := by
  unfold roundK claimK
  refine IsP.sum (fun b x => prK (fun i => foldK (F i) h x b) m) (m + 1) h fun b => ?_
  exact (prK_poly (fun i => F i b) (fun i => F i (h + b) - F i b) m).congr fun x => prK_congr m fun i _ => by unfold foldK; grind
/-- Its values at 0 .. m tell it everywhere. -/
theorem round_at (F : Nat → Nat → K) (m h : Nat) (v : Nat → Int) (hm : m ≤ 100) (hv : ∀ j, j < m + 1 → v j = ofK (roundK F m h (kn j))) (x : Int) : atQ v (m + 1) x = ofK (roundK F m h (kk x)) :=
  eq_ofK (atQ_rng _ _ _).1 (atQ_rng _ _ _).2 (at_only v (m + 1) (by omega) (roundK_poly F m h) (fun i hi => by rw [hv i hi, kk_ofK]) x)

theorem folds_congr (f : Nat → K) (n : Nat) {g g' : Nat → K} (k : Nat) (h : ∀ j, j < k → g j = g' j) : folds f n g k = folds f n g' k := by
  induction k with
  | zero => rfl
  | succ k ih => rw [folds, folds, ih (fun j hj => h j (by omega)), h k (by omega)]
/-- The tables behind k draws. -/
def leftK (F : Nat → Nat → K) (n : Nat) (g : Nat → K) (k : Nat) : Nat → Nat → K := fun i => folds (F i) n g k
/-- What is truly claimed behind k draws. -/
def trueK (F : Nat → Nat → K) (m n : Nat) (g : Nat → K) (k : Nat) : K := claimK (leftK F n g k) m (2 ^ (n - k))
/-- The right round behind k draws. -/
def rightK (F : Nat → Nat → K) (m n : Nat) (g : Nat → K) (k : Nat) (x : K) : K := roundK (leftK F n g k) m (2 ^ (n - 1 - k)) x
theorem half_pow2 {n k : Nat} (h : k < n) : 2 ^ (n - k) = 2 ^ (n - 1 - k) + 2 ^ (n - 1 - k) := by rw [show n - k = (n - 1 - k) + 1 from by omega, two_pow_succ]
theorem right_ends (F : Nat → Nat → K) (m n : Nat) (g : Nat → K) (k : Nat) (h : k < n) : rightK F m n g k 0 + rightK F m n g k 1 = trueK F m n g k := by
  unfold rightK trueK
  rw [roundK_ends, half_pow2 h]
theorem right_draw (F : Nat → Nat → K) (m n : Nat) (g : Nat → K) (k : Nat) (h : k < n) : rightK F m n g k (g k) = trueK F m n g (k + 1) := by
  unfold rightK trueK roundK
  rw [show n - (k + 1) = n - 1 - k from by omega]
  exact claimK_congr m _ fun i b _ _ => rfl
theorem true_first (F : Nat → Nat → K) (m n : Nat) (g : Nat → K) : trueK F m n g 0 = claimK F m (2 ^ n) := by
  unfold trueK; rw [Nat.sub_zero]; rfl
/-- What is left at the end: the product of the tables' values. -/
theorem true_last (F : Nat → Nat → K) (m n : Nat) (g : Nat → K) : trueK F m n g n = prK (fun i => evS (F i) g n) m := by
  unfold trueK claimK
  rw [Nat.sub_self, Nat.pow_zero, sK, sK, show (0 : K) + prK (fun i => leftK F n g n i 0) m = prK (fun i => leftK F n g n i 0) m from by grind]
  exact prK_congr m fun i _ => (evS_end (F i) g n).symm

/-- A round is the sum over what is left, with the draws and x ahead and a corner's bits behind. -/
theorem right_sum (F : Nat → Nat → K) (m n : Nat) (g : Nat → K) (k : Nat) (x : K) (h : k < n) (G : Nat → Nat → K)
    (h1 : ∀ b j, j < k → G b j = g j) (h2 : ∀ b, G b k = x) (h3 : ∀ b j, k < j → j < n → G b j = bitK b (n - 1 - k) (j - (k + 1))) :
    sK (fun b => prK (fun i => evS (F i) (G b) n) m) (2 ^ (n - 1 - k)) = rightK F m n g k x := by
  unfold rightK roundK claimK
  refine sK_congr _ fun b hb => prK_congr m fun i _ => ?_
  rw [evS_folds (F i) (G b) n k (by omega), show n - k = (n - 1 - k) + 1 from by omega]
  have e : folds (F i) n (G b) k = folds (F i) n g k := folds_congr (F i) n k (fun j hj => h1 b j hj)
  rw [e]
  refine Eq.trans (evS_congr (f' := folds (F i) n g k) (g' := fun j => if j = 0 then x else bitK b (n - 1 - k) (j - 1)) _ (fun _ _ => rfl) fun j hj => ?_) (evS_fix (folds (F i) n g k) x (n - 1 - k) b hb)
  by_cases e0 : j = 0
  · subst e0; rw [if_pos rfl, Nat.add_zero, h2]
  · rw [if_neg e0, h3 b (k + j) (by omega) (by omega), show k + j - (k + 1) = j - 1 from by omega]
theorem first_sum (F : Nat → Nat → K) (m n : Nat) (G : Nat → Nat → K) (h : ∀ b j, j < n → G b j = bitK b n j) : sK (fun b => prK (fun i => evS (F i) (G b) n) m) (2 ^ n) = claimK F m (2 ^ n) := by
  unfold claimK
  refine sK_congr _ fun b hb => prK_congr m fun i _ => ?_
  rw [evS_congr (f' := F i) (g' := bitK b n) n (fun _ _ => rfl) (fun j hj => h b j hj), evS_bit (F i) n b hb]

/-- SCHWARTZ, ZIPPEL's step, and all rounds: who starts from a wrong claim and ends right has told a wrong round that is right at its draw. c: what is claimed, from round to round; r: the rounds that were told. -/
theorem sound (T : Nat → K) (R : Nat → K → K) (c : Nat → K) (r : Nat → K → K) (d : Nat → K) (n : Nat) (hT : ∀ k, k < n → R k 0 + R k 1 = T k) (hT2 : ∀ k, k < n → R k (d k) = T (k + 1)) (hc : ∀ k, k < n → r k 0 + r k 1 = c k) (hc2 : ∀ k, k < n → r k (d k) = c (k + 1)) (h0 : c 0 ≠ T 0) (hn : c n = T n) :
    ∃ k, k < n ∧ (r k 0 ≠ R k 0 ∨ r k 1 ≠ R k 1) ∧ r k (d k) = R k (d k) := by
  apply Classical.byContradiction
  intro hno
  have hall : ∀ k, k ≤ n → c k ≠ T k := by
    intro k
    induction k with
    | zero => intro _; exact h0
    | succ k ih =>
      intro hk e
      have h1 := ih (by omega)
      have h2 : r k 0 ≠ R k 0 ∨ r k 1 ≠ R k 1 := by
        apply Classical.byContradiction
        intro h3
        have a0 : r k 0 = R k 0 := Classical.byContradiction fun h => h3 (.inl h)
        have a1 : r k 1 = R k 1 := Classical.byContradiction fun h => h3 (.inr h)
        exact h1 (by rw [← hc k (by omega), ← hT k (by omega), a0, a1])
      exact hno ⟨k, by omega, h2, by rw [hc2 k (by omega), hT2 k (by omega), e]⟩
  exact hall n (Nat.le_refl _) hn

/-- What is claimed behind k rounds. -/
def toldQ (claim : Int) (F : Nat → Nat → Int) (c : Nat) (D : Nat → Int) : Nat → Int
  | 0 => claim
  | k + 1 => atQ (F k) c (D k)
theorem toldQ_rng {claim : Int} (h0 : 0 ≤ claim) (h1 : claim ≤ 18446744073709551615) (F : Nat → Nat → Int) (c : Nat) (D : Nat → Int) (k : Nat) : 0 ≤ toldQ claim F c D k ∧ toldQ claim F c D k ≤ 18446744073709551615 := by
  cases k with
  | zero => exact ⟨h0, h1⟩
  | succ k =>
    have := atQ_rng (F k) c (D k)
    show 0 ≤ atQ (F k) c (D k) ∧ atQ (F k) c (D k) ≤ 18446744073709551615
    omega

theorem told_nrm (claim : Int) (F : Nat → Nat → Int) (c : Nat) (D : Nat → Int) (k : Nat) : nrm (toldQ claim F c D k) = toldQ (nrm claim) F c D k := by
  cases k with
  | zero => rfl
  | succ k => exact nrm_in (atQ_rng _ _ _).1 (atQ_rng _ _ _).2
theorem told_in (claim : Int) (F : Nat → Nat → Int) (c : Nat) (D : Nat → Int) (k : Nat) : 0 ≤ toldQ (nrm claim) F c D k ∧ toldQ (nrm claim) F c D k ≤ 2305843009213693950 := by
  rw [← told_nrm]; exact nrm_rng _

end Go.Proofs.YtbchbmelofojkaaGreatDoor
