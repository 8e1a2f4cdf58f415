/-
  Plain: tables and what they are between. The weights of a point at the corners, the sum over all corners, the folding by halves; that they agree, that corners tell the table's numbers, that all weights are 1 together, that each variable goes straight; no program in it.
-/
import Derived.Test.YtbchbmelofojkaaGreatDoorPoly
namespace Go.Proofs.YtbchbmelofojkaaGreatDoor
set_option linter.unusedVariables false

/-- A rest as a number. -/
def ofK (a : K) : Int := (a.val : Int)
theorem ofK_rng (a : K) : 0 ≤ ofK a ∧ ofK a ≤ 2305843009213693950 := by
  unfold ofK
  have := a.isLt
  omega
theorem ofK_u64 (a : K) : 0 ≤ ofK a ∧ ofK a ≤ 18446744073709551615 := by have := ofK_rng a; omega
theorem kk_ofK (a : K) : kk (ofK a) = a := kk_back a
theorem eq_ofK {y : Int} {a : K} (h0 : 0 ≤ y) (h1 : y ≤ 2305843009213693950) (h : kk y = a) : y = ofK a := kk_inj h0 h1 (ofK_rng a).1 (ofK_rng a).2 (by rw [h, kk_ofK])
theorem addQ_ofK (a b : Int) : addQ a b = ofK (kk a + kk b) := eq_ofK (addQ_rng a b).1 (addQ_rng a b).2 (kk_addQ a b)
theorem subQ_ofK (a b : Int) : subQ a b = ofK (kk a - kk b) := eq_ofK (subQ_rng a b).1 (subQ_rng a b).2 (kk_subQ a b)
theorem mulQ_ofK (a b : Int) : mulQ a b = ofK (kk a * kk b) := eq_ofK (mulQ_rng a b).1 (mulQ_rng a b).2 (kk_mulQ a b)
theorem nrm_ofK (a : Int) : nrm a = ofK (kk a) := eq_ofK (nrm_rng a).1 (nrm_rng a).2 (kk_nrm a)
theorem ofK_zero : ofK 0 = 0 := rfl
theorem ofK_one : ofK 1 = 1 := rfl
theorem ofK_inj {a b : K} (h : ofK a = ofK b) : a = b := by rw [← kk_ofK a, h, kk_ofK]

/-- The sum of the first n. -/
def sK (f : Nat → K) : Nat → K
  | 0 => 0
  | n + 1 => sK f n + f n
theorem sK_congr {f g : Nat → K} (n : Nat) (h : ∀ j, j < n → f j = g j) : sK f n = sK g n := by
  induction n with
  | zero => rfl
  | succ n ih => rw [sK, sK, ih (fun j hj => h j (by omega)), h n (by omega)]
theorem sK_split (f : Nat → K) (m n : Nat) : sK f (m + n) = sK f m + sK (fun j => f (m + j)) n := by
  induction n with
  | zero => simp only [Nat.add_zero, sK]; grind
  | succ n ih => rw [← Nat.add_assoc, sK, sK, ih]; grind
theorem sK_add (f g : Nat → K) (n : Nat) : sK (fun j => f j + g j) n = sK f n + sK g n := by
  induction n with
  | zero => simp only [sK]; grind
  | succ n ih => simp only [sK, ih]; grind
theorem sK_mul (a : K) (f : Nat → K) (n : Nat) : sK (fun j => a * f j) n = a * sK f n := by
  induction n with
  | zero => simp only [sK]; grind
  | succ n ih => simp only [sK, ih]; grind
theorem sK_none (f : Nat → K) (n : Nat) (h : ∀ j, j < n → f j = 0) : sK f n = 0 := by
  induction n with
  | zero => rfl
  | succ n ih => rw [sK, ih (fun j hj => h j (by omega)), h n (by omega)]; grind
theorem sK_one (f : Nat → K) (n b : Nat) (hb : b < n) (h : ∀ j, j < n → j ≠ b → f j = 0) : sK f n = f b := by
  induction n with
  | zero => omega
  | succ n ih =>
    rw [sK]
    by_cases e : b = n
    · subst e
      rw [sK_none f b (fun j hj => h j (by omega) (by omega))]; grind
    · rw [ih (by omega) (fun j hj hne => h j (by omega) hne), h n (by omega) (by omega)]; grind

/-- The weight of a point's n numbers at b; the first number goes with the highest bit. -/
def eqK (g : Nat → K) : Nat → Nat → K
  | 0, _ => 1
  | n + 1, b => eqK g n (b / 2) * (if b % 2 = 1 then g n else 1 - g n)
theorem eqK_congr {g h : Nat → K} (n : Nat) : ∀ b, (∀ j, j < n → g j = h j) → eqK g n b = eqK h n b := by
  induction n with
  | zero => intro b _; rfl
  | succ n ih => intro b e; rw [eqK, eqK, ih _ (fun j hj => e j (by omega)), e n (by omega)]
theorem two_pow_succ (n : Nat) : 2 ^ (n + 1) = 2 ^ n + 2 ^ n := by rw [Nat.pow_succ]; omega
theorem eqK_lo (g : Nat → K) (n : Nat) : ∀ b, b < 2 ^ n → eqK g (n + 1) b = (1 - g 0) * eqK (fun j => g (j + 1)) n b := by
  induction n with
  | zero =>
    intro b hb
    have : b = 0 := by simpa using hb
    subst this
    simp only [eqK]
    rw [if_neg (by omega)]; grind
  | succ n ih =>
    intro b hb
    rw [two_pow_succ] at hb
    rw [eqK, ih (b / 2) (by omega), eqK]
    by_cases e : b % 2 = 1
    · rw [if_pos e]; grind
    · rw [if_neg e]; grind
theorem eqK_hi (g : Nat → K) (n : Nat) : ∀ b, b < 2 ^ n → eqK g (n + 1) (2 ^ n + b) = g 0 * eqK (fun j => g (j + 1)) n b := by
  induction n with
  | zero =>
    intro b hb
    have : b = 0 := by simpa using hb
    subst this
    simp only [eqK]
    rw [if_pos (by simp)]; grind
  | succ n ih =>
    intro b hb
    rw [two_pow_succ] at hb ⊢
    rw [eqK, show (2 ^ n + 2 ^ n + b) / 2 = 2 ^ n + b / 2 from by omega, ih (b / 2) (by omega), eqK]
    by_cases e : b % 2 = 1
    · rw [if_pos (by omega), if_pos e]; grind
    · rw [if_neg (by omega), if_neg e]; grind

/-- A table's value at a point: the sum over all corners. -/
def evS (f g : Nat → K) (n : Nat) : K := sK (fun b => f b * eqK g n b) (2 ^ n)
/-- The first variable at x; h: half of the places. -/
def foldK (f : Nat → K) (h : Nat) (x : K) : Nat → K := fun b => f b + x * (f (h + b) - f b)
theorem evS_congr {f f' g g' : Nat → K} (n : Nat) (hf : ∀ b, b < 2 ^ n → f b = f' b) (hg : ∀ j, j < n → g j = g' j) : evS f g n = evS f' g' n := by
  unfold evS
  exact sK_congr _ fun b hb => by rw [hf b hb, eqK_congr n b hg]
theorem evS_fold (f g : Nat → K) (n : Nat) : evS f g (n + 1) = evS (foldK f (2 ^ n) (g 0)) (fun j => g (j + 1)) n := by
  unfold evS
  rw [two_pow_succ, sK_split, ← sK_add]
  refine sK_congr _ fun b hb => ?_
  rw [eqK_lo g n b hb, eqK_hi g n b hb]
  unfold foldK
  grind
theorem evS_zero (f g : Nat → K) : evS f g 0 = f 0 := by
  simp only [evS, Nat.pow_zero, sK, eqK]; grind
def folds (f : Nat → K) (n : Nat) (g : Nat → K) : Nat → Nat → K
  | 0 => f
  | i + 1 => foldK (folds f n g i) (2 ^ (n - 1 - i)) (g i)
theorem evS_folds (f g : Nat → K) (n i : Nat) (hi : i ≤ n) : evS f g n = evS (folds f n g i) (fun j => g (i + j)) (n - i) := by
  induction i with
  | zero => simp only [folds, Nat.zero_add, Nat.sub_zero]
  | succ i ih =>
    rw [ih (by omega), show n - i = (n - 1 - i) + 1 from by omega, evS_fold, folds, show n - (i + 1) = n - 1 - i from by omega, Nat.add_zero]
    exact evS_congr _ (fun _ _ => rfl) (fun j _ => by rw [show i + (j + 1) = i + 1 + j from by omega])
theorem evS_end (f g : Nat → K) (n : Nat) : evS f g n = folds f n g n 0 := by
  rw [evS_folds f g n n (Nat.le_refl _), Nat.sub_self, evS_zero]

/-- The bits of b as numbers, the highest first. -/
def bitK (b n j : Nat) : K := if b / 2 ^ (n - 1 - j) % 2 = 1 then 1 else 0
theorem bitK_half (b n j : Nat) (h : j < n) : bitK b (n + 1) j = bitK (b / 2) n j := by
  unfold bitK
  have e : b / 2 ^ (n + 1 - 1 - j) = b / 2 / 2 ^ (n - 1 - j) := by
    rw [Nat.div_div_eq_div_mul, show n + 1 - 1 - j = (n - 1 - j) + 1 from by omega, Nat.pow_succ, Nat.mul_comm]
  rw [e]
theorem eqK_bit (n : Nat) : ∀ b c, b < 2 ^ n → c < 2 ^ n → eqK (bitK b n) n c = if c = b then 1 else 0 := by
  induction n with
  | zero =>
    intro b c hb hc
    have hb : b = 0 := by simpa using hb
    have hc : c = 0 := by simpa using hc
    subst hb; subst hc
    simp only [eqK, if_true]
  | succ n ih =>
    intro b c hb hc
    rw [two_pow_succ] at hb hc
    rw [eqK, eqK_congr (h := bitK (b / 2) n) n (c / 2) (fun j hj => bitK_half b n j hj), ih (b / 2) (c / 2) (by omega) (by omega)]
    have e : bitK b (n + 1) n = if b % 2 = 1 then 1 else 0 := by
      unfold bitK; rw [show n + 1 - 1 - n = 0 from by omega, Nat.pow_zero, Nat.div_one]
    rw [e]
    by_cases h1 : c / 2 = b / 2
    · rw [if_pos h1]
      by_cases h2 : c % 2 = 1
      · rw [if_pos h2]
        by_cases h3 : b % 2 = 1
        · rw [if_pos h3, if_pos (by omega)]; grind
        · rw [if_neg h3, if_neg (by omega)]; grind
      · rw [if_neg h2]
        by_cases h3 : b % 2 = 1
        · rw [if_pos h3, if_neg (by omega)]; grind
        · rw [if_neg h3, if_pos (by omega)]; grind
    · have hne : c ≠ b := fun e2 => h1 (by rw [e2])
      rw [if_neg h1, if_neg hne]; grind
theorem evS_bit (f : Nat → K) (n b : Nat) (hb : b < 2 ^ n) : evS f (bitK b n) n = f b := by
  unfold evS
  rw [sK_one _ (2 ^ n) b hb (fun j hj hne => by rw [eqK_bit n b j hb hj, if_neg hne]; grind), eqK_bit n b b hb hb, if_pos rfl]; grind
/-- A table fixed at x, corner by corner. -/
theorem evS_fix (f : Nat → K) (x : K) (n b : Nat) (hb : b < 2 ^ n) : evS f (fun j => if j = 0 then x else bitK b n (j - 1)) (n + 1) = foldK f (2 ^ n) x b := by
  rw [evS_fold]
  exact (evS_congr (f' := foldK f (2 ^ n) x) (g' := bitK b n) n (fun _ _ => by rw [if_pos rfl]) (fun j _ => by rw [if_neg (by omega)]; rfl)).trans (evS_bit _ n b hb)
/-- All weights are 1 together. -/
theorem eqK_sum (n : Nat) : ∀ g : Nat → K, sK (eqK g n) (2 ^ n) = 1 := by
  have h : ∀ n g, evS (fun _ => 1) g n = 1 := by
    intro n
    induction n with
    | zero => intro g; rw [evS_zero]
    | succ n ih =>
      intro g
      rw [evS_fold, evS_congr (f' := fun _ => 1) (g' := fun j => g (j + 1)) n (fun b _ => by unfold foldK; grind) (fun _ _ => rfl), ih]
  intro g
  rw [← h n g]
  unfold evS
  exact sK_congr _ fun b _ => by grind
/-- One number of a point, turned. -/
def updK (g : Nat → K) (i : Nat) (x : K) : Nat → K := fun j => if j = i then x else g j
theorem eqK_line (g : Nat → K) (i : Nat) (x : K) (n : Nat) : ∀ b, i < n → eqK (updK g i x) n b = eqK (updK g i 0) n b + x * (eqK (updK g i 1) n b - eqK (updK g i 0) n b) := by
  induction n with
  | zero => intro b h; omega
  | succ n ih =>
    intro b h
    rw [eqK, eqK, eqK]
    by_cases e : i = n
    · subst e
      have e0 : ∀ y, eqK (updK g i y) i (b / 2) = eqK g i (b / 2) := fun y => eqK_congr i _ fun j hj => by
        show (if j = i then y else g j) = g j
        exact if_neg (by omega)
      rw [e0, e0, e0]
      have e1 : ∀ y, updK g i y i = y := fun y => if_pos rfl
      rw [e1, e1, e1]
      by_cases h2 : b % 2 = 1
      · rw [if_pos h2, if_pos h2, if_pos h2]; grind
      · rw [if_neg h2, if_neg h2, if_neg h2]; grind
    · rw [ih (b / 2) (by omega)]
      have e1 : ∀ y, updK g i y n = g n := fun y => if_neg (by omega)
      rw [e1, e1, e1]
      grind
theorem evS_line (f g : Nat → K) (n i : Nat) (x : K) (hi : i < n) : evS f (updK g i x) n = evS f (updK g i 0) n + x * (evS f (updK g i 1) n - evS f (updK g i 0) n) := by
  have h1 : evS f (updK g i x) n = sK (fun b => f b * eqK (updK g i 0) n b + x * (f b * eqK (updK g i 1) n b + (0 - 1) * (f b * eqK (updK g i 0) n b))) (2 ^ n) := by
    unfold evS
    exact sK_congr _ fun b _ => by rw [eqK_line g i x n b hi]; grind
  rw [h1, sK_add, sK_mul, sK_add, sK_mul]
  show evS f (updK g i 0) n + x * (evS f (updK g i 1) n + (0 - 1) * evS f (updK g i 0) n) = _
  grind

/-- The bits of b as numbers, the highest first. -/
def bitF (b n j : Nat) : Int := ((b / 2 ^ (n - 1 - j) % 2 : Nat) : Int)
theorem kk_bitF (b n j : Nat) : kk (bitF b n j) = bitK b n j := by
  unfold bitF bitK
  have h : b / 2 ^ (n - 1 - j) % 2 = 0 ∨ b / 2 ^ (n - 1 - j) % 2 = 1 := by omega
  rcases h with h | h
  · rw [h, if_neg (by omega)]; rfl
  · rw [h, if_pos rfl]; rfl

end Go.Proofs.YtbchbmelofojkaaGreatDoor
