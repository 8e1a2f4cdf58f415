/-
  Plain: trees of pairs: the root of a table, the path of a place, what one comes to by a path; from the root down, and level by level; no program in it.
-/
import Derived.Test.YtmjpcmeinlkfbaaDoorSpong
namespace Go.Proofs.YtmjpcmeinlkfbaaDoor
open Go.RowKit
set_option linter.unusedVariables false

/-- What Pair answers. -/
def prQ (a b : Int) : Int := ofK (pairK a b)
theorem prQ_rng (a b : Int) : 0 ≤ prQ a b ∧ prQ a b ≤ 2305843009213693950 := ofK_rng _
theorem prQ_nrm_l (a b : Int) : prQ (nrm a) b = prQ a b := by unfold prQ; rw [pairK_congr (kk_nrm a) rfl]
theorem prQ_nrm_r (a b : Int) : prQ a (nrm b) = prQ a b := by unfold prQ; rw [pairK_congr rfl (kk_nrm b)]
/-- The root of 2^n numbers. -/
def rootQ : Nat → (Nat → Int) → Int
  | 0, f => prQ (f 0) 0
  | n + 1, f => prQ (rootQ n f) (rootQ n fun j => f (2 ^ n + j))
theorem rootQ_rng (n : Nat) (f : Nat → Int) : 0 ≤ rootQ n f ∧ rootQ n f ≤ 2305843009213693950 := by
  cases n with
  | zero => exact prQ_rng _ _
  | succ n => exact prQ_rng _ _
theorem rootQ_congr (n : Nat) : ∀ {f g : Nat → Int}, (∀ j, j < 2 ^ n → f j = g j) → rootQ n f = rootQ n g := by
  induction n with
  | zero => intro f g h; rw [rootQ, rootQ, h 0 (by omega)]
  | succ n ih =>
    intro f g h
    rw [rootQ, rootQ, ih fun j hj => h j (by rw [two_pow_succ]; omega), ih fun j hj => h (2 ^ n + j) (by rw [two_pow_succ]; omega)]
theorem half_one {i z : Nat} (h : ¬ i < z) (hi : i < z + z) : i / z = 1 := Nat.div_eq_of_lt_le (by omega) (by omega)
/-- Number j of the path of place i, from the lowest on. -/
def pathQ : Nat → (Nat → Int) → Nat → Nat → Int
  | 0, _, _, _ => 0
  | n + 1, f, i, j => if i < 2 ^ n then (if j < n then pathQ n f i j else rootQ n fun j => f (2 ^ n + j)) else (if j < n then pathQ n (fun j => f (2 ^ n + j)) (i - 2 ^ n) j else rootQ n f)
theorem pathQ_rng (n : Nat) : ∀ (f : Nat → Int) (i j : Nat), 0 ≤ pathQ n f i j ∧ pathQ n f i j ≤ 2305843009213693950 := by
  induction n with
  | zero => intro f i j; rw [pathQ]; omega
  | succ n ih =>
    intro f i j
    rw [pathQ]
    split
    · split
      · exact ih _ _ _
      · exact rootQ_rng _ _
    · split
      · exact ih _ _ _
      · exact rootQ_rng _ _
/-- What one comes to from a leaf at place i by n numbers of a path. -/
def climbQ : Nat → Nat → Int → (Nat → Int) → Int
  | 0, _, leaf, _ => prQ leaf 0
  | n + 1, i, leaf, p => if i < 2 ^ n then prQ (climbQ n i leaf p) (p n) else prQ (p n) (climbQ n (i - 2 ^ n) leaf p)
theorem climbQ_rng (n i : Nat) (leaf : Int) (p : Nat → Int) : 0 ≤ climbQ n i leaf p ∧ climbQ n i leaf p ≤ 2305843009213693950 := by
  cases n with
  | zero => exact prQ_rng _ _
  | succ n => rw [climbQ]; split <;> exact prQ_rng _ _
theorem climbQ_congr (n : Nat) (leaf : Int) {p q : Nat → Int} : ∀ i, (∀ j, j < n → p j = q j) → climbQ n i leaf p = climbQ n i leaf q := by
  induction n with
  | zero => exact fun _ _ => rfl
  | succ n ih =>
    intro i h
    rw [climbQ, climbQ, ih i fun j hj => h j (by omega), ih (i - 2 ^ n) fun j hj => h j (by omega), h n (by omega)]
/-- MERKLE: by its path one comes from each place to the root. -/
theorem climb_path (n : Nat) : ∀ (f : Nat → Int) (i : Nat), i < 2 ^ n → climbQ n i (f i) (pathQ n f i) = rootQ n f := by
  induction n with
  | zero => intro f i hi; have : i = 0 := by omega
            subst this; rfl
  | succ n ih =>
    intro f i hi
    rw [two_pow_succ] at hi
    rw [climbQ, rootQ]
    by_cases h : i < 2 ^ n
    · rw [if_pos h, climbQ_congr n (f i) i (q := pathQ n f i) fun j hj => by rw [pathQ, if_pos h, if_pos hj], ih f i h]
      rw [pathQ, if_pos h, if_neg (Nat.lt_irrefl n)]
    · rw [if_neg h]
      rw [climbQ_congr n (f i) (i - 2 ^ n) (q := pathQ n (fun j => f (2 ^ n + j)) (i - 2 ^ n)) fun j hj => by rw [pathQ, if_neg h, if_pos hj]]
      have := ih (fun j => f (2 ^ n + j)) (i - 2 ^ n) (by omega)
      rw [show 2 ^ n + (i - 2 ^ n) = i from by omega] at this
      rw [this, pathQ, if_neg h, if_neg (Nat.lt_irrefl n)]

/-- Level k of the tree, from the lowest on. -/
def levQ (f : Nat → Int) : Nat → Nat → Int
  | 0, j => prQ (f j) 0
  | k + 1, j => prQ (levQ f k (2 * j)) (levQ f k (2 * j + 1))
theorem levQ_rng (f : Nat → Int) (k j : Nat) : 0 ≤ levQ f k j ∧ levQ f k j ≤ 2305843009213693950 := by
  cases k with
  | zero => exact prQ_rng _ _
  | succ k => exact prQ_rng _ _
theorem lev_root (f : Nat → Int) (k : Nat) : ∀ j, levQ f k j = rootQ k fun i => f (2 ^ k * j + i) := by
  induction k with
  | zero => intro j; rw [levQ, rootQ]; simp
  | succ k ih =>
    intro j
    rw [levQ, rootQ, ih, ih]
    congr 1
    · refine rootQ_congr k fun i _ => ?_
      rw [Nat.pow_succ, Nat.mul_assoc]
    · refine rootQ_congr k fun i _ => ?_
      rw [Nat.pow_succ, Nat.mul_assoc, Nat.mul_add, Nat.mul_one, Nat.add_assoc]
theorem lev_top (f : Nat → Int) (n : Nat) : levQ f n 0 = rootQ n f := by
  rw [lev_root]
  exact rootQ_congr n fun i _ => by rw [Nat.mul_zero, Nat.zero_add]
theorem levQ_shift (f : Nat → Int) (n k : Nat) (hk : k ≤ n) : ∀ j, levQ (fun i => f (2 ^ n + i)) k j = levQ f k (2 ^ (n - k) + j) := by
  induction k with
  | zero => intro j; rfl
  | succ k ih =>
    intro j
    rw [levQ, levQ, ih (by omega), ih (by omega)]
    have e : 2 ^ (n - k) = 2 * 2 ^ (n - (k + 1)) := by rw [show n - k = (n - (k + 1)) + 1 from by omega, two_pow_succ]; omega
    rw [e, Nat.mul_add, Nat.add_assoc]
/-- The place beside. -/
def sib (m : Nat) : Nat := if m % 2 = 0 then m + 1 else m - 1
theorem path_lev (n : Nat) : ∀ (f : Nat → Int) (i j : Nat), i < 2 ^ n → j < n → pathQ n f i j = levQ f j (sib (i / 2 ^ j)) := by
  induction n with
  | zero => intro f i j _ hj; omega
  | succ n ih =>
    intro f i j hi hj
    rw [two_pow_succ] at hi
    have hpos : 0 < 2 ^ n := Nat.two_pow_pos n
    rw [pathQ]
    by_cases h : i < 2 ^ n
    · rw [if_pos h]
      by_cases hjn : j < n
      · rw [if_pos hjn]; exact ih f i j h hjn
      · have e : j = n := by omega
        subst e
        rw [if_neg hjn, Nat.div_eq_of_lt h, sib, if_pos rfl, lev_root]
        exact rootQ_congr j fun t _ => by rw [Nat.mul_one]
    · rw [if_neg h]
      have hd : i / 2 ^ n = 1 := half_one h hi
      by_cases hjn : j < n
      · rw [if_pos hjn, ih _ (i - 2 ^ n) j (by omega) hjn, levQ_shift f n j (by omega)]
        congr 1
        have e1 : 2 ^ n = 2 ^ j * 2 ^ (n - j) := by rw [← Nat.pow_add]; congr 1; omega
        have e2 : i / 2 ^ j = (i - 2 ^ n) / 2 ^ j + 2 ^ (n - j) := by
          have : i = (i - 2 ^ n) + 2 ^ j * 2 ^ (n - j) := by rw [← e1]; omega
          rw [this, Nat.add_mul_div_left _ _ (Nat.two_pow_pos j), ← e1]
          congr 2
          omega
        have e3 : 2 ^ (n - j) = 2 * 2 ^ (n - j - 1) := by rw [show n - j = (n - j - 1) + 1 from by omega, two_pow_succ]; simp; omega
        rw [e2]
        generalize (i - 2 ^ n) / 2 ^ j = m
        generalize 2 ^ (n - j - 1) = z at e3
        rw [e3]
        unfold sib
        by_cases hm : m % 2 = 0
        · rw [if_pos hm, if_pos (by omega)]; omega
        · rw [if_neg hm, if_neg (by omega)]; omega
      · have e : j = n := by omega
        subst e
        rw [if_neg hjn, hd, sib, if_neg (by omega), lev_root]
        exact rootQ_congr j fun t _ => by rw [Nat.sub_self, Nat.mul_zero, Nat.zero_add]
/-- Up from a leaf, step by step, by the bits of its place. -/
def upC (i : Nat) (leaf : Int) (p : Nat → Int) : Nat → Int
  | 0 => prQ leaf 0
  | k + 1 => if i / 2 ^ k % 2 = 0 then prQ (upC i leaf p k) (p k) else prQ (p k) (upC i leaf p k)
theorem upC_rng (i : Nat) (leaf : Int) (p : Nat → Int) (k : Nat) : 0 ≤ upC i leaf p k ∧ upC i leaf p k ≤ 2305843009213693950 := by
  cases k with
  | zero => exact prQ_rng _ _
  | succ k => rw [upC]; split <;> exact prQ_rng _ _
theorem upC_low (leaf : Int) (p : Nat → Int) (n i : Nat) (h : 2 ^ n ≤ i) (k : Nat) : k ≤ n → upC (i - 2 ^ n) leaf p k = upC i leaf p k := by
  induction k with
  | zero => exact fun _ => rfl
  | succ k ih =>
    intro hk
    rw [upC, upC, ih (by omega)]
    have e1 : 2 ^ n = 2 ^ k * 2 ^ (n - k) := by rw [← Nat.pow_add]; congr 1; omega
    have e2 : i / 2 ^ k = (i - 2 ^ n) / 2 ^ k + 2 ^ (n - k) := by
      have : i = (i - 2 ^ n) + 2 ^ k * 2 ^ (n - k) := by rw [← e1]; omega
      rw [this, Nat.add_mul_div_left _ _ (Nat.two_pow_pos k), ← e1]
      congr 2
      omega
    have e3 : 2 ^ (n - k) = 2 * 2 ^ (n - k - 1) := by rw [show n - k = (n - k - 1) + 1 from by omega, two_pow_succ]; simp; omega
    rw [e2, e3, Nat.add_mul_mod_self_left]
theorem climb_up (leaf : Int) (p : Nat → Int) (n : Nat) : ∀ i, i < 2 ^ n → climbQ n i leaf p = upC i leaf p n := by
  induction n with
  | zero => exact fun _ _ => rfl
  | succ n ih =>
    intro i hi
    rw [two_pow_succ] at hi
    rw [climbQ, upC]
    by_cases h : i < 2 ^ n
    · rw [if_pos h, Nat.div_eq_of_lt h, if_pos rfl, ih i h]
    · have hd : i / 2 ^ n = 1 := half_one h hi
      rw [if_neg h, hd, if_neg (by omega), ih (i - 2 ^ n) (by omega), upC_low leaf p n i (by omega) n (Nat.le_refl n)]

end Go.Proofs.YtmjpcmeinlkfbaaDoor
