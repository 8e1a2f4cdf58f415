/-
  Plain arithmetic: the six operations of package field as functions of integers, and what is true of them by the prime 2^61 - 1; no program in it.
-/
import Derived.Test.YtbchbmelofojkaaGreatDoorNum
import Derived.WalkKit
import Derived.Lib.Mul64
import Derived.Laws.Bits64b
import Derived.Laws.BitsAllLaws
namespace Go.Proofs.YtbchbmelofojkaaGreatDoor
open Go.RowKit
set_option linter.unusedVariables false
set_option linter.unusedSimpArgs false

theorem hid {p : Prop} (h : p) : Hid p := h

def Q : Int := 2305843009213693951
theorem Q_eq : Q = 2305843009213693951 := rfl
theorem Q_P : Q = (Num.P : Int) := rfl
def nrm (a : Int) : Int := a % Q
def addQ (a b : Int) : Int := (a + b) % Q
def subQ (a b : Int) : Int := (a - b) % Q
def mulQ (a b : Int) : Int := (a * b) % Q
def powQ (a : Int) (n : Nat) : Int := a ^ n % Q
def invQ (a : Int) : Int := powQ a 2305843009213693949

theorem ret_u64 {a b : Int} (h : a = b) : Ending.returned (.int .u64 a) = .returned (.int .u64 b) := by rw [h]

theorem rest_rng (a : Int) : 0 ≤ a % Q ∧ a % Q ≤ 2305843009213693950 := by rw [Q_eq]; omega
theorem nrm_rng (a : Int) : 0 ≤ nrm a ∧ nrm a ≤ 2305843009213693950 := rest_rng _
theorem addQ_rng (a b : Int) : 0 ≤ addQ a b ∧ addQ a b ≤ 2305843009213693950 := rest_rng _
theorem subQ_rng (a b : Int) : 0 ≤ subQ a b ∧ subQ a b ≤ 2305843009213693950 := rest_rng _
theorem mulQ_rng (a b : Int) : 0 ≤ mulQ a b ∧ mulQ a b ≤ 2305843009213693950 := rest_rng _
theorem powQ_rng (a : Int) (n : Nat) : 0 ≤ powQ a n ∧ powQ a n ≤ 2305843009213693950 := rest_rng _
theorem invQ_rng (a : Int) : 0 ≤ invQ a ∧ invQ a ≤ 2305843009213693950 := rest_rng _

theorem nrm_in {a : Int} (h0 : 0 ≤ a) (h1 : a ≤ 2305843009213693950) : nrm a = a := by unfold nrm; rw [Q_eq]; omega
theorem nrm_up (a : Int) (h0 : 0 ≤ a) (h : 2305843009213693951 ≤ a % 2305843009213693952 + a / 2305843009213693952) (h1 : a ≤ 18446744073709551615) :
    a % 2305843009213693952 + a / 2305843009213693952 - 2305843009213693951 = nrm a := by unfold nrm; rw [Q_eq]; omega
theorem nrm_low (a : Int) (h0 : 0 ≤ a) (h : a % 2305843009213693952 + a / 2305843009213693952 < 2305843009213693951) :
    a % 2305843009213693952 + a / 2305843009213693952 = nrm a := by unfold nrm; rw [Q_eq]; omega
theorem nrm_add (a b : Int) : nrm (nrm a + nrm b) = addQ a b := by unfold nrm addQ; exact (Int.add_emod a b Q).symm
theorem nrm_sub (a b : Int) : nrm (nrm a + 2305843009213693951 - nrm b) = subQ a b := by unfold nrm subQ; rw [Q_eq]; omega
theorem nrm_mul (a b : Int) : mulQ (nrm a) (nrm b) = mulQ a b := by unfold nrm mulQ; exact (Int.mul_emod a b Q).symm
theorem mulQ_nrm_l (a b : Int) : mulQ (nrm a) b = mulQ a b := by unfold nrm mulQ; rw [Int.mul_emod, Int.emod_emod, ← Int.mul_emod]
theorem mulQ_nrm_r (a b : Int) : mulQ a (nrm b) = mulQ a b := by unfold nrm mulQ; rw [Int.mul_emod, Int.emod_emod, ← Int.mul_emod]
theorem fold61 (m : Int) (h0 : 0 ≤ m) : nrm (m % 2305843009213693952 + (m / 18446744073709551616 * 8 + m % 18446744073709551616 / 2305843009213693952)) = nrm m := by
  unfold nrm; rw [Q_eq]; omega
theorem prod_rng (a b : Int) : 0 ≤ nrm a * nrm b ∧ nrm a * nrm b ≤ 2305843009213693950 * 2305843009213693950 := by
  have ha := nrm_rng a
  have hb := nrm_rng b
  exact ⟨Int.mul_nonneg ha.1 hb.1, Int.mul_le_mul ha.2 hb.2 hb.1 (by omega)⟩
theorem hi_rng (m : Int) (h0 : 0 ≤ m) (h1 : m ≤ 2305843009213693950 * 2305843009213693950) : 0 ≤ m / 18446744073709551616 ∧ m / 18446744073709551616 ≤ 288230376151711743 := by omega

theorem mask61 (a : Int) (h0 : 0 ≤ a) (h1 : a ≤ 18446744073709551615) : bits .and .u64 a 2305843009213693951 = a % 2305843009213693952 := by
  obtain ⟨n, rfl⟩ := Int.eq_ofNat_of_zero_le h0
  have h := bits_and_u64_nat n 2305843009213693951 (by omega) (by omega)
  have e : n &&& 2305843009213693951 = n % 2305843009213693952 := Nat.and_two_pow_sub_one_eq_mod n 61
  rw [e] at h
  exact h
theorem mask32 (a : Int) (h0 : 0 ≤ a) (h1 : a ≤ 18446744073709551615) : bits .and .u64 a 4294967295 = a % 4294967296 := by
  obtain ⟨n, rfl⟩ := Int.eq_ofNat_of_zero_le h0
  have h := bits_and_u64_nat n 4294967295 (by omega) (by omega)
  have e : n &&& 4294967295 = n % 4294967296 := Nat.and_two_pow_sub_one_eq_mod n 32
  rw [e] at h
  exact h
theorem mask1 (a : Int) (h0 : 0 ≤ a) (h1 : a ≤ 18446744073709551615) : bits .and .u64 a 1 = a % 2 := by
  obtain ⟨n, rfl⟩ := Int.eq_ofNat_of_zero_le h0
  have h := bits_and_u64_nat n 1 (by omega) (by omega)
  have e : n &&& 1 = n % 2 := Nat.and_two_pow_sub_one_eq_mod n 1
  rw [e] at h
  exact h
theorem join3 (a b : Int) (h0 : 0 ≤ a) (h1 : a * 8 ≤ 18446744073709551615) (h2 : 0 ≤ b) (h3 : b < 8) : bits .or .u64 (a * 8) b = a * 8 + b := by
  obtain ⟨n, rfl⟩ := Int.eq_ofNat_of_zero_le h0
  obtain ⟨m, rfl⟩ := Int.eq_ofNat_of_zero_le h2
  have h := bits_or_u64_nat (n * 8) m (by omega) (by omega)
  rw [nat_join 3 (n * 8) m (by omega) (by omega)] at h
  have e : ((n : Int) * 8) = ((n * 8 : Nat) : Int) := by omega
  rw [e, h]; omega

/-- The school method on halves of 32 bits, over Int: no step of it wraps, and what it calls 'hi' is the upper half. -/
theorem halves (x y : Int) (hx0 : 0 ≤ x) (hx : x ≤ 18446744073709551615) (hy0 : 0 ≤ y) (hy : y ≤ 18446744073709551615) :
    ∃ a b c d : Int, x / 4294967296 * (y / 4294967296) = a ∧ x / 4294967296 * (y % 4294967296) = b ∧ x % 4294967296 * (y / 4294967296) = c ∧ x % 4294967296 * (y % 4294967296) = d ∧
      0 ≤ a ∧ a ≤ 18446744065119617025 ∧ 0 ≤ b ∧ b ≤ 18446744065119617025 ∧ 0 ≤ c ∧ c ≤ 18446744065119617025 ∧ 0 ≤ d ∧ d ≤ 18446744065119617025 ∧
      a + (b + d / 4294967296) / 4294967296 + ((b + d / 4294967296) % 4294967296 + c) / 4294967296 = x * y / 18446744073709551616 ∧
      a + (b + d / 4294967296) / 4294967296 + ((b + d / 4294967296) % 4294967296 + c) / 4294967296 ≤ 18446744073709551615 := by
  obtain ⟨n, rfl⟩ := Int.eq_ofNat_of_zero_le hx0
  obtain ⟨m, rfl⟩ := Int.eq_ofNat_of_zero_le hy0
  obtain ⟨_, _, _, hh⟩ := Lib.mul64_hi n m (by omega) (by omega)
  have ba := Lib.half_mul_le (a := n / 4294967296) (b := m / 4294967296) (by omega) (by omega)
  have bb := Lib.half_mul_le (a := n / 4294967296) (b := m % 4294967296) (by omega) (by omega)
  have bc := Lib.half_mul_le (a := n % 4294967296) (b := m / 4294967296) (by omega) (by omega)
  have bd := Lib.half_mul_le (a := n % 4294967296) (b := m % 4294967296) (by omega) (by omega)
  refine ⟨_, _, _, _, (Int.natCast_mul (n / 4294967296) (m / 4294967296)).symm, (Int.natCast_mul (n / 4294967296) (m % 4294967296)).symm, (Int.natCast_mul (n % 4294967296) (m / 4294967296)).symm, (Int.natCast_mul (n % 4294967296) (m % 4294967296)).symm, ?_⟩
  have e : (n : Int) * (m : Int) = ((n * m : Nat) : Int) := (Int.natCast_mul n m).symm
  rw [e]
  generalize n * m = p at *
  generalize n / 4294967296 * (m / 4294967296) = a at *
  generalize n / 4294967296 * (m % 4294967296) = b at *
  generalize n % 4294967296 * (m / 4294967296) = c at *
  generalize n % 4294967296 * (m % 4294967296) = d at *
  refine ⟨by omega, by omega, by omega, by omega, by omega, by omega, by omega, by omega, by omega, by omega⟩

/-! ### powers -/
theorem int_pow_two (a : Int) : a ^ 2 = a * a := by rw [show (2 : Nat) = 1 + 1 from rfl, Int.pow_succ, Int.pow_succ, Int.pow_zero, Int.one_mul]
theorem int_pow_emod (a : Int) (n : Nat) : (a % Q) ^ n % Q = a ^ n % Q := by
  induction n with
  | zero => rw [Int.pow_zero, Int.pow_zero]
  | succ n ih => rw [Int.pow_succ, Int.mul_emod, ih, Int.emod_emod, ← Int.mul_emod, ← Int.pow_succ]
theorem powQ_nrm (a : Int) (n : Nat) : powQ (nrm a) n = powQ a n := int_pow_emod a n
theorem powQ_zero (a : Int) : powQ a 0 = 1 := by unfold powQ; rw [Int.pow_zero, Q_eq]; rfl
theorem powQ_one (a : Int) : powQ a 1 = nrm a := by unfold powQ nrm; rw [Int.pow_succ, Int.pow_zero, Int.one_mul]
theorem powQ_add (a : Int) (m n : Nat) : powQ a (m + n) = mulQ (powQ a m) (powQ a n) := by
  unfold powQ mulQ; rw [Int.pow_add, Int.mul_emod]
theorem mod_mul_l (a b : Int) : a % Q * b % Q = a * b % Q := by rw [Int.mul_emod, Int.emod_emod, ← Int.mul_emod]
theorem mod_mul_r (a b : Int) : a * (b % Q) % Q = a * b % Q := by rw [Int.mul_emod, Int.emod_emod, ← Int.mul_emod]
theorem powQ_succ (a : Int) (n : Nat) : powQ a (n + 1) = mulQ (powQ a n) a := by
  unfold powQ mulQ; rw [Int.pow_succ, mod_mul_l]
theorem powQ_sq (a : Int) (n : Nat) : powQ (mulQ a a) n = powQ a (n + n) := by
  unfold powQ mulQ
  rw [int_pow_emod, ← int_pow_two, ← Int.pow_mul, show 2 * n = n + n from by omega]
/-- What a round of Pow keeps: r times a to the n. -/
def kept (r a : Int) (n : Nat) : Int := mulQ r (powQ a n)
theorem kept_even (r a : Int) (n : Nat) (h : n % 2 = 0) : kept r (mulQ a a) (n / 2) = kept r a n := by
  unfold kept; rw [powQ_sq, show n / 2 + n / 2 = n from by omega]
theorem mulQ_assoc (a b c : Int) : mulQ (mulQ a b) c = mulQ a (mulQ b c) := by
  unfold mulQ; rw [Int.mul_emod, Int.emod_emod, ← Int.mul_emod, Int.mul_emod a (b * c % Q), Int.emod_emod, ← Int.mul_emod, Int.mul_assoc]
theorem mulQ_comm (a b : Int) : mulQ a b = mulQ b a := by unfold mulQ; rw [Int.mul_comm]
theorem kept_odd (r a : Int) (n : Nat) (h : n % 2 = 1) : kept (mulQ r a) (mulQ a a) (n / 2) = kept r a n := by
  unfold kept
  rw [powQ_sq, mulQ_assoc, mulQ_comm a, ← powQ_succ, show n / 2 + n / 2 + 1 = n from by omega]
theorem kept_start (a : Int) (n : Nat) : kept 1 a n = powQ a n := by
  unfold kept mulQ powQ; rw [Int.one_mul, Int.emod_emod]
theorem kept_end (r a : Int) (h0 : 0 ≤ r) (h1 : r ≤ 2305843009213693950) : kept r a 0 = r := by
  unfold kept; rw [powQ_zero]; unfold mulQ; rw [Int.mul_one, Q_eq]; omega

/-! ### congruences, and FERMAT over Int -/
theorem cong {x y : Int} (k : Int) (h : x = y + Q * k) : x % Q = y % Q := by rw [h, Int.add_mul_emod_self_left]
theorem cong_out (x : Int) : ∃ k, x % Q = x + Q * k := ⟨-(x / Q), by have := Int.mul_ediv_add_emod x Q; rw [Int.mul_neg]; omega⟩
theorem of_cong {x y : Int} (h : x % Q = y % Q) : ∃ k, x = y + Q * k := by
  have h1 := Int.mul_ediv_add_emod x Q
  have h2 := Int.mul_ediv_add_emod y Q
  refine ⟨x / Q - y / Q, ?_⟩
  rw [Int.mul_sub]; omega

theorem fermatQ (a : Int) (h0 : 0 ≤ a) (h : nrm a ≠ 0) : powQ a 2305843009213693950 = 1 := by
  obtain ⟨n, rfl⟩ := Int.eq_ofNat_of_zero_le h0
  have hn : n % Num.P ≠ 0 := by
    intro e
    apply h
    have e' : ((n % Num.P : Nat) : Int) = 0 := by rw [e]; rfl
    rw [Int.natCast_emod] at e'
    exact e'
  have hf := Num.fermat hn
  have e : (((n ^ (Num.P - 1) % Num.P : Nat)) : Int) = 1 := by rw [hf]; rfl
  rw [Int.natCast_emod, Int.natCast_pow] at e
  exact e
theorem mulQ_one (a : Int) : mulQ a 1 = nrm a := by unfold mulQ nrm; rw [Int.mul_one]
theorem mulQ_zero (a : Int) : mulQ a 0 = 0 := by unfold mulQ; rw [Int.mul_zero]; rfl
theorem inv_mul (a : Int) (h0 : 0 ≤ a) (h : nrm a ≠ 0) : mulQ a (invQ a) = 1 := by
  unfold invQ
  rw [mulQ_comm, ← powQ_succ]; exact fermatQ a h0 h
theorem inv_only (a x : Int) (h0 : 0 ≤ a) (h : nrm a ≠ 0) (x0 : 0 ≤ x) (x1 : x ≤ 2305843009213693950) (e : mulQ x a = 1) : x = invQ a := by
  have h1 : mulQ (mulQ x a) (invQ a) = nrm x := by rw [mulQ_assoc, inv_mul a h0 h, mulQ_one]
  rw [e, mulQ_comm, mulQ_one, nrm_in x0 x1] at h1
  rw [← h1]
  exact nrm_in (invQ_rng a).1 (invQ_rng a).2
theorem coprimeQ (a : Int) (h0 : 0 ≤ a) (h : nrm a ≠ 0) : Nat.gcd 2305843009213693951 (nrm a).toNat = 1 := by
  obtain ⟨r0, r1⟩ := nrm_rng a
  have e : (nrm a).toNat % Num.P = (nrm a).toNat := Nat.mod_eq_of_lt (by rw [Num.P_eq]; omega)
  exact Num.coprime_P (a := (nrm a).toNat) (by rw [e]; omega)

/-! ### EUCLID's step -/
theorem rest_cast (r m : Nat) : (r : Int) - (r : Int) / (m : Int) * (m : Int) = ((r % m : Nat) : Int) := by
  rw [Int.natCast_emod, Int.emod_def, Int.mul_comm]
theorem quo_rng (r m : Nat) (hr : r ≤ 2305843009213693951) : 0 ≤ (r : Int) / (m : Int) ∧ (r : Int) / (m : Int) ≤ 2305843009213693951 ∧ 0 ≤ (r : Int) / (m : Int) * (m : Int) ∧ (r : Int) / (m : Int) * (m : Int) ≤ r := by
  have e : (r : Int) / (m : Int) = ((r / m : Nat) : Int) := (Int.natCast_ediv r m).symm
  have h1 := Nat.div_le_self r m
  have h2 := Nat.div_mul_le_self r m
  have e2 : (r : Int) / (m : Int) * (m : Int) = ((r / m * m : Nat) : Int) := by rw [e, Int.natCast_mul]
  rw [e2, e]
  generalize r / m * m = u at *
  generalize r / m = v at *
  omega
theorem gcd_step (r m : Nat) (h : Nat.gcd r m = 1) : Nat.gcd m (r % m) = 1 := by
  rw [Nat.gcd_comm r m, Nat.gcd_rec, Nat.gcd_comm] at h; exact h
theorem euclid_step (a x t : Int) (r m : Nat) (hx : mulQ x a = nrm r) (ht : mulQ t a = nrm m) :
    mulQ (subQ x (mulQ ((r : Int) / (m : Int)) t)) a = nrm ((r % m : Nat) : Int) := by
  rw [← rest_cast]
  generalize (r : Int) / (m : Int) = q
  obtain ⟨k1, e1⟩ := of_cong hx
  obtain ⟨k2, e2⟩ := of_cong ht
  obtain ⟨k3, e3⟩ := cong_out (q * t)
  obtain ⟨k4, e4⟩ := cong_out (x - (q * t + Q * k3))
  unfold subQ mulQ nrm
  rw [e3, e4]
  refine cong (k1 - q * k2 - k3 * a + k4 * a) ?_
  have e5 : (x - (q * t + Q * k3) + Q * k4) * a = x * a - q * (t * a) + Q * (k4 * a - k3 * a) := by
    simp only [Int.sub_mul, Int.add_mul, Int.mul_sub, Int.mul_assoc]; omega
  rw [e5, e1, e2]
  simp only [Int.sub_mul, Int.add_mul, Int.mul_sub, Int.mul_add, Int.mul_assoc, Int.mul_left_comm q Q]; omega

/-! ### products by doubling, powers from the highest bit -/
theorem bit_split (b : Int) (k : Nat) : b / 2 ^ k = 2 * (b / 2 ^ (k + 1)) + b / 2 ^ k % 2 := by
  have h : b / 2 ^ (k + 1) = b / 2 ^ k / 2 := by
    rw [Int.pow_succ, Int.ediv_ediv_of_nonneg (Int.pow_nonneg (by omega))]
  rw [h]; omega
theorem dbl_rest (a c : Int) : (mulQ a c + mulQ a c) % Q = mulQ a (2 * c) := by
  unfold mulQ
  rw [← Int.add_emod, ← Int.two_mul, Int.mul_left_comm]
theorem dbl_add (a c : Int) : (mulQ a c + nrm a) % Q = mulQ a (c + 1) := by
  unfold mulQ nrm
  rw [← Int.add_emod, Int.mul_add, Int.mul_one]
theorem mul_bit0 (a b : Int) (k : Nat) (h : b / 2 ^ k % 2 = 0) : (mulQ a (b / 2 ^ (k + 1)) + mulQ a (b / 2 ^ (k + 1))) % Q = mulQ a (b / 2 ^ k) := by
  rw [dbl_rest, bit_split b k, h, Int.add_zero]
theorem mul_bit1 (a b : Int) (k : Nat) (h : b / 2 ^ k % 2 = 1) : ((mulQ a (b / 2 ^ (k + 1)) + mulQ a (b / 2 ^ (k + 1))) % Q + nrm a) % Q = mulQ a (b / 2 ^ k) := by
  rw [dbl_rest, dbl_add, bit_split b k, h]
theorem pow_bit0 (a : Int) (n k : Nat) (h : n / 2 ^ k % 2 = 0) : mulQ (powQ a (n / 2 ^ (k + 1))) (powQ a (n / 2 ^ (k + 1))) = powQ a (n / 2 ^ k) := by
  rw [← powQ_add]
  have e : n / 2 ^ (k + 1) = n / 2 ^ k / 2 := by rw [Nat.pow_succ, Nat.div_div_eq_div_mul]
  rw [e, show n / 2 ^ k / 2 + n / 2 ^ k / 2 = n / 2 ^ k from by omega]
theorem pow_bit1 (a : Int) (n k : Nat) (h : n / 2 ^ k % 2 = 1) : mulQ (mulQ (powQ a (n / 2 ^ (k + 1))) (powQ a (n / 2 ^ (k + 1)))) a = powQ a (n / 2 ^ k) := by
  rw [← powQ_add, ← powQ_succ]
  have e : n / 2 ^ (k + 1) = n / 2 ^ k / 2 := by rw [Nat.pow_succ, Nat.div_div_eq_div_mul]
  rw [e, show n / 2 ^ k / 2 + n / 2 ^ k / 2 + 1 = n / 2 ^ k from by omega]

theorem shr_rng (b : Int) (k : Nat) (h : 0 ≤ b) : 0 ≤ b / 2 ^ k ∧ b / 2 ^ k ≤ b := by
  obtain ⟨n, rfl⟩ := Int.eq_ofNat_of_zero_le h
  have e : (n : Int) / 2 ^ k = ((n / 2 ^ k : Nat) : Int) := by rw [Int.natCast_ediv, Int.natCast_pow]; rfl
  have := Nat.div_le_self n (2 ^ k)
  rw [e]
  generalize n / 2 ^ k = u at *
  omega
theorem bit_cast (n k : Nat) (h : (n : Int) / 2 ^ k % 2 = 1) : n / 2 ^ k % 2 = 1 := by
  have e : (n : Int) / 2 ^ k = ((n / 2 ^ k : Nat) : Int) := by rw [Int.natCast_ediv, Int.natCast_pow]; rfl
  rw [e] at h; omega
theorem bit_cast0 (n k : Nat) (h : (n : Int) / 2 ^ k % 2 ≠ 1) : n / 2 ^ k % 2 = 0 := by
  have e : (n : Int) / 2 ^ k = ((n / 2 ^ k : Nat) : Int) := by rw [Int.natCast_ediv, Int.natCast_pow]; rfl
  rw [e] at h; omega

/-! ### the laws of a field -/
theorem addQ_comm (a b : Int) : addQ a b = addQ b a := by unfold addQ; rw [Int.add_comm]
theorem addQ_subQ (a b : Int) : addQ (subQ a b) b = nrm a := by unfold addQ subQ nrm; rw [Q_eq]; omega
theorem mulQ_addQ (a b c : Int) : mulQ a (addQ b c) = addQ (mulQ a b) (mulQ a c) := by
  unfold mulQ addQ; rw [mod_mul_r, ← Int.add_emod, Int.mul_add]
theorem powQ_P (a : Int) (h0 : 0 ≤ a) : powQ a 2305843009213693951 = nrm a := by
  rw [show (2305843009213693951 : Nat) = 2305843009213693950 + 1 from rfl, powQ_succ]
  by_cases h : nrm a = 0
  · rw [← mulQ_nrm_r, h, mulQ_zero]
  · rw [fermatQ a h0 h, mulQ_comm, mulQ_one]
theorem one60 : mulQ 1152921504606846976 4 = 2 := rfl
theorem neg1 : subQ 0 1 = 2305843009213693950 := rfl
theorem two61 : powQ 2 61 = 1 := rfl
theorem pow_twice (a n : Int) (h : 0 ≤ n) : powQ a (n + n).toNat = mulQ (powQ a n.toNat) (powQ a n.toNat) := by
  rw [← powQ_add, Int.toNat_add h h]
theorem neq_of {a b : Int} (h : a = b) : (a != b) = false := by rw [h]; simp
theorem eql_of {a b : Int} (h : a = b) : (a == b) = true := by rw [h]; simp

end Go.Proofs.YtbchbmelofojkaaGreatDoor
