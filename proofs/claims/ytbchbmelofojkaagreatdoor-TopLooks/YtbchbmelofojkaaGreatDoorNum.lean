/-
  Plain arithmetic by the prime 2^61 - 1, with no program in it: FERMAT for that prime (by a generator, 37, and its order), and what sums, products, powers and EUCLID's steps come to by it.
-/
namespace Go.Proofs.YtbchbmelofojkaaGreatDoor.Num

def P : Nat := 2305843009213693951
theorem P_eq : P = 2305843009213693951 := rfl
theorem P_pos : 0 < P := by rw [P_eq]; omega

/-! ### powers by squares, for the kernel -/
def pm (a : Nat) : Nat → Nat → Nat
  | 0, _ => 1
  | f + 1, n => if n = 0 then 1 else if n % 2 = 1 then pm a f (n / 2) * pm a f (n / 2) % P * a % P else pm a f (n / 2) * pm a f (n / 2) % P

theorem mod_mul (a b : Nat) : a % P * (b % P) % P = a * b % P := (Nat.mul_mod a b P).symm
theorem mod_mul_l (a b : Nat) : a % P * b % P = a * b % P := by rw [Nat.mul_mod, Nat.mod_mod, ← Nat.mul_mod]
theorem mod_mul_r (a b : Nat) : a * (b % P) % P = a * b % P := by rw [Nat.mul_mod, Nat.mod_mod, ← Nat.mul_mod]

theorem one_mod : 1 % P = 1 := by rw [P_eq]

theorem pm_mod (a : Nat) : ∀ f n, n < 2 ^ f → pm a f n % P = a ^ n % P
  | 0, n, h => by
    have : n = 0 := by simpa using h
    subst this; rfl
  | f + 1, n, h => by
    unfold pm
    by_cases hn : n = 0
    · subst hn; rfl
    · have ih := pm_mod a f (n / 2) (by rw [Nat.pow_succ] at h; omega)
      have e : pm a f (n / 2) * pm a f (n / 2) % P = a ^ (n / 2 + n / 2) % P := by
        rw [Nat.mul_mod, ih, ← Nat.mul_mod, ← Nat.pow_add]
      rw [if_neg hn]
      by_cases h2 : n % 2 = 1
      · rw [if_pos h2, Nat.mod_mod, e, mod_mul_l, ← Nat.pow_succ]
        congr 2; omega
      · rw [if_neg h2, Nat.mod_mod, e]
        congr 2; omega

/-! ### the order of 37 -/
def qs : List Nat := [2, 3, 3, 5, 5, 7, 11, 13, 31, 41, 61, 151, 331, 1321]
theorem qs_prod : qs.foldr (· * ·) 1 = P - 1 := by decide +kernel
theorem qs_prime : (qs.all fun q => (List.range (q + 1)).all fun d => q % d != 0 || d == 1 || d == q) = true := by decide +kernel
theorem qs_gen : (qs.all fun q => pm 37 61 ((P - 1) / q) % P != 1) = true := by decide +kernel
theorem gen_one : pm 37 61 (P - 1) % P = 1 := by decide +kernel
theorem qs_small : (qs.all fun q => decide (2 ≤ q) && ((P - 1) % q == 0)) = true := by decide +kernel

theorem coprime_of {m q : Nat} (hq : q ∈ qs) (h : ¬ q ∣ m) : Nat.Coprime m q := by
  have h1 := List.all_eq_true.1 qs_prime q hq
  have h2 := List.all_eq_true.1 h1 (Nat.gcd m q) (by
    have := Nat.le_of_dvd (by have := List.all_eq_true.1 qs_small q hq; simp at this; omega) (Nat.gcd_dvd_right m q)
    simp; omega)
  have h3 : q % Nat.gcd m q = 0 := Nat.mod_eq_zero_of_dvd (Nat.gcd_dvd_right m q)
  simp [h3] at h2
  rcases h2 with h2 | h2
  · exact h2
  · exact absurd (h2 ▸ Nat.gcd_dvd_left m q) h

theorem dvd_prod : ∀ (l : List Nat) (m : Nat), (∀ q ∈ l, Nat.Coprime m q) → m ∣ l.foldr (· * ·) 1 → m = 1
  | [], m, _, h => by simpa using h
  | q :: l, m, hc, h => by
    refine dvd_prod l m (fun x hx => hc x (List.mem_cons_of_mem _ hx)) ?_
    exact Nat.Coprime.dvd_of_dvd_mul_left (hc q List.mem_cons_self) (by simpa using h)

theorem has_prime {m : Nat} (hm : m ∣ P - 1) (h1 : m ≠ 1) : ∃ q, q ∈ qs ∧ q ∣ m := by
  by_cases h : ∃ q, q ∈ qs ∧ q ∣ m
  · exact h
  · refine absurd (dvd_prod qs m (fun q hq => coprime_of hq fun hd => h ⟨q, hq, hd⟩) ?_) h1
    rw [qs_prod]; exact hm

theorem pow_dvd_one {g e m : Nat} (h : g ^ e % P = 1) (hd : e ∣ m) : g ^ m % P = 1 := by
  obtain ⟨k, rfl⟩ := hd
  rw [Nat.pow_mul, Nat.pow_mod, h, Nat.one_pow, one_mod]

theorem pow_gcd {g : Nat} (a b : Nat) : g ^ a % P = 1 → g ^ b % P = 1 → g ^ Nat.gcd a b % P = 1 := by
  induction a, b using Nat.gcd.induction with
  | H0 b => intro _ h; simpa using h
  | H1 a b ha ih =>
    intro h1 h2
    rw [Nat.gcd_rec]
    refine ih ?_ h1
    have e : g ^ b = g ^ (a * (b / a)) * g ^ (b % a) := by rw [← Nat.pow_add, Nat.div_add_mod]
    have e1 : g ^ (a * (b / a)) % P = 1 := pow_dvd_one h1 (Nat.dvd_mul_right _ _)
    rw [e, Nat.mul_mod, e1, Nat.one_mul, Nat.mod_mod] at h2
    exact h2

theorem gen_pow : 37 ^ (P - 1) % P = 1 := by
  rw [← pm_mod 37 61 (P - 1) (by decide +kernel)]; exact gen_one

theorem order {d : Nat} (h0 : 0 < d) (hd : d < P - 1) : 37 ^ d % P ≠ 1 := by
  intro h
  have hg := pow_gcd d (P - 1) h gen_pow
  have hle : Nat.gcd d (P - 1) ≤ d := Nat.le_of_dvd h0 (Nat.gcd_dvd_left _ _)
  obtain ⟨m, hm⟩ := Nat.gcd_dvd_right d (P - 1)
  have hm1 : m ≠ 1 := by intro e; subst e; omega
  obtain ⟨q, hq, t, ht⟩ := has_prime ⟨Nat.gcd d (P - 1), by rw [Nat.mul_comm]; exact hm⟩ hm1
  have hs := List.all_eq_true.1 qs_small q hq
  have hn := List.all_eq_true.1 qs_gen q hq
  simp at hs hn
  have e : (P - 1) / q = Nat.gcd d (P - 1) * t := by
    refine Nat.div_eq_of_eq_mul_right (by omega) ?_
    rw [ht] at hm
    rw [Nat.mul_left_comm]; exact hm
  rw [pm_mod 37 61 _ (by have := Nat.div_le_self (P - 1) q; rw [P_eq] at *; omega), e] at hn
  exact hn (pow_dvd_one hg (Nat.dvd_mul_right _ _))

/-! ### the powers of 37 are all that is not 0 -/
theorem onto : ∀ (n : Nat) (f : Nat → Nat), (∀ i, i < n → f i < n) → (∀ i j, i < n → j < n → f i = f j → i = j) → ∀ y, y < n → ∃ i, i < n ∧ f i = y
  | 0, _, _, _, y, hy => absurd hy (by omega)
  | n + 1, f, hr, hi, y, hy => by
    have key := onto n (fun i => if f i = n then f n else f i)
      (by
        intro i hin
        have h1 := hr i (by omega)
        have h2 := hr n (by omega)
        by_cases h : f i = n
        · have : f n ≠ n := fun e => by have := hi i n (by omega) (by omega) (by rw [h, e]); omega
          simp only [h, if_true]; omega
        · simp only [h, if_false]; omega)
      (by
        intro i j hin hjn e
        by_cases h : f i = n
        · by_cases h' : f j = n
          · exact hi i j (by omega) (by omega) (by rw [h, h'])
          · simp only [h, h', if_true, if_false] at e
            have := hi n j (by omega) (by omega) e; omega
        · by_cases h' : f j = n
          · simp only [h, h', if_true, if_false] at e
            have := hi i n (by omega) (by omega) e; omega
          · simp only [h, h', if_false] at e
            exact hi i j (by omega) (by omega) e)
    by_cases hyn : y = n
    · subst hyn
      by_cases hex : ∃ i, i < y + 1 ∧ f i = y
      · exact hex
      · have hno : ∀ i, i < y + 1 → f i ≠ y := fun i hlt e => hex ⟨i, hlt, e⟩
        have h2 := hr y (by omega)
        have h3 := hno y (by omega)
        obtain ⟨i, hin, e⟩ := key (f y) (by omega)
        have h4 := hno i (by omega)
        simp only [h4, if_false] at e
        have := hi i y (by omega) (by omega) e
        omega
    · obtain ⟨i, hin, e⟩ := key y (by omega)
      by_cases h : f i = n
      · simp only [h, if_true] at e
        exact ⟨n, by omega, e⟩
      · simp only [h, if_false] at e
        exact ⟨i, by omega, e⟩

theorem gen_inv {i : Nat} (h : i ≤ P - 1) : 37 ^ i % P * (37 ^ (P - 1 - i) % P) % P = 1 := by
  rw [mod_mul, ← Nat.pow_add, Nat.add_sub_cancel' h, gen_pow]

theorem gen_ne {i : Nat} (h : i ≤ P - 1) : 37 ^ i % P ≠ 0 := by
  intro e
  have := gen_inv h
  rw [e, Nat.zero_mul] at this
  simp at this

theorem gen_inj {i j : Nat} (hij : i < j) (hj : j < P - 1) : 37 ^ i % P ≠ 37 ^ j % P := by
  intro e
  have h := gen_inv (i := i) (by omega)
  rw [e, mod_mul, ← Nat.pow_add] at h
  have e2 : j + (P - 1 - i) = (P - 1) + (j - i) := by omega
  rw [e2, Nat.pow_add, Nat.mul_mod, gen_pow, Nat.one_mul, Nat.mod_mod] at h
  exact order (by omega) (by omega) h

theorem gen_all {a : Nat} (h0 : a ≠ 0) (h : a < P) : ∃ i, 37 ^ i % P = a := by
  obtain ⟨i, _, e⟩ := onto (P - 1) (fun i => 37 ^ i % P - 1)
    (fun i hi => by
      have := Nat.mod_lt (37 ^ i) P_pos
      have := gen_ne (i := i) (by omega)
      show 37 ^ i % P - 1 < P - 1
      omega)
    (fun i j hi hj e => by
      have e : 37 ^ i % P - 1 = 37 ^ j % P - 1 := e
      have h1 := gen_ne (i := i) (by omega)
      have h2 := gen_ne (i := j) (by omega)
      have e' : 37 ^ i % P = 37 ^ j % P := by omega
      rcases Nat.lt_trichotomy i j with h | h | h
      · exact absurd e' (gen_inj h hj)
      · exact h
      · exact absurd e'.symm (gen_inj h hi))
    (a - 1) (by omega)
  have e : 37 ^ i % P - 1 = a - 1 := e
  refine ⟨i, ?_⟩
  by_cases hz : 37 ^ i % P = 0
  · rw [hz] at e
    have ha : a = 1 := by omega
    exfalso
    have hg := gen_pow
    have hi := Nat.div_add_mod i (P - 1)
    have : 37 ^ i % P = 37 ^ (i % (P - 1)) % P := by
      rw [← hi, Nat.pow_add, Nat.mul_mod, pow_dvd_one hg (Nat.dvd_mul_right _ _), Nat.one_mul, Nat.mod_mod, hi]
    rw [this] at hz
    exact gen_ne (Nat.le_of_lt (Nat.mod_lt i (by rw [P_eq]; omega))) hz
  · omega

/-- FERMAT, for P. -/
theorem fermat {a : Nat} (h : a % P ≠ 0) : a ^ (P - 1) % P = 1 := by
  obtain ⟨i, e⟩ := gen_all h (Nat.mod_lt a P_pos)
  rw [Nat.pow_mod, ← e, ← Nat.pow_mod, ← Nat.pow_mul, Nat.mul_comm]
  exact pow_dvd_one gen_pow (Nat.dvd_mul_right _ _)

theorem coprime_P {a : Nat} (h : a % P ≠ 0) : Nat.gcd P a = 1 := by
  have hf := fermat h
  have hd : Nat.gcd P a ∣ a ^ (P - 1) % P := by
    refine (Nat.dvd_mod_iff (Nat.gcd_dvd_left P a)).2 ?_
    refine Nat.dvd_trans (Nat.gcd_dvd_right P a) ?_
    have : a ^ (P - 1) = a * a ^ (P - 2) := by
      rw [show P - 1 = (P - 2) + 1 from rfl, Nat.pow_succ, Nat.mul_comm]
    rw [this]
    exact Nat.dvd_mul_right _ _
  rw [hf] at hd
  exact Nat.dvd_one.1 hd

end Go.Proofs.YtbchbmelofojkaaGreatDoor.Num
