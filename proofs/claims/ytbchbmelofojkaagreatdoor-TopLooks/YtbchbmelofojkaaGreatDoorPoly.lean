/-
  Plain arithmetic: the field of 2^61 - 1 elements as Fin, polynomials over it by their coefficients, that one of few coefficients is told by its values at 0, 1, 2 and so on, LAGRANGE's sum, NEWTON's differences; no program in it.
-/
import Derived.Test.YtbchbmelofojkaaGreatDoorOps
namespace Go.Proofs.YtbchbmelofojkaaGreatDoor
open Go.RowKit
set_option linter.unusedVariables false

abbrev K : Type := Fin 2305843009213693951

def kk (a : Int) : K := ⟨(a % 2305843009213693951).toNat, by omega⟩
def kn (n : Nat) : K := kk n

theorem kk_add (a b : Int) : kk (a + b) = kk a + kk b := by
  apply Fin.ext; simp only [kk, Fin.val_add]; omega
theorem kk_sub (a b : Int) : kk (a - b) = kk a - kk b := by
  apply Fin.ext; simp only [kk, Fin.sub_def]; omega
theorem kk_mul (a b : Int) : kk (a * b) = kk a * kk b := by
  apply Fin.ext; simp only [kk, Fin.val_mul]
  have e : (((a * b) % 2305843009213693951).toNat : Int) = ((((a % 2305843009213693951).toNat * (b % 2305843009213693951).toNat % 2305843009213693951 : Nat)) : Int) := by
    rw [Int.natCast_emod, Int.natCast_mul, Int.toNat_of_nonneg (by omega), Int.toNat_of_nonneg (by omega), Int.toNat_of_nonneg (by omega)]
    exact Int.mul_emod a b 2305843009213693951
  exact Int.ofNat.inj e
theorem kk_zero : kk 0 = 0 := rfl
theorem kk_one : kk 1 = 1 := rfl
theorem kk_rest (a : Int) : kk (a % Q) = kk a := by
  apply Fin.ext; simp only [kk]; rw [Q_eq]; omega
theorem kk_nrm (a : Int) : kk (nrm a) = kk a := kk_rest a
theorem kk_addQ (a b : Int) : kk (addQ a b) = kk a + kk b := by unfold addQ; rw [kk_rest, kk_add]
theorem kk_subQ (a b : Int) : kk (subQ a b) = kk a - kk b := by unfold subQ; rw [kk_rest, kk_sub]
theorem kk_mulQ (a b : Int) : kk (mulQ a b) = kk a * kk b := by unfold mulQ; rw [kk_rest, kk_mul]
theorem kk_inj {a b : Int} (h0 : 0 ≤ a) (h1 : a ≤ 2305843009213693950) (g0 : 0 ≤ b) (g1 : b ≤ 2305843009213693950) (h : kk a = kk b) : a = b := by
  have := congrArg Fin.val h
  simp only [kk] at this
  omega
theorem kk_eq_nrm {a b : Int} (h0 : 0 ≤ a) (h1 : a ≤ 2305843009213693950) (h : kk a = kk b) : a = nrm b :=
  kk_inj h0 h1 (nrm_rng b).1 (nrm_rng b).2 (by rw [kk_nrm]; exact h)
theorem kk_back (a : K) : kk (a.val : Int) = a := by
  apply Fin.ext; simp only [kk]; have := a.isLt; omega
theorem nrm_ne {a : Int} (h : kk a ≠ 0) : nrm a ≠ 0 := fun e => h (by rw [← kk_nrm, e]; rfl)
theorem kk_inv (a : Int) (h0 : 0 ≤ a) (h : kk a ≠ 0) : kk a * kk (invQ a) = 1 := by
  rw [← kk_mulQ, inv_mul a h0 (nrm_ne h)]; rfl
theorem has_inv (a : K) (h : a ≠ 0) : ∃ b, a * b = 1 :=
  ⟨kk (invQ a.val), by have := kk_inv (a.val : Int) (by omega) (by rw [kk_back]; exact h); rw [kk_back] at this; exact this⟩
theorem no_zero (a b : K) (h : a * b = 0) (ha : a ≠ 0) : b = 0 := by
  obtain ⟨c, hc⟩ := has_inv a ha
  grind
theorem one_ne : (1 : K) ≠ 0 := by decide
theorem kn_zero : kn 0 = 0 := rfl
theorem kn_succ (n : Nat) : kn (n + 1) = kn n + 1 := by
  unfold kn; rw [Int.natCast_add, kk_add]; rfl
theorem kn_inj {i j : Nat} (hi : i < 2305843009213693951) (hj : j < 2305843009213693951) (h : kn i = kn j) : i = j := by
  have := congrArg Fin.val h
  simp only [kn, kk] at this
  omega
theorem kn_ne {n : Nat} (h : n + 1 < 2305843009213693951) : kn (n + 1) ≠ 0 := fun e => by
  have := kn_inj (i := n + 1) (j := 0) h (by omega) e
  omega

/-! ### polynomials by their coefficients -/
def ev : List K → K → K
  | [], _ => 0
  | a :: c, x => a + x * ev c x
def quo (r : K) : List K → List K
  | [] => []
  | [_] => []
  | _ :: b :: c => ev (b :: c) r :: quo r (b :: c)
theorem quo_len (r : K) : ∀ c : List K, (quo r c).length = c.length - 1
  | [] => rfl
  | [_] => rfl
  | _ :: b :: c => by
    have := quo_len r (b :: c)
    simp only [quo, List.length_cons] at *
    omega
theorem ev_quo (r x : K) : ∀ c : List K, ev c x = (x - r) * ev (quo r c) x + ev c r
  | [] => by simp only [ev, quo]; grind
  | [a] => by simp only [ev, quo]; grind
  | a :: b :: c => by
    have h := ev_quo r x (b :: c)
    have e : ev (quo r (a :: b :: c)) x = ev (b :: c) r + x * ev (quo r (b :: c)) x := rfl
    have e1 : ev (a :: b :: c) x = a + x * ev (b :: c) x := rfl
    have e2 : ev (a :: b :: c) r = a + r * ev (b :: c) r := rfl
    rw [e, e1, e2]
    generalize ev (b :: c) x = u at *
    generalize ev (b :: c) r = v at *
    generalize ev (quo r (b :: c)) x = t at *
    grind
theorem roots (f : Nat → K) : ∀ (n : Nat) (c : List K), c.length ≤ n → (∀ i j, i < n → j < n → f i = f j → i = j) → (∀ i, i < n → ev c (f i) = 0) → ∀ x, ev c x = 0
  | 0, c, hl, _, _, x => by
    have : c = [] := List.eq_nil_of_length_eq_zero (by omega)
    rw [this]; rfl
  | n + 1, c, hl, hf, hr, x => by
    have hq : ∀ y, ev (quo (f n) c) y = 0 := by
      refine roots f n _ (by rw [quo_len]; omega) (fun i j hi hj => hf i j (by omega) (by omega)) fun i hi => ?_
      have h1 := ev_quo (f n) (f i) c
      rw [hr i (by omega), hr n (by omega)] at h1
      refine no_zero (f i - f n) _ (by grind) fun e => ?_
      have := hf i n (by omega) (by omega) (by grind)
      omega
    have h2 := ev_quo (f n) x c
    rw [hq x, hr n (by omega)] at h2
    rw [h2]; grind

/-- A function that n coefficients tell. -/
def IsP (n : Nat) (f : K → K) : Prop := ∃ c : List K, c.length ≤ n ∧ ∀ x, f x = ev c x
theorem IsP.mono {m n : Nat} {f : K → K} (h : IsP m f) (hm : m ≤ n) : IsP n f := by
  obtain ⟨c, hc, he⟩ := h
  exact ⟨c, by omega, he⟩
theorem IsP.congr {n : Nat} {f g : K → K} (h : IsP n f) (hfg : ∀ x, g x = f x) : IsP n g := by
  obtain ⟨c, hc, he⟩ := h
  exact ⟨c, hc, fun x => by rw [hfg, he]⟩
theorem IsP.zero (n : Nat) : IsP n (fun _ => 0) := ⟨[], by simp, fun _ => rfl⟩
theorem IsP.const (a : K) : IsP 1 (fun _ => a) := ⟨[a], by simp, fun x => by simp only [ev]; grind⟩
def addL : List K → List K → List K
  | [], d => d
  | c, [] => c
  | a :: c, b :: d => (a + b) :: addL c d
theorem ev_addL (x : K) : ∀ c d : List K, ev (addL c d) x = ev c x + ev d x
  | [], d => by simp only [addL, ev]; grind
  | a :: c, [] => by simp only [addL, ev]; grind
  | a :: c, b :: d => by simp only [addL, ev]; rw [ev_addL x c d]; grind
theorem addL_len : ∀ (c d : List K) (n : Nat), c.length ≤ n → d.length ≤ n → (addL c d).length ≤ n
  | [], d, n, _, h => by simpa only [addL] using h
  | a :: c, [], n, h, _ => by simpa only [addL] using h
  | a :: c, b :: d, n, h, g => by
    simp only [List.length_cons] at h g
    have := addL_len c d (n - 1) (by omega) (by omega)
    simp only [addL, List.length_cons]; omega
theorem IsP.add {n : Nat} {f g : K → K} (hf : IsP n f) (hg : IsP n g) : IsP n (fun x => f x + g x) := by
  obtain ⟨c, hc, ec⟩ := hf
  obtain ⟨d, hd, ed⟩ := hg
  exact ⟨addL c d, addL_len c d n hc hd, fun x => by show f x + g x = _; rw [ev_addL, ec, ed]⟩
theorem ev_scale (a x : K) : ∀ c : List K, ev (c.map (a * ·)) x = a * ev c x
  | [] => by simp only [List.map, ev]; grind
  | b :: c => by simp only [List.map, ev]; rw [ev_scale a x c]; grind
theorem IsP.scale {n : Nat} {f : K → K} (a : K) (hf : IsP n f) : IsP n (fun x => a * f x) := by
  obtain ⟨c, hc, ec⟩ := hf
  exact ⟨c.map (a * ·), by simpa using hc, fun x => by show a * f x = _; rw [ev_scale, ec]⟩
theorem IsP.mulx {n : Nat} {f : K → K} (hf : IsP n f) : IsP (n + 1) (fun x => x * f x) := by
  obtain ⟨c, hc, ec⟩ := hf
  exact ⟨0 :: c, by simpa using hc, fun x => by simp only [ev]; rw [ec]; grind⟩
/-- Times a straight line. -/
theorem IsP.line {n : Nat} {f : K → K} (a b : K) (hf : IsP n f) : IsP (n + 1) (fun x => (a + b * x) * f x) :=
  (((hf.scale a).mono (Nat.le_succ n)).add ((hf.scale b).mulx)).congr fun x => by grind
theorem IsP.same {n : Nat} {f g : K → K} (hn : n ≤ 2305843009213693951) (hf : IsP n f) (hg : IsP n g) (h : ∀ i, i < n → f (kn i) = g (kn i)) (x : K) : f x = g x := by
  obtain ⟨c, hc, ec⟩ := hf.add (hg.scale (-1))
  have := roots kn n c hc (fun i j hi hj e => kn_inj (by omega) (by omega) e) (fun i hi => by rw [← ec]; show f (kn i) + -1 * g (kn i) = 0; rw [h i hi]; grind) x
  rw [← ec] at this
  have h2 : f x + -1 * g x = 0 := this
  grind

/-! ### LAGRANGE's sum -/
def upQ (x : Int) (i : Nat) (u : Int) : Nat → Int
  | 0 => u
  | k + 1 => if k = i then upQ x i u k else mulQ (upQ x i u k) (subQ x k)
def undQ (i : Nat) : Nat → Int
  | 0 => 1
  | k + 1 => if k = i then undQ i k else mulQ (undQ i k) (subQ i k)
def lagQ (v : Nat → Int) (n : Nat) (x : Int) : Nat → Int
  | 0 => 0
  | i + 1 => addQ (lagQ v n x i) (mulQ (upQ x i (v i) n) (invQ (undQ i n)))
/-- What n values at 0, 1, 2 and so on tell at x. -/
def atQ (v : Nat → Int) (n : Nat) (x : Int) : Int := lagQ v n x n

theorem upQ_rng (x : Int) (i : Nat) (u : Int) (h0 : 0 ≤ u) (h1 : u ≤ 18446744073709551615) (k : Nat) : 0 ≤ upQ x i u k ∧ upQ x i u k ≤ 18446744073709551615 := by
  induction k with
  | zero => exact ⟨h0, h1⟩
  | succ k ih =>
    unfold upQ
    split
    · exact ih
    · have := mulQ_rng (upQ x i u k) (subQ x k)
      exact ⟨this.1, by omega⟩
theorem undQ_rng (i k : Nat) : 0 ≤ undQ i k ∧ undQ i k ≤ 2305843009213693950 := by
  induction k with
  | zero => unfold undQ; omega
  | succ k ih =>
    unfold undQ
    split
    · exact ih
    · exact mulQ_rng _ _
theorem lagQ_rng (v : Nat → Int) (n : Nat) (x : Int) (i : Nat) : 0 ≤ lagQ v n x i ∧ lagQ v n x i ≤ 2305843009213693950 := by
  cases i with
  | zero => unfold lagQ; omega
  | succ i => exact addQ_rng _ _
theorem atQ_rng (v : Nat → Int) (n : Nat) (x : Int) : 0 ≤ atQ v n x ∧ atQ v n x ≤ 2305843009213693950 := lagQ_rng v n x n

def prodK (x : K) (i : Nat) : Nat → K
  | 0 => 1
  | k + 1 => if k = i then prodK x i k else prodK x i k * (x - kn k)
theorem kk_upQ (x : Int) (i : Nat) (u : Int) (n : Nat) : kk (upQ x i u n) = kk u * prodK (kk x) i n := by
  induction n with
  | zero => unfold upQ prodK; grind
  | succ n ih =>
    unfold upQ prodK
    split
    · exact ih
    · rw [kk_mulQ, kk_subQ, ih]; unfold kn; grind
theorem kk_undQ (i n : Nat) : kk (undQ i n) = prodK (kn i) i n := by
  induction n with
  | zero => rfl
  | succ n ih =>
    unfold undQ prodK
    split
    · exact ih
    · rw [kk_mulQ, kk_subQ, ih]; rfl
theorem prodK_ne (i n : Nat) (hi : i < 2305843009213693951) (hn : n ≤ 2305843009213693951) : prodK (kn i) i n ≠ 0 := by
  induction n with
  | zero => exact one_ne
  | succ n ih =>
    unfold prodK
    split
    · exact ih (by omega)
    · intro e
      have h := no_zero _ _ e (ih (by omega))
      have := kn_inj (i := i) (j := n) hi (by omega) (by grind)
      omega
theorem prodK_zero (i j n : Nat) (hj : j < n) (hne : j ≠ i) : prodK (kn j) i n = 0 := by
  induction n with
  | zero => omega
  | succ n ih =>
    unfold prodK
    split
    · exact ih (by omega)
    · by_cases h : j = n
      · subst h; grind
      · rw [ih (by omega)]; grind
theorem prodK_isP (i m : Nat) : IsP (if i < m then m else m + 1) (fun x => prodK x i m) := by
  induction m with
  | zero => simpa [prodK] using IsP.const 1
  | succ m ih =>
    by_cases h : m = i
    · subst h
      rw [if_neg (by omega)] at ih
      rw [if_pos (by omega)]
      exact ih.congr fun x => by rw [prodK, if_pos rfl]
    · have h2 : (if i < m + 1 then m + 1 else m + 1 + 1) = (if i < m then m else m + 1) + 1 := by
        split <;> split <;> omega
      rw [h2]
      exact (ih.line (0 - kn m) 1).congr fun x => by rw [prodK, if_neg h]; grind
def lagK (v : Nat → K) (n : Nat) (x : K) : Nat → K
  | 0 => 0
  | i + 1 => lagK v n x i + v i * prodK x i n * kk (invQ (undQ i n))
theorem kk_lagQ (v : Nat → Int) (n : Nat) (x : Int) (i : Nat) : kk (lagQ v n x i) = lagK (fun j => kk (v j)) n (kk x) i := by
  induction i with
  | zero => rfl
  | succ i ih => unfold lagQ lagK; rw [kk_addQ, kk_mulQ, ih, kk_upQ]
theorem lagK_isP (v : Nat → K) (n i : Nat) (hi : i ≤ n) : IsP n (fun x => lagK v n x i) := by
  induction i with
  | zero => exact IsP.zero n
  | succ i ih =>
    have hp := prodK_isP i n
    rw [if_pos (by omega)] at hp
    exact ((ih (by omega)).add (hp.scale (v i * kk (invQ (undQ i n))))).congr fun x => by rw [lagK]; grind
theorem lagK_at (v : Nat → K) (n j i : Nat) (hj : j < n) (hi : i ≤ n) (hn : n ≤ 2305843009213693951) : lagK v n (kn j) i = if j < i then v j else 0 := by
  induction i with
  | zero => rfl
  | succ i ih =>
    rw [lagK, ih (by omega)]
    by_cases h : j = i
    · subst h
      rw [if_neg (by omega), if_pos (by omega)]
      have hz := prodK_ne j n (by omega) hn
      have := kk_inv (undQ j n) (undQ_rng j n).1 (by rw [kk_undQ]; exact hz)
      rw [kk_undQ] at this
      grind
    · rw [prodK_zero i j n hj h]
      by_cases h2 : j < i
      · rw [if_pos h2, if_pos (by omega)]; grind
      · rw [if_neg h2, if_neg (by omega)]; grind
/-- The values are told by a polynomial of as many coefficients; there it is. -/
theorem at_poly (v : Nat → Int) (n : Nat) (hn : n ≤ 2305843009213693951) : ∃ f, IsP n f ∧ (∀ i, i < n → f (kn i) = kk (v i)) ∧ ∀ x, kk (atQ v n x) = f (kk x) :=
  ⟨fun x => lagK (fun j => kk (v j)) n x n, lagK_isP _ n n (Nat.le_refl n), fun i hi => by show lagK (fun j => kk (v j)) n (kn i) n = _; rw [lagK_at _ n i n hi (Nat.le_refl n) hn, if_pos hi], fun x => kk_lagQ v n x n⟩
theorem at_only (v : Nat → Int) (n : Nat) (hn : n ≤ 2305843009213693951) {f : K → K} (hf : IsP n f) (h : ∀ i, i < n → f (kn i) = kk (v i)) (x : Int) : kk (atQ v n x) = f (kk x) := by
  obtain ⟨g, hg, eg, eq⟩ := at_poly v n hn
  rw [eq x]
  exact IsP.same hn hg hf (fun i hi => by rw [eg i hi, h i hi]) (kk x)

/-! ### NEWTON's differences -/
def ddQ (v : Nat → Int) : Nat → Nat → Int
  | 0, j => nrm (v j)
  | k + 1, j => mulQ (subQ (ddQ v k j) (ddQ v k (j - 1))) (invQ ((k + 1 : Nat) : Int))
theorem ddQ_rng (v : Nat → Int) (k j : Nat) : 0 ≤ ddQ v k j ∧ ddQ v k j ≤ 2305843009213693950 := by
  cases k with
  | zero => exact nrm_rng _
  | succ k => exact mulQ_rng _ _
theorem dd_step (v : Nat → Int) (k i : Nat) (hk : k + 1 < 2305843009213693951) : kk (ddQ v k (i + 1)) = kk (ddQ v k i) + kn (k + 1) * kk (ddQ v (k + 1) (i + 1)) := by
  rw [ddQ, kk_mulQ, kk_subQ, Nat.add_sub_cancel]
  have := kk_inv ((k + 1 : Nat) : Int) (by omega) (kn_ne hk)
  unfold kn
  grind
def fal (x : K) : Nat → K
  | 0 => 1
  | k + 1 => fal x k * (x - kn k)
theorem fal_up (x : K) (k : Nat) : fal (x + 1) (k + 1) = fal x (k + 1) + kn (k + 1) * fal x k := by
  induction k with
  | zero => simp only [fal, kn_zero, kn_succ]; grind
  | succ k ih =>
    rw [fal, ih]
    simp only [fal, kn_succ]; grind
theorem fal_zero (j k : Nat) (h : j < k) : fal (kn j) k = 0 := by
  induction k with
  | zero => omega
  | succ k ih =>
    rw [fal]
    by_cases e : j = k
    · subst e; grind
    · rw [ih (by omega)]; grind
def newt (v : Nat → Int) (s : Nat) (x : K) : Nat → K
  | 0 => 0
  | k + 1 => newt v s x k + kk (ddQ v k (s + k)) * fal x k
theorem newt_up (v : Nat → Int) (s : Nat) (x : K) (m : Nat) (hm : m < 2305843009213693951) : newt v s (x + 1) (m + 1) = newt v (s + 1) x m + kk (ddQ v m (s + m)) * fal x m := by
  induction m with
  | zero => simp only [newt, fal, Nat.add_zero]
  | succ m ih =>
    rw [newt, ih (by omega), fal_up]
    have h := dd_step v m (s + m) (by omega)
    have e : newt v (s + 1) x (m + 1) = newt v (s + 1) x m + kk (ddQ v m (s + m + 1)) * fal x m := by
      rw [newt, Nat.add_right_comm]
    rw [e, h, Nat.add_assoc]
    grind
theorem newt_first (v : Nat → Int) (s m : Nat) : newt v s (kn 0) (m + 1) = kk (v s) := by
  induction m with
  | zero => simp only [newt, fal, ddQ, Nat.add_zero, kk_nrm]; grind
  | succ m ih => rw [newt, ih, fal_zero 0 (m + 1) (by omega)]; grind
theorem newt_at (v : Nat → Int) (j : Nat) : ∀ (s m : Nat), j < m → m ≤ 2305843009213693951 → newt v s (kn j) m = kk (v (s + j)) := by
  induction j with
  | zero =>
    intro s m h hm
    obtain ⟨m, rfl⟩ : ∃ t, m = t + 1 := ⟨m - 1, by omega⟩
    exact newt_first v s m
  | succ j ih =>
    intro s m h hm
    obtain ⟨m, rfl⟩ : ∃ t, m = t + 1 := ⟨m - 1, by omega⟩
    rw [kn_succ, newt_up v s (kn j) m (by omega), ih (s + 1) m (by omega) (by omega), fal_zero j m (by omega), Nat.add_right_comm, Nat.add_assoc]
    grind
/-- As it is worked out: from the k-th difference on. -/
def nest (v : Nat → Int) (x : K) : Nat → Nat → K
  | _, 0 => 0
  | k, m + 1 => kk (ddQ v k k) + (x - kn k) * nest v x (k + 1) m
theorem newt_nest (v : Nat → Int) (x : K) (m : Nat) : ∀ k, newt v 0 x (k + m) = newt v 0 x k + fal x k * nest v x k m := by
  induction m with
  | zero => intro k; simp only [nest, Nat.add_zero]; grind
  | succ m ih =>
    intro k
    have h := ih (k + 1)
    rw [show k + 1 + m = k + (m + 1) from by omega] at h
    rw [h]
    simp only [nest, newt, fal, Nat.zero_add]; grind

/-- m coefficients from place k on. -/
def tev (f : Nat → K) (x : K) : Nat → Nat → K
  | _, 0 => 0
  | k, m + 1 => f k + x * tev f x (k + 1) m
theorem tev_isP (f : Nat → K) (m : Nat) : ∀ k, IsP m (fun x => tev f x k m) := by
  induction m with
  | zero => intro k; exact IsP.zero 0
  | succ m ih => intro k; exact (((IsP.const (f k)).mono (by omega)).add (ih (k + 1)).mulx).congr fun x => rfl
theorem tev_congr {f g : Nat → K} {x : K} (m : Nat) : ∀ k, (∀ j, k ≤ j → j < k + m → f j = g j) → tev f x k m = tev g x k m := by
  induction m with
  | zero => intro k _; rfl
  | succ m ih =>
    intro k h
    rw [tev, tev, h k (by omega) (by omega), ih (k + 1) (fun j hj hj2 => h j (by omega) (by omega))]
/-- A difference worked out: the coefficients from k on of n, i.e. what lies there and (x - at) times what lies behind it. -/
def stepF (a : Int) (k n : Nat) (f : Nat → Int) : Nat → Int := fun j => if k ≤ j ∧ j + 1 < n then subQ (f j) (mulQ a (f (j + 1))) else f j
theorem stepF_tev (a : Int) (k0 n : Nat) (f : Nat → Int) (x : K) (m : Nat) : ∀ k, k0 ≤ k → k + m + 1 = n → tev (fun j => kk (stepF a k0 n f j)) x k (m + 1) = kk (f k) + (x - kk a) * tev (fun j => kk (f j)) x (k + 1) m := by
  induction m with
  | zero =>
    intro k hk hn
    simp only [tev, stepF]
    rw [if_neg (by omega)]; grind
  | succ m ih =>
    intro k hk hn
    have h := ih (k + 1) (by omega) (by omega)
    rw [tev, h]
    simp only [stepF]
    rw [if_pos (by omega), kk_subQ, kk_mulQ, tev]
    grind
/-- The coefficients when m differences are worked out, from the last but one on. -/
def cfM (v : Nat → Int) (n : Nat) : Nat → Nat → Int
  | 0 => fun j => ddQ v j j
  | m + 1 => stepF ((n - 2 - m : Nat) : Int) (n - 2 - m) n (cfM v n m)
def cfQ (v : Nat → Int) (n : Nat) : Nat → Int := cfM v n (n - 1)
theorem cfM_rng (v : Nat → Int) (n m j : Nat) : 0 ≤ cfM v n m j ∧ cfM v n m j ≤ 2305843009213693950 := by
  induction m generalizing j with
  | zero => exact ddQ_rng v j j
  | succ m ih =>
    unfold cfM stepF
    split
    · exact subQ_rng _ _
    · exact ih j
theorem cfQ_rng (v : Nat → Int) (n j : Nat) : 0 ≤ cfQ v n j ∧ cfQ v n j ≤ 2305843009213693950 := cfM_rng v n _ j
theorem cfM_old (v : Nat → Int) (n m j : Nat) (hm : m + 1 ≤ n) (h : j + m + 1 < n) : cfM v n m j = ddQ v j j := by
  induction m with
  | zero => rfl
  | succ m ih =>
    unfold cfM stepF
    rw [if_neg (by omega)]
    exact ih (by omega) (by omega)
theorem cfM_tev (v : Nat → Int) (n : Nat) (x : K) (m : Nat) (hm : m + 1 ≤ n) : tev (fun j => kk (cfM v n m j)) x (n - 1 - m) (m + 1) = nest v x (n - 1 - m) (m + 1) := by
  induction m with
  | zero => simp only [tev, nest, cfM]; grind
  | succ m ih =>
    have h := stepF_tev ((n - 2 - m : Nat) : Int) (n - 2 - m) n (cfM v n m) x (m + 1) (n - 2 - m) (by omega) (by omega)
    have e : n - 1 - (m + 1) = n - 2 - m := by omega
    rw [e]
    show tev (fun j => kk (stepF _ _ n (cfM v n m) j)) x (n - 2 - m) (m + 1 + 1) = _
    rw [h, cfM_old v n m (n - 2 - m) (by omega) (by omega)]
    have e2 : n - 2 - m + 1 = n - 1 - m := by omega
    have e3 : nest v x (n - 2 - m) (m + 1 + 1) = kk (ddQ v (n - 2 - m) (n - 2 - m)) + (x - kn (n - 2 - m)) * nest v x (n - 2 - m + 1) (m + 1) := rfl
    rw [e3, e2, ih (by omega)]
    rfl
theorem cfQ_tev (v : Nat → Int) (n : Nat) (x : K) (hn : 1 ≤ n) : tev (fun j => kk (cfQ v n j)) x 0 n = newt v 0 x n := by
  have h := cfM_tev v n x (n - 1) (by omega)
  have h2 := newt_nest v x n 0
  have e : n - 1 - (n - 1) = 0 := by omega
  have e2 : n - 1 + 1 = n := by omega
  rw [e, e2] at h
  rw [Nat.zero_add] at h2
  unfold cfQ
  rw [h, h2]
  simp only [newt, fal]; grind
/-- The coefficients have the values. -/
theorem cfQ_at (v : Nat → Int) (n j : Nat) (hj : j < n) (hn : n ≤ 2305843009213693951) : tev (fun j => kk (cfQ v n j)) (kn j) 0 n = kk (v j) := by
  rw [cfQ_tev v n (kn j) (by omega), newt_at v j 0 n hj hn, Nat.zero_add]
theorem cfQ_poly (v : Nat → Int) (n : Nat) (hn : n ≤ 2305843009213693951) (x : Int) : kk (atQ v n x) = tev (fun j => kk (cfQ v n j)) (kk x) 0 n :=
  at_only v n hn (tev_isP _ n 0) (fun i hi => cfQ_at v n i hi hn) x

/-! ### HORNER's rule; the sum of powers -/
def horQ (f : Nat → Int) (x : Int) : Nat → Nat → Int
  | _, 0 => 0
  | k, m + 1 => addQ (mulQ (horQ f x (k + 1) m) x) (f k)
theorem horQ_rng (f : Nat → Int) (x : Int) (m : Nat) : ∀ k, 0 ≤ horQ f x k m ∧ horQ f x k m ≤ 2305843009213693950 := by
  cases m with
  | zero => intro k; unfold horQ; omega
  | succ m => intro k; exact addQ_rng _ _
theorem kk_horQ (f : Nat → Int) (x : Int) (m : Nat) : ∀ k, kk (horQ f x k m) = tev (fun j => kk (f j)) (kk x) k m := by
  induction m with
  | zero => intro k; rfl
  | succ m ih => intro k; rw [horQ, tev, kk_addQ, kk_mulQ, ih (k + 1)]; grind
theorem hor_at (v : Nat → Int) (n : Nat) (hn : n ≤ 2305843009213693951) (x : Int) : horQ (cfQ v n) x 0 n = atQ v n x :=
  kk_inj (horQ_rng _ _ n 0).1 (horQ_rng _ _ n 0).2 (atQ_rng v n x).1 (atQ_rng v n x).2 (by rw [kk_horQ, cfQ_poly v n hn x])
def pwQ (x : Int) : Nat → Int
  | 0 => 1
  | i + 1 => mulQ (pwQ x i) x
def sumQ (f : Nat → Int) (x : Int) : Nat → Int
  | 0 => 0
  | i + 1 => addQ (sumQ f x i) (mulQ (f i) (pwQ x i))
theorem pwQ_rng (x : Int) (i : Nat) : 0 ≤ pwQ x i ∧ pwQ x i ≤ 2305843009213693950 := by
  cases i with
  | zero => unfold pwQ; omega
  | succ i => exact mulQ_rng _ _
theorem sumQ_rng (f : Nat → Int) (x : Int) (i : Nat) : 0 ≤ sumQ f x i ∧ sumQ f x i ≤ 2305843009213693950 := by
  cases i with
  | zero => unfold sumQ; omega
  | succ i => exact addQ_rng _ _
theorem sumQ_tev (f : Nat → Int) (x : Int) (m : Nat) : ∀ k, kk (sumQ f x (k + m)) = kk (sumQ f x k) + kk (pwQ x k) * tev (fun j => kk (f j)) (kk x) k m := by
  induction m with
  | zero => intro k; simp only [tev, Nat.add_zero]; grind
  | succ m ih =>
    intro k
    have h := ih (k + 1)
    rw [show k + 1 + m = k + (m + 1) from by omega] at h
    rw [h, sumQ, pwQ, tev, kk_addQ, kk_mulQ, kk_mulQ]; grind
theorem sum_at (v : Nat → Int) (n j : Nat) (hj : j < n) (hn : n ≤ 2305843009213693951) : sumQ (cfQ v n) (j : Int) n = nrm (v j) := by
  refine kk_eq_nrm (sumQ_rng _ _ n).1 (sumQ_rng _ _ n).2 ?_
  have h := sumQ_tev (cfQ v n) (j : Int) n 0
  rw [Nat.zero_add] at h
  have e : tev (fun j => kk (cfQ v n j)) (kk (j : Int)) 0 n = kk (v j) := cfQ_at v n j hj hn
  rw [h, e]
  simp only [sumQ, pwQ, kk_zero, kk_one]; grind

end Go.Proofs.YtbchbmelofojkaaGreatDoor
