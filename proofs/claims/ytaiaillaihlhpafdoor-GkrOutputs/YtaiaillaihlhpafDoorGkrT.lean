/-
  Plain: tables over x and y: how a layer is wired, and the values below, as tables of 2k variables; that their sums of products are what a layer's rounds tell; no program in it.
-/
import Derived.Test.YtaiaillaihlhpafDoorLayers
namespace Go.Proofs.YtaiaillaihlhpafDoor
set_option linter.unusedVariables false

/-- A point's weight at a pair of places is the product of two weights. -/
theorem eqK_pair (g : Nat → K) (k n : Nat) : ∀ p, eqK g (k + n) p = eqK g k (p / 2 ^ n) * eqK (fun j => g (k + j)) n (p % 2 ^ n) := by
  induction n with
  | zero =>
    intro p
    rw [Nat.add_zero, Nat.pow_zero, Nat.div_one, eqK]
    grind
  | succ n ih =>
    intro p
    rw [← Nat.add_assoc, eqK, ih (p / 2), eqK, Nat.div_div_eq_div_mul, Nat.pow_succ, Nat.mul_comm (2 ^ n) 2]
    have e1 : p % (2 * 2 ^ n) / 2 = p / 2 % 2 ^ n := Nat.mod_mul_right_div_self p 2 (2 ^ n)
    have e2 : p % (2 * 2 ^ n) % 2 = p % 2 := Nat.mod_mul_right_mod p 2 (2 ^ n)
    rw [e1, e2]
    grind
/-- A sum over all pairs of places. -/
theorem sK_pair (h : Nat → Nat → K) (M N : Nat) (hN : 0 < N) : sK (fun p => h (p / N) (p % N)) (M * N) = sK (fun a => sK (fun b => h a b) N) M := by
  induction M with
  | zero => rw [Nat.zero_mul]; rfl
  | succ M ih =>
    rw [Nat.succ_mul, sK_split, ih]
    show _ = sK (fun a => sK (fun b => h a b) N) M + sK (fun b => h M b) N
    congr 1
    refine sK_congr N fun b hb => ?_
    have e1 : (M * N + b) / N = M := by rw [Nat.mul_comm, Nat.mul_add_div hN, Nat.div_eq_of_lt hb, Nat.add_zero]
    have e2 : (M * N + b) % N = b := by rw [Nat.mul_comm, Nat.mul_add_mod, Nat.mod_eq_of_lt hb]
    rw [e1, e2]
theorem two_pow_pair (k : Nat) : 2 ^ (k + k) = 2 ^ k * 2 ^ k := Nat.pow_add 2 k k
theorem evS_pair (f : Nat → Nat → K) (g : Nat → K) (k : Nat) : evS (fun p => f (p / 2 ^ k) (p % 2 ^ k)) g (k + k) = sK (fun a => eqK g k a * sK (fun b => f a b * eqK (fun j => g (k + j)) k b) (2 ^ k)) (2 ^ k) := by
  unfold evS
  have e : sK (fun p => f (p / 2 ^ k) (p % 2 ^ k) * eqK g (k + k) p) (2 ^ k * 2 ^ k) = sK (fun p => (fun a b => f a b * (eqK g k a * eqK (fun j => g (k + j)) k b)) (p / 2 ^ k) (p % 2 ^ k)) (2 ^ k * 2 ^ k) := sK_congr _ fun p _ => by
    show f (p / 2 ^ k) (p % 2 ^ k) * eqK g (k + k) p = f (p / 2 ^ k) (p % 2 ^ k) * (eqK g k (p / 2 ^ k) * eqK (fun j => g (k + j)) k (p % 2 ^ k))
    rw [eqK_pair g k k p]
  rw [two_pow_pair, e, sK_pair (fun a b => f a b * (eqK g k a * eqK (fun j => g (k + j)) k b)) _ _ (Nat.two_pow_pos k)]
  refine sK_congr _ fun a _ => ?_
  rw [← sK_mul]
  exact sK_congr _ fun b _ => by grind
/-- The table of the value at x, of that at y. -/
theorem evS_atX (V g : Nat → K) (k : Nat) : evS (fun p => V (p / 2 ^ k)) g (k + k) = evS V g k := by
  rw [evS_pair (fun a _ => V a) g k]
  unfold evS
  refine sK_congr _ fun a _ => ?_
  rw [sK_mul, eqK_sum]
  grind
theorem evS_atY (V g : Nat → K) (k : Nat) : evS (fun p => V (p % 2 ^ k)) g (k + k) = evS V (fun j => g (k + j)) k := by
  rw [evS_pair (fun _ b => V b) g k]
  show sK (fun a => eqK g k a * evS V (fun j => g (k + j)) k) (2 ^ k) = _
  rw [sK_congr (g := fun a => evS V (fun j => g (k + j)) k * eqK g k a) _ (fun a _ => by grind), sK_mul, eqK_sum]
  grind
theorem evS_add (f h g : Nat → K) (n : Nat) : evS (fun p => f p + h p) g n = evS f g n + evS h g n := by
  unfold evS
  rw [← sK_add]
  exact sK_congr _ fun b _ => by grind
/-- The table of how t gates of one sort are wired. -/
def wtabK (s : Bool) (M : Nat → Bool) (A B : Nat → Nat) (l k : Nat) (z : Nat → K) (t p : Nat) : K := sK (fun g => if M g = s ∧ A g * 2 ^ k + B g = p then eqK z l g else 0) t
theorem wtabK_evS (s : Bool) (M : Nat → Bool) (A B : Nat → Nat) (l k : Nat) (z g : Nat → K) (t : Nat) (hA : ∀ q, q < t → A q < 2 ^ k) (hB : ∀ q, q < t → B q < 2 ^ k) :
    evS (wtabK s M A B l k z t) g (k + k) = sK (fun q => if M q = s then eqK z l q * eqK g k (A q) * eqK (fun j => g (k + j)) k (B q) else 0) t := by
  induction t with
  | zero =>
    unfold evS
    exact sK_none _ _ fun b _ => by show (0 : K) * _ = 0; grind
  | succ t ih =>
    have e : evS (wtabK s M A B l k z (t + 1)) g (k + k) = evS (wtabK s M A B l k z t) g (k + k) + evS (fun p => if M t = s ∧ A t * 2 ^ k + B t = p then eqK z l t else 0) g (k + k) := by
      rw [← evS_add]; rfl
    rw [e, ih (fun q hq => hA q (by omega)) (fun q hq => hB q (by omega))]
    show _ = sK _ t + _
    congr 1
    have ha := hA t (by omega)
    have hb := hB t (by omega)
    show _ = if M t = s then eqK z l t * eqK g k (A t) * eqK (fun j => g (k + j)) k (B t) else 0
    by_cases h : M t = s
    · rw [if_pos h]
      have hp : A t * 2 ^ k + B t < 2 ^ (k + k) := by
        rw [two_pow_pair]
        have : (A t + 1) * 2 ^ k ≤ 2 ^ k * 2 ^ k := Nat.mul_le_mul_right _ (by omega)
        rw [Nat.succ_mul] at this
        omega
      unfold evS
      rw [sK_one _ (2 ^ (k + k)) (A t * 2 ^ k + B t) hp (fun j _ hne => by dsimp only; rw [if_neg (fun h2 => hne h2.2.symm)]; grind)]
      dsimp only
      rw [if_pos ⟨h, rfl⟩, eqK_pair g k k]
      have e1 : (A t * 2 ^ k + B t) / 2 ^ k = A t := by rw [Nat.mul_comm, Nat.mul_add_div (Nat.two_pow_pos k), Nat.div_eq_of_lt hb, Nat.add_zero]
      have e2 : (A t * 2 ^ k + B t) % 2 ^ k = B t := by rw [Nat.mul_comm, Nat.mul_add_mod, Nat.mod_eq_of_lt hb]
      rw [e1, e2]
      grind
    · rw [if_neg h]
      unfold evS
      exact sK_none _ _ fun b _ => by dsimp only; rw [if_neg (fun h2 => h h2.1)]; grind
theorem wtabK_wir (s : Bool) (M : Nat → Bool) (A B : Nat → Nat) (l k : Nat) (z g : Nat → K) (hA : ∀ q, q < 2 ^ l → A q < 2 ^ k) (hB : ∀ q, q < 2 ^ l → B q < 2 ^ k) : evS (wtabK s M A B l k z (2 ^ l)) g (k + k) = wirK s M A B l k z g (fun j => g (k + j)) := wtabK_evS s M A B l k z g (2 ^ l) hA hB
/-- What is summed is a sum of two products of tables. -/
theorem layF_tabs (M : Nat → Bool) (A B : Nat → Nat) (l k : Nat) (V z g : Nat → K) (T2 T3 : Nat → Nat → K) (hA : ∀ q, q < 2 ^ l → A q < 2 ^ k) (hB : ∀ q, q < 2 ^ l → B q < 2 ^ k)
    (a0 : ∀ p, p < 2 ^ (k + k) → T2 0 p = wtabK false M A B l k z (2 ^ l) p) (a1 : ∀ p, p < 2 ^ (k + k) → T2 1 p = V (p / 2 ^ k) + V (p % 2 ^ k))
    (b0 : ∀ p, p < 2 ^ (k + k) → T3 0 p = wtabK true M A B l k z (2 ^ l) p) (b1 : ∀ p, p < 2 ^ (k + k) → T3 1 p = V (p / 2 ^ k)) (b2 : ∀ p, p < 2 ^ (k + k) → T3 2 p = V (p % 2 ^ k)) :
    layF M A B l k V z g = prK (fun i => evS (T2 i) g (k + k)) 2 + prK (fun i => evS (T3 i) g (k + k)) 3 := by
  have e0 : evS (T2 0) g (k + k) = wirK false M A B l k z g (fun j => g (k + j)) := by rw [← wtabK_wir false M A B l k z g hA hB]; exact evS_congr _ a0 (fun _ _ => rfl)
  have e1 : evS (T2 1) g (k + k) = evS V g k + evS V (fun j => g (k + j)) k := by
    rw [← evS_atX V g k, ← evS_atY V g k, ← evS_add]; exact evS_congr _ a1 (fun _ _ => rfl)
  have f0 : evS (T3 0) g (k + k) = wirK true M A B l k z g (fun j => g (k + j)) := by rw [← wtabK_wir true M A B l k z g hA hB]; exact evS_congr _ b0 (fun _ _ => rfl)
  have f1 : evS (T3 1) g (k + k) = evS V g k := by rw [← evS_atX V g k]; exact evS_congr _ b1 (fun _ _ => rfl)
  have f2 : evS (T3 2) g (k + k) = evS V (fun j => g (k + j)) k := by rw [← evS_atY V g k]; exact evS_congr _ b2 (fun _ _ => rfl)
  show stepK M A B l k z g (fun j => g (k + j)) (evS V g k) (evS V (fun j => g (k + j)) k) = 1 * evS (T2 0) g (k + k) * evS (T2 1) g (k + k) + 1 * evS (T3 0) g (k + k) * evS (T3 1) g (k + k) * evS (T3 2) g (k + k)
  rw [e0, e1, f0, f1, f2, stepK]
  grind
/-- A layer's rounds are the rounds of both, together. -/
theorem rnd_tabs (M : Nat → Bool) (A B : Nat → Nat) (l k : Nat) (V z d : Nat → K) (T2 T3 : Nat → Nat → K) (hA : ∀ q, q < 2 ^ l → A q < 2 ^ k) (hB : ∀ q, q < 2 ^ l → B q < 2 ^ k)
    (a0 : ∀ p, p < 2 ^ (k + k) → T2 0 p = wtabK false M A B l k z (2 ^ l) p) (a1 : ∀ p, p < 2 ^ (k + k) → T2 1 p = V (p / 2 ^ k) + V (p % 2 ^ k))
    (b0 : ∀ p, p < 2 ^ (k + k) → T3 0 p = wtabK true M A B l k z (2 ^ l) p) (b1 : ∀ p, p < 2 ^ (k + k) → T3 1 p = V (p / 2 ^ k)) (b2 : ∀ p, p < 2 ^ (k + k) → T3 2 p = V (p % 2 ^ k))
    (r : Nat) (hr : r < k + k) (x : K) : rightK T2 2 (k + k) d r x + rightK T3 3 (k + k) d r x = rndK (layF M A B l k V z) (k + k) d r x := by
  have hs : k + k - r - 1 = k + k - 1 - r := by omega
  have g1 : ∀ b j, j < r → cornK (updK d r x) (r + 1) (k + k - 1 - r) b j = d j := fun b j hj => by unfold cornK updK; rw [if_neg (by omega), if_neg (by omega)]
  have g2 : ∀ b, cornK (updK d r x) (r + 1) (k + k - 1 - r) b r = x := fun b => by unfold cornK updK; rw [if_neg (by omega), if_pos rfl]
  have g3 : ∀ b j, r < j → j < k + k → cornK (updK d r x) (r + 1) (k + k - 1 - r) b j = bitK b (k + k - 1 - r) (j - (r + 1)) := fun b j h1 h2 => by unfold cornK; rw [if_pos (by omega)]
  rw [← right_sum T2 2 (k + k) d r x hr _ g1 g2 g3, ← right_sum T3 3 (k + k) d r x hr _ g1 g2 g3, ← sK_add]
  unfold rndK
  rw [cube_sum, hs]
  exact sK_congr _ fun b _ => (layF_tabs M A B l k V z _ T2 T3 hA hB a0 a1 b0 b1 b2).symm

end Go.Proofs.YtaiaillaihlhpafDoor
