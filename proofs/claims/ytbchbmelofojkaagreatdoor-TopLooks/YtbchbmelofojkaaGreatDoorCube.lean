/-
  Plain: sums over all corners of a function of points, told variable by variable; how a layer is wired; lines between two points; no program in it.
-/
import Derived.Test.YtbchbmelofojkaaGreatDoorSums
namespace Go.Proofs.YtbchbmelofojkaaGreatDoor
set_option linter.unusedVariables false

/-- The sum of F over all corners of m places from j on. -/
def cubeS (F : (Nat → K) → K) : Nat → Nat → (Nat → K) → K
  | _, 0, g => F g
  | j, m + 1, g => cubeS F (j + 1) m (updK g j 0) + cubeS F (j + 1) m (updK g j 1)
theorem updK_same (g : Nat → K) (j : Nat) : updK g j (g j) = g := by
  funext i
  unfold updK
  by_cases e : i = j
  · rw [if_pos e, e]
  · rw [if_neg e]
theorem updK_comm (g : Nat → K) {i j : Nat} (h : i ≠ j) (x y : K) : updK (updK g i x) j y = updK (updK g j y) i x := by
  funext k
  unfold updK
  by_cases e : k = j
  · rw [if_pos e, if_neg (by omega), if_pos e]
  · rw [if_neg e]
    by_cases e2 : k = i
    · rw [if_pos e2, if_pos e2]
    · rw [if_neg e2, if_neg e2, if_neg e]
theorem updK_twice (g : Nat → K) (j : Nat) (x y : K) : updK (updK g j x) j y = updK g j y := by
  funext k
  unfold updK
  by_cases e : k = j
  · rw [if_pos e, if_pos e]
  · rw [if_neg e, if_neg e, if_neg e]
/-- Round j: the sum over what is left, the draws ahead, this one at x. -/
def rndK (F : (Nat → K) → K) (N : Nat) (d : Nat → K) (j : Nat) (x : K) : K := cubeS F (j + 1) (N - j - 1) (updK d j x)
theorem rnd_ends (F : (Nat → K) → K) (N : Nat) (d : Nat → K) (j : Nat) (h : j < N) : rndK F N d j 0 + rndK F N d j 1 = cubeS F j (N - j) d := by
  unfold rndK
  rw [show N - j = (N - j - 1) + 1 from by omega]
  rfl
theorem rnd_draw (F : (Nat → K) → K) (N : Nat) (d : Nat → K) (j : Nat) : rndK F N d j (d j) = cubeS F (j + 1) (N - (j + 1)) d := by
  unfold rndK
  rw [updK_same, show N - j - 1 = N - (j + 1) from by omega]
theorem cube_last (F : (Nat → K) → K) (N : Nat) (d : Nat → K) : cubeS F N (N - N) d = F d := by rw [Nat.sub_self]; rfl
theorem cube_poly (F : (Nat → K) → K) (c i : Nat) (h : ∀ g, IsP c (fun x => F (updK g i x))) (m : Nat) : ∀ (j : Nat) (g : Nat → K), i < j → IsP c (fun x => cubeS F j m (updK g i x)) := by
  induction m with
  | zero => exact fun j g _ => h g
  | succ m ih =>
    intro j g hj
    refine ((ih (j + 1) (updK g j 0) (by omega)).add (ih (j + 1) (updK g j 1) (by omega))).congr fun x => ?_
    show cubeS F (j + 1) m (updK (updK g i x) j 0) + cubeS F (j + 1) m (updK (updK g i x) j 1) = cubeS F (j + 1) m (updK (updK g j 0) i x) + cubeS F (j + 1) m (updK (updK g j 1) i x)
    rw [updK_comm g (show j ≠ i by omega), updK_comm g (show j ≠ i by omega)]
theorem rnd_poly (F : (Nat → K) → K) (c N : Nat) (d : Nat → K) (j : Nat) (h : ∀ g, IsP c (fun x => F (updK g j x))) : IsP c (fun x => rndK F N d j x) := cube_poly F c j h _ (j + 1) d (by omega)
/-- A round's values at 0 .. c - 1 tell it everywhere. -/
theorem rnd_at (F : (Nat → K) → K) (c N : Nat) (d : Nat → K) (j : Nat) (h : ∀ g, IsP c (fun x => F (updK g j x))) (v : Nat → Int) (hc : c ≤ 100) (hv : ∀ i, i < c → kk (v i) = rndK F N d j (kn i)) (x : Int) : atQ v c x = ofK (rndK F N d j (kk x)) :=
  eq_ofK (atQ_rng _ _ _).1 (atQ_rng _ _ _).2 (at_only v c (by omega) (rnd_poly F c N d j h) (fun i hi => (hv i hi).symm) x)

/-- The point g, with the bits of b at m places from j on. -/
def cornK (g : Nat → K) (j m b : Nat) (i : Nat) : K := if j ≤ i ∧ i < j + m then bitK b m (i - j) else g i
theorem bitK_first_lo {b m : Nat} (h : b < 2 ^ m) : bitK b (m + 1) 0 = 0 := by
  unfold bitK
  rw [show m + 1 - 1 - 0 = m from by omega, Nat.div_eq_of_lt h, if_neg (by omega)]
theorem bitK_first_hi {b m : Nat} (h : b < 2 ^ m) : bitK (2 ^ m + b) (m + 1) 0 = 1 := by
  unfold bitK
  have e : (2 ^ m + b) / 2 ^ m = 1 := Nat.div_eq_of_lt_le (by omega) (by omega)
  rw [show m + 1 - 1 - 0 = m from by omega, e, if_pos rfl]
theorem bitK_next (b m i : Nat) (h : i < m) : bitK b (m + 1) (i + 1) = bitK b m i := by
  unfold bitK
  rw [show m + 1 - 1 - (i + 1) = m - 1 - i from by omega]
theorem bitK_next_hi (b m i : Nat) (h : i < m) : bitK (2 ^ m + b) (m + 1) (i + 1) = bitK b m i := by
  unfold bitK
  rw [show m + 1 - 1 - (i + 1) = m - 1 - i from by omega]
  have e1 : 2 ^ m = 2 ^ (m - 1 - i) * (2 * 2 ^ i) := by rw [show 2 * 2 ^ i = 2 ^ (i + 1) from by rw [Nat.pow_succ]; omega, ← Nat.pow_add]; congr 1; omega
  have e2 : (2 ^ m + b) / 2 ^ (m - 1 - i) = b / 2 ^ (m - 1 - i) + 2 * 2 ^ i := by
    rw [Nat.add_comm, e1, Nat.add_mul_div_left _ _ (Nat.two_pow_pos _)]
  rw [e2, Nat.add_mul_mod_self_left]
theorem corn_lo (g : Nat → K) (j m b : Nat) (h : b < 2 ^ m) : cornK (updK g j 0) (j + 1) m b = cornK g j (m + 1) b := by
  funext i
  unfold cornK updK
  by_cases e : i = j
  · subst e
    rw [if_neg (by omega), if_pos rfl, if_pos (by omega), Nat.sub_self, bitK_first_lo h]
  · by_cases e2 : j ≤ i ∧ i < j + (m + 1)
    · rw [if_pos (by omega), if_pos e2, show i - j = (i - (j + 1)) + 1 from by omega, bitK_next _ _ _ (by omega)]
    · rw [if_neg (by omega), if_neg e, if_neg e2]
theorem corn_hi (g : Nat → K) (j m b : Nat) (h : b < 2 ^ m) : cornK (updK g j 1) (j + 1) m b = cornK g j (m + 1) (2 ^ m + b) := by
  funext i
  unfold cornK updK
  by_cases e : i = j
  · subst e
    rw [if_neg (by omega), if_pos rfl, if_pos (by omega), Nat.sub_self, bitK_first_hi h]
  · by_cases e2 : j ≤ i ∧ i < j + (m + 1)
    · rw [if_pos (by omega), if_pos e2, show i - j = (i - (j + 1)) + 1 from by omega, bitK_next_hi _ _ _ (by omega)]
    · rw [if_neg (by omega), if_neg e, if_neg e2]
theorem cube_sum (F : (Nat → K) → K) (m : Nat) : ∀ (j : Nat) (g : Nat → K), cubeS F j m g = sK (fun b => F (cornK g j m b)) (2 ^ m) := by
  induction m with
  | zero =>
    intro j g
    have e : cornK g j 0 0 = g := by funext i; unfold cornK; rw [if_neg (by omega)]
    show F g = 0 + F (cornK g j 0 0)
    rw [e]; grind
  | succ m ih =>
    intro j g
    rw [cubeS, ih, ih, two_pow_succ, sK_split]
    congr 1
    · exact sK_congr _ fun b hb => by rw [corn_lo g j m b hb]
    · exact sK_congr _ fun b hb => by rw [corn_hi g j m b hb]
theorem cube_split (F : (Nat → K) → K) (m n : Nat) : ∀ (j : Nat) (g : Nat → K), cubeS F j (m + n) g = cubeS (fun g' => cubeS F (j + m) n g') j m g := by
  induction m with
  | zero => intro j g; rw [Nat.zero_add]; rfl
  | succ m ih =>
    intro j g
    rw [show m + 1 + n = (m + n) + 1 from by omega]
    show cubeS F (j + 1) (m + n) (updK g j 0) + cubeS F (j + 1) (m + n) (updK g j 1) = cubeS (fun g' => cubeS F (j + (m + 1)) n g') (j + 1) m (updK g j 0) + cubeS (fun g' => cubeS F (j + (m + 1)) n g') (j + 1) m (updK g j 1)
    rw [ih, ih, show j + 1 + m = j + (m + 1) from by omega]
theorem sK_swap (h : Nat → Nat → K) (m n : Nat) : sK (fun a => sK (fun g => h a g) n) m = sK (fun g => sK (fun a => h a g) m) n := by
  induction m with
  | zero =>
    show (0 : K) = sK (fun g => (0 : K)) n
    rw [sK_none _ n fun _ _ => rfl]
  | succ m ih =>
    show sK (fun a => sK (fun g => h a g) n) m + sK (fun g => h m g) n = _
    rw [ih, ← sK_add]
    exact sK_congr n fun g _ => rfl

/-- How a layer of 2^l gates is wired: the gates of one sort. -/
def wirK (s : Bool) (M : Nat → Bool) (A B : Nat → Nat) (l k : Nat) (z x y : Nat → K) : K := sK (fun g => if M g = s then eqK z l g * eqK x k (A g) * eqK y k (B g) else 0) (2 ^ l)
def stepK (M : Nat → Bool) (A B : Nat → Nat) (l k : Nat) (z x y : Nat → K) (vx vy : K) : K := wirK false M A B l k z x y * (vx + vy) + wirK true M A B l k z x y * (vx * vy)
/-- A layer's values. -/
def gateK (M : Nat → Bool) (A B : Nat → Nat) (V : Nat → K) (g : Nat) : K := if M g = true then V (A g) * V (B g) else V (A g) + V (B g)
/-- What is summed: x ahead, y behind. -/
def layF (M : Nat → Bool) (A B : Nat → Nat) (l k : Nat) (V z g : Nat → K) : K := stepK M A B l k z g (fun j => g (k + j)) (evS V g k) (evS V (fun j => g (k + j)) k)
theorem wirK_congr (s : Bool) (M : Nat → Bool) (A B : Nat → Nat) (l k : Nat) {z x y z' x' y' : Nat → K} (hz : ∀ j, j < l → z j = z' j) (hx : ∀ j, j < k → x j = x' j) (hy : ∀ j, j < k → y j = y' j) : wirK s M A B l k z x y = wirK s M A B l k z' x' y' := by
  unfold wirK
  refine sK_congr _ fun g _ => ?_
  rw [eqK_congr l g hz, eqK_congr k (A g) hx, eqK_congr k (B g) hy]
theorem stepK_congr (M : Nat → Bool) (A B : Nat → Nat) (l k : Nat) {z x y z' x' y' : Nat → K} (vx vy : K) (hz : ∀ j, j < l → z j = z' j) (hx : ∀ j, j < k → x j = x' j) (hy : ∀ j, j < k → y j = y' j) : stepK M A B l k z x y vx vy = stepK M A B l k z' x' y' vx vy := by
  unfold stepK
  rw [wirK_congr false M A B l k hz hx hy, wirK_congr true M A B l k hz hx hy]
theorem layF_congr (M : Nat → Bool) (A B : Nat → Nat) (l k : Nat) (V : Nat → K) {z z' g g' : Nat → K} (hz : ∀ j, j < l → z j = z' j) (hg : ∀ j, j < k + k → g j = g' j) : layF M A B l k V z g = layF M A B l k V z' g' := by
  unfold layF
  rw [stepK_congr M A B l k _ _ hz (fun j hj => hg j (by omega)) (fun j hj => hg (k + j) (by omega)), evS_congr k (fun _ _ => rfl) (fun j hj => hg j (by omega) : ∀ j, j < k → g j = g' j), evS_congr k (fun _ _ => rfl) (fun j hj => hg (k + j) (by omega) : ∀ j, j < k → (fun j => g (k + j)) j = (fun j => g' (k + j)) j)]
theorem layF_corner (M : Nat → Bool) (A B : Nat → Nat) (l k : Nat) (V z : Nat → K) (hA : ∀ g, g < 2 ^ l → A g < 2 ^ k) (hB : ∀ g, g < 2 ^ l → B g < 2 ^ k) (g : Nat → K) (a b : Nat) (ha : a < 2 ^ k) (hb : b < 2 ^ k) (h1 : ∀ j, j < k → g j = bitK a k j) (h2 : ∀ j, j < k → g (k + j) = bitK b k j) :
    layF M A B l k V z g = sK (fun t => if A t = a ∧ B t = b then eqK z l t * gateK M A B V t else 0) (2 ^ l) := by
  unfold layF stepK
  rw [wirK_congr false M A B l k (fun _ _ => rfl) h1 h2, wirK_congr true M A B l k (fun _ _ => rfl) h1 h2, evS_congr k (fun _ _ => rfl) h1, evS_congr k (fun _ _ => rfl) h2, evS_bit V k a ha, evS_bit V k b hb]
  unfold wirK
  rw [show ∀ (x y : K), x * y = y * x from fun x y => by grind, ← sK_mul, show ∀ (x y : K), sK (fun g => if M g = true then eqK z l g * eqK (bitK a k) k (A g) * eqK (bitK b k) k (B g) else 0) (2 ^ l) * (x * y) = (x * y) * sK (fun g => if M g = true then eqK z l g * eqK (bitK a k) k (A g) * eqK (bitK b k) k (B g) else 0) (2 ^ l) from fun x y => by grind, ← sK_mul, ← sK_add]
  refine sK_congr _ fun t ht => ?_
  rw [eqK_bit k a (A t) ha (hA t ht), eqK_bit k b (B t) hb (hB t ht)]
  unfold gateK
  have hab : (if A t = a then (1 : K) else 0) * (if B t = b then 1 else 0) = if A t = a ∧ B t = b then 1 else 0 := by
    by_cases e1 : A t = a
    · by_cases e2 : B t = b
      · rw [if_pos e1, if_pos e2, if_pos (show A t = a ∧ B t = b from ⟨e1, e2⟩)]; grind
      · rw [if_neg e2, if_neg (show ¬ (A t = a ∧ B t = b) from fun h => e2 h.2)]; grind
    · rw [if_neg e1, if_neg (show ¬ (A t = a ∧ B t = b) from fun h => e1 h.1)]; grind
  by_cases h : A t = a ∧ B t = b
  · rw [if_pos h] at hab ⊢
    rw [h.1, h.2]
    rw [h.1, h.2] at hab
    clear h1 h2 hA hB
    cases hM : M t
    · rw [if_pos (show false = false from rfl), if_neg (show ¬ false = true from by decide), if_neg (show ¬ false = true from by decide)]
      clear hM
      generalize (if a = a then (1 : K) else 0) = p at hab ⊢
      generalize (if b = b then (1 : K) else 0) = q at hab ⊢
      generalize eqK z l t = c
      generalize V a = u
      generalize V b = v
      grind
    · rw [if_neg (show ¬ true = false from by decide), if_pos (show true = true from rfl), if_pos (show true = true from rfl)]
      clear hM
      generalize (if a = a then (1 : K) else 0) = p at hab ⊢
      generalize (if b = b then (1 : K) else 0) = q at hab ⊢
      generalize eqK z l t = c
      generalize V a = u
      generalize V b = v
      grind
  · rw [if_neg h] at hab ⊢
    clear h1 h2 hA hB h
    generalize (if A t = a then (1 : K) else 0) = p at hab ⊢
    generalize (if B t = b then (1 : K) else 0) = q at hab ⊢
    generalize eqK z l t = c
    generalize V a = u
    generalize V b = v
    cases M t
    · rw [if_pos (show false = false from rfl), if_neg (show ¬ false = true from by decide)]
      grind
    · rw [if_neg (show ¬ true = false from by decide), if_pos (show true = true from rfl)]
      grind
/-- The value of a layer's table at z is the sum of steps at all places. -/
theorem lay_sum (M : Nat → Bool) (A B : Nat → Nat) (l k : Nat) (V z d : Nat → K) (hA : ∀ g, g < 2 ^ l → A g < 2 ^ k) (hB : ∀ g, g < 2 ^ l → B g < 2 ^ k) : cubeS (layF M A B l k V z) 0 (k + k) d = evS (gateK M A B V) z l := by
  rw [cube_split, cube_sum]
  have e : ∀ a, a < 2 ^ k → cubeS (layF M A B l k V z) (0 + k) k (cornK d 0 k a) = sK (fun t => if A t = a then eqK z l t * gateK M A B V t else 0) (2 ^ l) := by
    intro a ha
    rw [cube_sum]
    have e2 : ∀ b, b < 2 ^ k → layF M A B l k V z (cornK (cornK d 0 k a) (0 + k) k b) = sK (fun t => if A t = a ∧ B t = b then eqK z l t * gateK M A B V t else 0) (2 ^ l) := fun b hb =>
      layF_corner M A B l k V z hA hB _ a b ha hb
        (fun j hj => by unfold cornK; rw [if_neg (by omega), if_pos (by omega), Nat.sub_zero])
        (fun j hj => by unfold cornK; rw [if_pos (by omega), show k + j - (0 + k) = j from by omega])
    rw [sK_congr _ e2, sK_swap]
    refine sK_congr _ fun t ht => ?_
    by_cases e1 : A t = a
    · rw [if_pos e1, sK_one _ (2 ^ k) (B t) (hB t ht) fun b _ hb => if_neg fun h => hb h.2.symm, if_pos ⟨e1, rfl⟩]
    · rw [if_neg e1]
      exact sK_none _ _ fun b _ => if_neg fun h => e1 h.1
  rw [sK_congr _ e, sK_swap]
  unfold evS
  refine sK_congr _ fun t ht => ?_
  rw [sK_one _ (2 ^ k) (A t) (hA t ht) fun a _ ha => if_neg fun h => ha h.symm, if_pos rfl]
  grind

theorem wirK_line_x (s : Bool) (M : Nat → Bool) (A B : Nat → Nat) (l k : Nat) (z g y : Nat → K) (i : Nat) (hi : i < k) (x : K) : wirK s M A B l k z (updK g i x) y = wirK s M A B l k z (updK g i 0) y + (wirK s M A B l k z (updK g i 1) y - wirK s M A B l k z (updK g i 0) y) * x := by
  unfold wirK
  rw [show ∀ (a b : K), a + (b - a) * x = a + (x * b + (0 - x) * a) from fun a b => by grind, ← sK_mul, ← sK_mul, ← sK_add, ← sK_add]
  refine sK_congr _ fun t _ => ?_
  rw [eqK_line g i x k (A t) hi]
  by_cases h : M t = s
  · rw [if_pos h, if_pos h, if_pos h]; grind
  · rw [if_neg h, if_neg h, if_neg h]; grind
theorem wirK_line_y (s : Bool) (M : Nat → Bool) (A B : Nat → Nat) (l k : Nat) (z x g : Nat → K) (i : Nat) (hi : i < k) (y : K) : wirK s M A B l k z x (updK g i y) = wirK s M A B l k z x (updK g i 0) + (wirK s M A B l k z x (updK g i 1) - wirK s M A B l k z x (updK g i 0)) * y := by
  unfold wirK
  rw [show ∀ (a b : K), a + (b - a) * y = a + (y * b + (0 - y) * a) from fun a b => by grind, ← sK_mul, ← sK_mul, ← sK_add, ← sK_add]
  refine sK_congr _ fun t _ => ?_
  rw [eqK_line g i y k (B t) hi]
  by_cases h : M t = s
  · rw [if_pos h, if_pos h, if_pos h]; grind
  · rw [if_neg h, if_neg h, if_neg h]; grind
theorem two_lines (a b c e p q r s u : K) : IsP 3 (fun x => (a + b * x) * ((c + e * x) + u) + (p + q * x) * ((c + e * x) * u)) := by
  have h1 : IsP 2 (fun x => (c + u) + e * x) := ((IsP.const 1).line (c + u) e).congr fun x => by grind
  have h2 : IsP 2 (fun x => c * u + (e * u) * x) := ((IsP.const 1).line (c * u) (e * u)).congr fun x => by grind
  exact ((h1.line a b).add (h2.line p q)).congr fun x => by grind
/-- What is summed is of the power 2 at most in each variable. -/
theorem layF_poly (M : Nat → Bool) (A B : Nat → Nat) (l k : Nat) (V z g : Nat → K) (i : Nat) (hi : i < k + k) : IsP 3 (fun x => layF M A B l k V z (updK g i x)) := by
  unfold layF stepK
  by_cases h : i < k
  · have hy : ∀ x, (fun j => updK g i x (k + j)) = fun j => g (k + j) := fun x => by
      funext j; unfold updK; rw [if_neg (by omega)]
    refine (two_lines (wirK false M A B l k z (updK g i 0) fun j => g (k + j)) (wirK false M A B l k z (updK g i 1) (fun j => g (k + j)) - wirK false M A B l k z (updK g i 0) fun j => g (k + j)) (evS V (updK g i 0) k) (evS V (updK g i 1) k - evS V (updK g i 0) k)
      (wirK true M A B l k z (updK g i 0) fun j => g (k + j)) (wirK true M A B l k z (updK g i 1) (fun j => g (k + j)) - wirK true M A B l k z (updK g i 0) fun j => g (k + j)) 0 0 (evS V (fun j => g (k + j)) k)).congr fun x => ?_
    rw [hy x, wirK_line_x false M A B l k z g _ i h x, wirK_line_x true M A B l k z g _ i h x, evS_line V g k i x h]
    grind
  · obtain ⟨t, rfl⟩ : ∃ t, i = k + t := ⟨i - k, by omega⟩
    have hx : ∀ x, ∀ j, j < k → updK g (k + t) x j = g j := fun x j hj => by unfold updK; rw [if_neg (by omega)]
    have hy : ∀ x, (fun j => updK g (k + t) x (k + j)) = updK (fun j => g (k + j)) t x := fun x => by
      funext j; unfold updK
      by_cases e : j = t
      · rw [if_pos (by omega), if_pos e]
      · rw [if_neg (by omega), if_neg e]
    refine (two_lines (wirK false M A B l k z g (updK (fun j => g (k + j)) t 0)) (wirK false M A B l k z g (updK (fun j => g (k + j)) t 1) - wirK false M A B l k z g (updK (fun j => g (k + j)) t 0)) (evS V (updK (fun j => g (k + j)) t 0) k) (evS V (updK (fun j => g (k + j)) t 1) k - evS V (updK (fun j => g (k + j)) t 0) k)
      (wirK true M A B l k z g (updK (fun j => g (k + j)) t 0)) (wirK true M A B l k z g (updK (fun j => g (k + j)) t 1) - wirK true M A B l k z g (updK (fun j => g (k + j)) t 0)) 0 0 (evS V g k)).congr fun x => ?_
    rw [hy x, wirK_congr false M A B l k (fun _ _ => rfl) (hx x) (fun _ _ => rfl), wirK_congr true M A B l k (fun _ _ => rfl) (hx x) (fun _ _ => rfl), evS_congr k (fun _ _ => rfl) (hx x), wirK_line_y false M A B l k z g _ t (by omega) x, wirK_line_y true M A B l k z g _ t (by omega) x, evS_line V (fun j => g (k + j)) k t x (by omega)]
    grind
/-- The line from x to y. -/
def lineK (x y : Nat → K) (t : K) (j : Nat) : K := x j + t * (y j - x j)
theorem line_poly (n : Nat) : ∀ (c : Nat) (f : K → Nat → K) (x y : Nat → K), (∀ b, IsP c (fun t => f t b)) → IsP (c + n) (fun t => evS (f t) (lineK x y t) n) := by
  induction n with
  | zero => exact fun c f x y h => (h 0).congr fun t => evS_zero _ _
  | succ n ih =>
    intro c f x y h
    have e : c + (n + 1) = (c + 1) + n := by omega
    rw [e]
    refine (ih (c + 1) (fun t => foldK (f t) (2 ^ n) (lineK x y t 0)) (fun j => x (j + 1)) (fun j => y (j + 1)) fun b => ?_).congr fun t => evS_fold (f t) (lineK x y t) n
    refine ((((h b).mono (Nat.le_succ c)).add (((h (2 ^ n + b)).add ((h b).scale (0 - 1))).line (x 0) (y 0 - x 0)))).congr fun t => ?_
    unfold foldK lineK
    grind
/-- A table's value along a line is a polynomial of n + 1 coefficients. -/
theorem evS_line_poly (V x y : Nat → K) (n : Nat) : IsP (n + 1) (fun t => evS V (lineK x y t) n) := by
  have := line_poly n 1 (fun _ => V) x y fun b => IsP.const (V b)
  rwa [Nat.add_comm] at this
theorem lineK_zero (x y : Nat → K) : lineK x y 0 = x := by funext j; unfold lineK; grind
theorem lineK_one (x y : Nat → K) : lineK x y 1 = y := by funext j; unfold lineK; grind

end Go.Proofs.YtbchbmelofojkaaGreatDoor
