/-
  Plain: what Verify tells of the right rounds, of rounds that are bent at one value, and of wrong claims; no program in it.
-/
import Derived.Test.YtoogpkcpheannaeDoorSumP
import Derived.Test.YtoogpkcpheannaeDoorSumV
namespace Go.Proofs.YtoogpkcpheannaeDoor
set_option linter.unusedVariables false

theorem kn_one : kn 1 = 1 := rfl
/-- A right round's values tell it everywhere. -/
theorem right_at (F : Nat → Nat → Int) (m n : Nat) (D : Nat → Int) (k : Nat) (hm : m ≤ 100) (x : Int) : atQ (rightF F m n D k) (m + 1) x = ofK (rightK (kF F) m n (fun j => kk (D j)) k (kk x)) :=
  round_at (leftK (kF F) n (fun j => kk (D j)) k) m (2 ^ (n - 1 - k)) (rightF F m n D k) hm (fun j _ => rfl) x
theorem right_told (F : Nat → Nat → Int) (m n N : Nat) (D : Nat → Int) (hN : N = 2 ^ n) (hm : m ≤ 100) (k : Nat) (hk : k ≤ n) : toldQ (nrm (ofK (claimK (kF F) m N))) (rightF F m n D) (m + 1) D k = ofK (trueK (kF F) m n (fun j => kk (D j)) k) := by
  cases k with
  | zero =>
    show nrm (ofK (claimK (kF F) m N)) = _
    rw [nrm_in (ofK_rng _).1 (ofK_rng _).2, true_first, hN]
  | succ k =>
    show atQ (rightF F m n D k) (m + 1) (D k) = _
    rw [right_at F m n D k hm, right_draw (kF F) m n (fun j => kk (D j)) k (by omega)]
theorem right_sum2 (F : Nat → Nat → Int) (m n : Nat) (D : Nat → Int) (k : Nat) (hk : k < n) : addQ (rightF F m n D k 0) (rightF F m n D k 1) = ofK (trueK (kF F) m n (fun j => kk (D j)) k) := by
  unfold rightF
  rw [addQ_ofK, kk_ofK, kk_ofK, kn_one, kn_zero, right_ends (kF F) m n (fun j => kk (D j)) k hk]
theorem right_fit (F : Nat → Nat → Int) (m n N : Nat) (D : Nat → Int) (hN : N = 2 ^ n) (hm : m ≤ 100) (k : Nat) (hk : k < n) : addQ (rightF F m n D k 0) (rightF F m n D k 1) = toldQ (nrm (ofK (claimK (kF F) m N))) (rightF F m n D) (m + 1) D k := by
  rw [right_sum2 F m n D k hk, right_told F m n N D hN hm k (by omega)]
theorem right_end (F : Nat → Nat → Int) (m n N : Nat) (D : Nat → Int) (hN : N = 2 ^ n) (hm : m ≤ 100) : toldQ (nrm (ofK (claimK (kF F) m N))) (rightF F m n D) (m + 1) D n = ofK (prK (fun i => evS (kF F i) (fun j => kk (D j)) n) m) := by
  rw [right_told F m n N D hN hm n (Nat.le_refl _), true_last]

/-- What is told hangs on the rounds ahead alone. -/
theorem told_ahead (claim : Int) (F R : Nat → Nat → Int) (c : Nat) (D : Nat → Int) (k : Nat) (h : ∀ i, i < k → F i = R i) : toldQ claim F c D k = toldQ claim R c D k := by
  cases k with
  | zero => rfl
  | succ k => show atQ (F k) c (D k) = atQ (R k) c (D k); rw [h k (by omega)]
/-- Rounds, with one value of one of them turned. -/
def bentF (R : Nat → Nat → Int) (q s : Nat) (y : Int) (i j : Nat) : Int := if i = q ∧ j = s then y else R i j
theorem bent_ahead (R : Nat → Nat → Int) (q s : Nat) (y : Int) (i : Nat) (h : i < q) : bentF R q s y i = R i := by
  funext j
  unfold bentF
  rw [if_neg (by omega)]
theorem bent_sum (R : Nat → Nat → Int) (q s : Nat) (b : Int) (hs : s < 2) : addQ (bentF R q s (addQ (R q s) b) q 0) (bentF R q s (addQ (R q s) b) q 1) = ofK (kk (R q 0) + kk (R q 1) + kk b) := by
  unfold bentF
  rw [addQ_ofK]
  congr 1
  match s, hs with
  | 0, _ => rw [if_pos ⟨rfl, rfl⟩, if_neg (by omega), kk_addQ]; grind
  | 1, _ => rw [if_neg (by omega), if_pos ⟨rfl, rfl⟩, kk_addQ]; grind
theorem bent_no (F : Nat → Nat → Int) (m n N : Nat) (D : Nat → Int) (hN : N = 2 ^ n) (hm : m ≤ 100) (q s : Nat) (hq : q < n) (hs : s < 2) (b : Int) (hb : kk b ≠ 0) :
    addQ (bentF (rightF F m n D) q s (addQ (rightF F m n D q s) b) q 0) (bentF (rightF F m n D) q s (addQ (rightF F m n D q s) b) q 1) ≠ toldQ (nrm (ofK (claimK (kF F) m N))) (bentF (rightF F m n D) q s (addQ (rightF F m n D q s) b)) (m + 1) D q := by
  rw [told_ahead _ _ (rightF F m n D) _ _ q (fun i hi => bent_ahead _ q s _ i hi), right_told F m n N D hN hm q (by omega), bent_sum _ q s b hs]
  intro e
  have e1 := ofK_inj e
  have e2 := right_sum2 F m n D q hq
  rw [addQ_ofK] at e2
  have e3 := ofK_inj e2
  rw [← e3] at e1
  exact hb (by grind)
theorem bent_fit (F : Nat → Nat → Int) (m n N : Nat) (D : Nat → Int) (hN : N = 2 ^ n) (hm : m ≤ 100) (q s : Nat) (hq : q < n) (y : Int) (k : Nat) (hk : k < q) :
    addQ (bentF (rightF F m n D) q s y k 0) (bentF (rightF F m n D) q s y k 1) = toldQ (nrm (ofK (claimK (kF F) m N))) (bentF (rightF F m n D) q s y) (m + 1) D k := by
  rw [told_ahead _ _ (rightF F m n D) _ _ k (fun i hi => bent_ahead _ q s _ i (by omega)), bent_ahead _ q s y k hk]
  exact right_fit F m n N D hN hm k (by omega)

theorem at_same (v : Nat → Int) (n : Nat) (hn : n ≤ 1000) {x y : Int} (h : kk x = kk y) : kk (atQ v n x) = kk (atQ v n y) := by
  obtain ⟨f, _, _, hf⟩ := at_poly v n (by omega)
  rw [hf, hf, h]
theorem at_value (v : Nat → Int) (n j : Nat) (hn : n ≤ 1000) (hj : j < n) : kk (atQ v n (j : Int)) = kk (v j) := by
  obtain ⟨f, _, h1, hf⟩ := at_poly v n (by omega)
  rw [hf, ← h1 j hj]; rfl
/-- SCHWARTZ, ZIPPEL: what is held to be right up to the end, from a wrong claim: a round of it is wrong, at 0 or at 1, and right at its draw. -/
theorem wrong_round (G F : Nat → Nat → Int) (m n N c : Nat) (D : Nat → Int) (claim : Int) (hN : N = 2 ^ n) (hm : m ≤ 100) (hc2 : 2 ≤ c) (hc : c ≤ 8) (hall : ∀ k, k < n → addQ (F k 0) (F k 1) = toldQ (nrm claim) F c D k)
    (h0 : ofK (claimK (kF G) m N) ≠ nrm claim) (hn : ofK (prK (fun i => evS (kF G i) (fun j => kk (D j)) n) m) = toldQ (nrm claim) F c D n) :
    ∃ k x : Nat, k < n ∧ x < 2 ∧ atQ (F k) c (x : Int) ≠ atQ (rightF G m n D k) (m + 1) (x : Int) ∧ atQ (F k) c (D k) = atQ (rightF G m n D k) (m + 1) (D k) := by
  obtain ⟨k, hk, hw, hd⟩ := sound (trueK (kF G) m n (fun j => kk (D j))) (rightK (kF G) m n (fun j => kk (D j))) (fun k => kk (toldQ (nrm claim) F c D k)) (fun k x => kk (atQ (F k) c (ofK x))) (fun j => kk (D j)) n
    (fun k hk => right_ends (kF G) m n _ k hk) (fun k hk => right_draw (kF G) m n _ k hk)
    (fun k hk => by
      show kk (atQ (F k) c (ofK 0)) + kk (atQ (F k) c (ofK 1)) = kk (toldQ (nrm claim) F c D k)
      rw [← hall k hk, kk_addQ, ofK_zero, ofK_one]
      have a0 := at_value (F k) c 0 (by omega) (by omega)
      have a1 := at_value (F k) c 1 (by omega) (by omega)
      rw [← a0, ← a1]; rfl)
    (fun k hk => by
      show kk (atQ (F k) c (ofK (kk (D k)))) = kk (atQ (F k) c (D k))
      exact at_same (F k) c (by omega) (kk_ofK _))
    (fun e => h0 (by
      have e2 : kk (nrm claim) = claimK (kF G) m N := by rw [hN, ← true_first (kF G) m n (fun j => kk (D j))]; exact e
      exact (eq_ofK (nrm_rng claim).1 (nrm_rng claim).2 e2).symm))
    (by
      show kk (toldQ (nrm claim) F c D n) = _
      rw [← hn, kk_ofK, true_last])
  have hatd : atQ (F k) c (D k) = atQ (rightF G m n D k) (m + 1) (D k) := by
    rw [right_at G m n D k hm]
    exact eq_ofK (atQ_rng _ _ _).1 (atQ_rng _ _ _).2 (by rw [← hd]; exact at_same (F k) c (by omega) (kk_ofK _).symm)
  rcases hw with hw | hw
  · refine ⟨k, 0, hk, by omega, fun e => hw ?_, hatd⟩
    have := congrArg kk e
    rw [right_at G m n D k hm, kk_ofK] at this
    exact this
  · refine ⟨k, 1, hk, by omega, fun e => hw ?_, hatd⟩
    have := congrArg kk e
    rw [right_at G m n D k hm, kk_ofK] at this
    exact this

end Go.Proofs.YtoogpkcpheannaeDoor
