/-
  Plain: what tallyref's Partial tells, with no numbers ahead, or with some draws and one number, is a claim, or a round's value; no program in it.
-/
import Derived.Test.YtoogpkcpheannaaDoorRefPart
import Derived.Test.YtoogpkcpheannaaDoorSums
namespace Go.Proofs.YtoogpkcpheannaaDoor
set_option linter.unusedVariables false

theorem pK_prK (F : Nat → K) (m : Nat) : pKr F m = prK F m := by
  induction m with
  | zero => rfl
  | succ m ih => rw [pKr, prK, ih]
theorem part_first (fv : Nat → Nat → Int) (ga : Nat → Int) (m n : Nat) : partS fv ga 0 n m (2 ^ n) = claimK (kF fv) m (2 ^ n) := by
  refine Eq.trans (sK_congr _ fun b _ => ?_) (first_sum (kF fv) m n (fun b j => bitK b n j) fun _ _ _ => rfl)
  unfold partP
  rw [pK_prK]
  refine prK_congr m fun i _ => ?_
  rw [Nat.zero_add]
  exact evS_congr n (fun _ _ => rfl) fun j _ => by rw [catF, if_neg (by omega), Nat.sub_zero, kk_bitF]
theorem part_right (fv : Nat → Nat → Int) (ga : Nat → Int) (m n k : Nat) (x : K) (g : Nat → K) (hk : k < n) (h1 : ∀ j, j < k → kk (ga j) = g j) (h2 : kk (ga k) = x) :
    partS fv ga (k + 1) (n - 1 - k) m (2 ^ (n - 1 - k)) = rightK (kF fv) m n g k x := by
  refine Eq.trans (sK_congr _ fun b _ => ?_) (right_sum (kF fv) m n g k x hk (fun b j => kk (catF (k + 1) ga (bitF b (n - 1 - k)) j)) ?_ ?_ ?_)
  · unfold partP
    rw [pK_prK, show k + 1 + (n - 1 - k) = n from by omega]
    rfl
  · intro b j hj
    show kk (catF (k + 1) ga (bitF b (n - 1 - k)) j) = g j
    rw [catF, if_pos (by omega), h1 j hj]
  · intro b
    show kk (catF (k + 1) ga (bitF b (n - 1 - k)) k) = x
    rw [catF, if_pos (by omega), h2]
  · intro b j hj hn
    show kk (catF (k + 1) ga (bitF b (n - 1 - k)) j) = bitK b (n - 1 - k) (j - (k + 1))
    rw [catF, if_neg (by omega), kk_bitF]
theorem right_zero (F : Nat → Nat → K) (m n : Nat) (g : Nat → K) (x : K) : rightK F m n g 0 x = roundK F m (2 ^ (n - 1)) x := rfl

end Go.Proofs.YtoogpkcpheannaaDoor
