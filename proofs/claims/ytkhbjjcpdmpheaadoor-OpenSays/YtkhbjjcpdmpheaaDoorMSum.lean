/-
  Several texts in one: MleEv; each opens with what it holds.
-/
import Derived.Test.YtkhbjjcpdmpheaaDoorMle
/-
  Contracts of package mle's Fix and Eval, each for every input; they make new rows and write nothing that was there.
-/
namespace Go.Proofs.YtkhbjjcpdmpheaaDoor
open Go.RowKit
set_option linter.unusedVariables false
attribute [local go_sem ↓] Go.wp_at_zero Go.wp_at_succ

set_option maxHeartbeats 1000000 in
theorem fix_ok (b off n h cap : Nat) (f : Nat → Int) (x : Int) (w : World) (hn : n + 1 ≤ 8) (hh : h = 2 ^ n) (ht : Tab w) (hr : Row w b off (2 * h) f) (hv : Nums f) (x0 : 0 ≤ x) (x1 : x ≤ 18446744073709551615) :
    Calls Tryd.prog 32 #[.slice (some ⟨b, off, none⟩) (2 * h) cap, .int .u64 x] w fun e w' => e = .returned (.tuple #[.slice (some ⟨w.heap.size, 0, none⟩) h h, .int .i64 0]) ∧ Made w w' h (fldF f h x) := by
  have h1 : 1 ≤ h := by rw [hh]; exact Nat.one_le_two_pow
  have h2 : h ≤ 1000 := by have := pow_256 (n := n) (by omega); omega
  have HV := hid (vars_ok (some ⟨b, off, none⟩) (n + 1) (2 * h) cap w hn (by rw [Nat.pow_succ, hh, Nat.mul_comm]) ht)
  have HF := hid (fold_any b off h cap f x w h1 h2 hr hv x0 x1)
  clear ht hr hv hh
  have hz : (((n + 1 : Nat) : Int) == 0) = false := beq_eq_false_iff_ne.2 (by omega)
  go_enter Tryd.func32, Tryd.ntmps32
  go_wp2_with (first | (go_at_call 14; refine (HV.out).mono ?_; rintro e w' ⟨rfl, hw⟩; obtain rfl := hw.symm) | (go_at_call 46; refine (HF.out).mono ?_; rintro e w1 ⟨rfl, hm⟩; have HM := hid hm; clear hm))
  go_ret2
  exact ⟨rfl, HM.out⟩

/-- What stands behind k folds. -/
def Folded (f g : Nat → Int) (n k M : Nat) (h : Nat → Int) : Prop := M = 2 ^ (n - k) ∧ Nums h ∧ ∀ j, j < M → kk (h j) = folds (fun j => kk (f j)) n (fun j => kk (g j)) k j
theorem Folded.start {f g : Nat → Int} {n N : Nat} (hN : N = 2 ^ n) (hv : Nums f) : Folded f g n 0 N f := ⟨hN, hv, fun j _ => rfl⟩
theorem Folded.next {f g h : Nat → Int} {n k H : Nat} {x : Int} (hk : k < n) (hf : Folded f g n k (2 * H) h) (hx : g k = x) : Folded f g n (k + 1) H (fldF h H x) := by
  obtain ⟨e, hv, hj⟩ := hf
  have e2 : H = 2 ^ (n - 1 - k) := by
    rw [show n - k = (n - 1 - k) + 1 from by omega, Nat.pow_succ] at e
    omega
  refine ⟨by rw [e2]; congr 1; omega, Nums_fld h H x, fun j hj2 => ?_⟩
  rw [kk_fldF, folds, ← e2, hx]
  unfold foldK
  dsimp only
  rw [hj j (by omega), hj (H + j) (by omega)]
theorem Folded.done {f g h : Nat → Int} {n M : Nat} (hf : Folded f g n n M h) : nrm (h 0) = ofK (evS (fun j => kk (f j)) (fun j => kk (g j)) n) := by
  obtain ⟨e, hv, hj⟩ := hf
  rw [nrm_ofK, hj 0 (by rw [e]; exact Nat.two_pow_pos _), ← evS_end]
theorem half_of {n k M : Nat} (hk : k < n) (h : M = 2 ^ (n - k)) : ∃ H, M = 2 * H ∧ 1 ≤ H := ⟨2 ^ (n - 1 - k), by rw [h, show n - k = (n - 1 - k) + 1 from by omega, Nat.pow_succ]; omega, Nat.one_le_two_pow⟩

end Go.Proofs.YtkhbjjcpdmpheaaDoor
