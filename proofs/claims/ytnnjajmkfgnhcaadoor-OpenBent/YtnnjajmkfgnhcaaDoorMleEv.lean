/-
  Contracts of package mle's Fix and Eval, each for every input; they make new rows and write nothing that was there.
-/
import Derived.Test.YtnnjajmkfgnhcaaDoorMle
namespace Go.Proofs.YtnnjajmkfgnhcaaDoor
open Go.RowKit
set_option linter.unusedVariables false
attribute [local go_sem ↓] Go.wp_at_zero Go.wp_at_succ

set_option maxHeartbeats 1000000 in
theorem fix_ok (b off n h cap : Nat) (f : Nat → Int) (x : Int) (w : World) (hn : n + 1 ≤ 8) (hh : h = 2 ^ n) (ht : Tab w) (hr : Row w b off (2 * h) f) (hv : Nums f) (x0 : 0 ≤ x) (x1 : x ≤ 18446744073709551615) :
    Calls Tryd.prog 68 #[.slice (some ⟨b, off, none⟩) (2 * h) cap, .int .u64 x] w fun e w' => e = .returned (.tuple #[.slice (some ⟨w.heap.size, 0, none⟩) h h, .int .i64 0]) ∧ Made w w' h (fldF f h x) := by
  have h1 : 1 ≤ h := by rw [hh]; exact Nat.one_le_two_pow
  have h2 : h ≤ 1000 := by have := pow_256 (n := n) (by omega); omega
  have HV := hid (vars_ok (some ⟨b, off, none⟩) (n + 1) (2 * h) cap w hn (by rw [Nat.pow_succ, hh, Nat.mul_comm]) ht)
  have HF := hid (fold_any b off h cap f x w h1 h2 hr hv x0 x1)
  clear ht hr hv hh
  have hz : (((n + 1 : Nat) : Int) == 0) = false := beq_eq_false_iff_ne.2 (by omega)
  go_enter Tryd.func68, Tryd.ntmps68
  go_wp2_with (first | (go_at_call 37; refine (HV.out).mono ?_; rintro e w' ⟨rfl, hw⟩; obtain rfl := hw.symm) | (go_at_call 56; refine (HF.out).mono ?_; rintro e w1 ⟨rfl, hm⟩; have HM := hid hm; clear hm))
  go_ret2
  exact ⟨rfl, HM.out⟩

/-- What stands behind k folds. -/
def Folded (f g : Nat → Int) (n k M : Nat) (h : Nat → Int) : Prop := M = 2 ^ (n - k) ∧ Nums h ∧ ∀ j, j < M → kk (h j) = folds (fun j => kk (f j)) n (fun j => kk (g j)) k j
theorem Folded.start {f g : Nat → Int} {n N : Nat} (hN : N = 2 ^ n) (hv : Nums f) : Folded f g n 0 N f := ⟨hN, hv, fun j _ => rfl⟩
theorem Folded.next {f g h : Nat → Int} {n k H : Nat} {x : Int} (hk : k < n) (hf : Folded f g n k (2 * H) h) (hx : g k = x) : Folded f g n (k + 1) H (fldF h H x) := by
  obtain ⟨e, hv, hj⟩ := hf
  have e2 : H = 2 ^ (n - 1 - k) := by
    rw [show n - k = (n - 1 - k) + 1 from by omega, Nat.pow_succ] at e
    omega
  refine ⟨by rw [e2]; congr 1; omega, Nums_fld h H x, fun j hj2 => ?_⟩
  rw [kk_fldF, folds, ← e2, hx]
  unfold foldK
  dsimp only
  rw [hj j (by omega), hj (H + j) (by omega)]
theorem Folded.done {f g h : Nat → Int} {n M : Nat} (hf : Folded f g n n M h) : nrm (h 0) = ofK (evS (fun j => kk (f j)) (fun j => kk (g j)) n) := by
  obtain ⟨e, hv, hj⟩ := hf
  rw [nrm_ofK, hj 0 (by rw [e]; exact Nat.two_pow_pos _), ← evS_end]
theorem half_of {n k M : Nat} (hk : k < n) (h : M = 2 ^ (n - k)) : ∃ H, M = 2 * H ∧ 1 ≤ H := ⟨2 ^ (n - 1 - k), by rw [h, show n - k = (n - 1 - k) + 1 from by omega, Nat.pow_succ]; omega, Nat.one_le_two_pow⟩

set_option maxHeartbeats 4000000 in
set_option maxRecDepth 100000 in
theorem eval_ok (b off n N cap cap2 : Nat) (ao : Option Addr) (f g : Nat → Int) (w : World) (hn : n ≤ 8) (hN : N = 2 ^ n) (ht : Tab w) (hr : Row w b off N f) (hv : Nums f) (hp : PRow w ao n g) (hg : Nums g) :
    Calls Tryd.prog 26 #[.slice (some ⟨b, off, none⟩) N cap, .slice ao n cap2] w fun e w' => e = .returned (.tuple #[.int .u64 (ofK (evS (fun j => kk (f j)) (fun j => kk (g j)) n)), .int .i64 0]) ∧ Below w.heap.size w w' := by
  have hN1 : 1 ≤ N := by rw [hN]; exact Nat.one_le_two_pow
  have hN2 : N ≤ 256 := by rw [hN]; exact pow_256 hn
  have HVA := hid (vars_ok (some ⟨b, off, none⟩) n N cap w hn hN ht)
  have HR := hid hr
  have HG := hid hg
  have HP := hid hp
  have HF0 := hid (Folded.start (g := g) hN hv)
  have HLT := hid (hr.lt hN1)
  clear ht hr hv hp hg hN
  go_enter Tryd.func26, Tryd.ntmps26
  go_wp2_with (go_at_call 37; refine (HVA.out).mono ?_; rintro e w' ⟨rfl, hw⟩; obtain rfl := hw.symm)
  clear HVA
  go_loopg [0, 24] n (fun q t i wr => ∃ (k M bk ok ck : Nat) (h : Nat → Int), k ≤ n ∧ q = n - k ∧ i = .int .i64 (k : Int) ∧ t = .slice (some ⟨bk, ok, none⟩) M ck ∧ 1 ≤ M ∧ M ≤ 256 ∧ Hid (Folded f g n k M h) ∧ Hid (Row wr bk ok M h) ∧ Hid (Below w.heap.size w wr))
  case atStart => exact ⟨0, N, b, off, cap, f, by omega, rfl, rfl, rfl, hN1, hN2, HF0, HR, hid (Below.refl _ _)⟩
  case round =>
    clear HR HF0
    obtain ⟨k, M, bk, ok, ck, h, hk, rfl, rfl, rfl, hM1, hM2, HF, HRk, HB⟩ := hrel
    by_cases hlt : k < n
    · obtain ⟨b2, off2, rfl, hr2⟩ := HP.out (by omega)
      obtain ⟨H, rfl, hH1⟩ := half_of hlt HF.out.1
      have c1 := (hr2.kept HB.out (hr2.lt (by omega))) k hlt
      clear hr2
      obtain ⟨x, hx⟩ : ∃ x, g k = x := ⟨_, rfl⟩
      have bx := HG.out k
      rw [hx] at c1 bx
      obtain ⟨x0, x1⟩ := bx
      have HX := hid hx
      clear hx
      have HFO := hid (fold_any bk ok H ck h x wr hH1 (by omega) HRk.out HF.out.2.1 x0 x1)
      have k0 : (0 : Int) ≤ (k : Int) := by omega
      have k1 : (k : Int) < (n : Int) := by omega
      go_wp2_with (go_at_call 56; refine (HFO.out).mono ?_; rintro e w1 ⟨rfl, hm⟩; have HM := hid hm; clear hm)
      go_roundg (n - (k + 1))
      case measure => go_light; omega
      case rel => exact ⟨k + 1, H, wr.heap.size, 0, H, _, by omega, rfl, by go_num, rfl, hH1, by omega, hid (HF.out.next hlt HX.out), hid HM.out.row, hid (HB.out.trans (HM.out.below.mono HB.out.size))⟩
    · have e : k = n := by omega
      subst e
      have c1 := HRk.out 0 (by omega)
      rw [Nat.add_zero] at c1
      obtain ⟨y, hy⟩ : ∃ y, h 0 = y := ⟨_, rfl⟩
      have by1 := HF.out.2.1 0
      have hd := HF.out.done
      rw [hy] at c1 by1 hd
      obtain ⟨y0, y1⟩ := by1
      have HD := hid hd
      clear hy hd
      have m1 : (0 : Int) < (M : Int) := by omega
      go_wp2_with (go_at_call 16; refine (norm_any _ _ (by omega) (by omega)).mono ?_; rintro e w' ⟨rfl, hw⟩; obtain rfl := hw.symm)
      go_ret2
      exact ⟨by rw [← HD.out]; rfl, HB.out⟩

end Go.Proofs.YtnnjajmkfgnhcaaDoor
