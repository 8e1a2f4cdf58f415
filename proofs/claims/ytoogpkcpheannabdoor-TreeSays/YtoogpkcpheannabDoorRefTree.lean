/-
  Contracts of tallyref's Root, for every table, each for every input; they write nothing that was there.
-/
import Derived.Test.YtoogpkcpheannabDoorRefSpong3
import Derived.Test.YtoogpkcpheannabDoorTree
import Derived.Deep.RegionWith
namespace Go.Proofs.YtoogpkcpheannabDoor
open Go.RowKit
set_option linter.unusedVariables false
attribute [local go_sem ↓] Go.wp_at_zero Go.wp_at_succ

theorem Nums_part {f : Nat → Int} (h : Nums f) (k : Nat) : Nums (fun j => f (k + j)) := fun j => h _
theorem Row.half {w : World} {b off h : Nat} {f : Nat → Int} (r : Row w b off (2 * h) f) : Row w b off h f ∧ Row w b (off + h) h (fun j => f (h + j)) :=
  ⟨fun j hj => r j (by omega), fun j hj => by have := r (h + j) (by omega); rw [← Nat.add_assoc] at this; exact this⟩

theorem rpair_roots (n m : Nat) (F G : Nat → Int) (W : World) : Calls Tryd.prog 25 #[.int .u64 (rootQ n F), .int .u64 (rootQ m G)] W fun e w' => e = .returned (.int .u64 (prQ (rootQ n F) (rootQ m G))) ∧ Below W.heap.size W w' := by
  have r0 := rootQ_rng n F
  have r1 := rootQ_rng m G
  exact rpair_any _ _ W (by omega) (by omega) (by omega) (by omega)

set_option maxHeartbeats 1000000 in
set_option maxRecDepth 100000 in
theorem rroot_any (n : Nat) : ∀ (N b off cap : Nat) (f : Nat → Int) (w : World), n ≤ 8 → N = 2 ^ n → N ≤ cap → Row w b off N f → Nums f →
    Calls Tryd.prog 7 #[.slice (some ⟨b, off, none⟩) N cap] w fun e w' => e = .returned (.int .u64 (rootQ n f)) ∧ Below w.heap.size w w' := by
  induction n with
  | zero =>
    intro N b off cap f w _ hN hc hr hv
    have c0 := hr 0 (by omega)
    rw [Nat.add_zero] at c0
    have v0 := hv 0
    have he : prQ (f 0) 0 = rootQ 0 f := rfl
    obtain ⟨x, hx⟩ : ∃ x, f 0 = x := ⟨_, rfl⟩
    rw [hx] at c0 v0 he
    obtain ⟨v00, v01⟩ := v0
    have HE := hid he
    have hN1 : N = 1 := hN
    subst hN1
    clear hN hr hv hx he
    have HP := hid (rpair_any x 0 w (by omega) (by omega) (by omega) (by omega))
    go_enter Tryd.func7, Tryd.ntmps7
    go_wp2_with (go_at_call 25; refine (HP.out).mono ?_; rintro e w1 ⟨rfl, hb⟩; have HB := hid hb; clear hb)
    go_ret
    exact ⟨ret_u64 HE.out, HB.out⟩
  | succ n ih =>
    intro N b off cap f w hn hN hc hr hv
    obtain ⟨h, hh⟩ : ∃ h, 2 ^ n = h := ⟨_, rfl⟩
    have hN2 : N = 2 * h := by rw [hN, two_pow_succ, hh]; omega
    have hN8 : 2 ^ n ≤ 2 ^ 7 := Nat.pow_le_pow_right (by omega) (by omega)
    rw [hh] at hN8
    have h1 : 1 ≤ h := by rw [← hh]; exact Nat.one_le_two_pow
    subst hN2
    obtain ⟨hr1, hr2⟩ := hr.half
    have hlt := hr1.lt h1
    have HC := hid (fun (o m c : Nat) (W : World) (ho : off ≤ o) (ho2 : o ≤ off + h) (hm : m = h) (hc2 : m ≤ c) (hb : Below w.heap.size w W) => ih m b o c (fun j => f (o - off + j)) W (by omega) (by rw [hm, hh]) hc2 (fun j hj => by have := (hr.kept hb hlt) (o - off + j) (by omega); rw [show off + (o - off + j) = o + j from by omega] at this; exact this) (Nums_part hv _))
    have HE2 := hid (fun (F G : Nat → Int) (h1 : ∀ j, F j = f j) (h2 : ∀ j, G j = f (h + j)) => show prQ (rootQ n F) (rootQ n G) = rootQ (n + 1) f by rw [funext h1, funext h2, rootQ, hh])
    have hcn : ¬ cap = h := by omega
    have HP := hid (fun F G W => rpair_roots n n F G W)
    clear ih hr hv hr1 hr2 hN hn hh
    have i0 : (h : Int) ≤ (cap : Int) := by omega
    have i1 : (h : Int) ≤ ((2 * h : Nat) : Int) := by omega
    have i2 : (0 : Int) ≤ (h : Int) := by omega
    have e1 : (((2 * h : Nat) : Int) == 1) = false := beq_eq_false_iff_ne.2 (by omega)
    go_enter Tryd.func7, Tryd.ntmps7
    go_wp2_with fail
    have q2 : (2 * (h : Int)).tdiv 2 = (h : Int) := by rw [Int.mul_comm, Int.mul_tdiv_cancel _ (by omega)]
    have q3 : IntKind.i64.wrap (h : Int) = (h : Int) := IntWalk.i64_in _ (by omega)
    go_region_with (first
      | (go_at_call 7; refine (HC.out _ _ _ _ (by omega) (by omega) (by omega) (by omega) (by first | exact hb2 | exact Below.refl _ _ | exact (Below.refl _ w).drew)).mono ?_; rintro e w1 ⟨rfl, hb1⟩; have hb2 : Below w.heap.size w w1 := (by first | exact hb2.trans (hb1.mono hb2.size) | exact hb1 | exact (Below.refl _ w).drew.trans hb1); clear hb1)
      | (go_at_call 25; refine (HP.out _ _ _).mono ?_; rintro e w3 ⟨rfl, hb5⟩; have hb6 : Below w.heap.size w w3 := hb2.trans (hb5.mono hb2.size); clear hb5))
    all_goals (go_wp2_with fail)
    all_goals go_ret
    all_goals exact ⟨ret_u64 (HE2.out _ _ (fun j => by first | rfl | (congr 1; omega)) (fun j => by first | rfl | (congr 1; omega))), hb6⟩

end Go.Proofs.YtoogpkcpheannabDoor
