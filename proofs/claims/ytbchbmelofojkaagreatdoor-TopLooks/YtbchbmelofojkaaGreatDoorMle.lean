/-
  Contracts of package mle's Vars, Sum, fold, Fix and Eval, each for every input; they make new rows and write nothing that was there.
-/
import Derived.Test.YtbchbmelofojkaaGreatDoorChecked
import Derived.Test.YtbchbmelofojkaaGreatDoorMulti
import Derived.Test.YtbchbmelofojkaaGreatDoorOwn
import Derived.Test.YtbchbmelofojkaaGreatDoorFieldA
import Derived.Test.YtbchbmelofojkaaGreatDoorBits
import Derived.WalkKit
import Derived.Deep.RegionHeld3
import Derived.Deep.RegionWith
import Derived.Deep.OwnRows
import Derived.Deep.LoopGhost
import Derived.Deep.Light
import Derived.Deep.DrawnRows
namespace Go.Proofs.YtbchbmelofojkaaGreatDoor
open Go.RowKit
set_option linter.unusedVariables false
attribute [local go_sem ↓] Go.wp_at_zero Go.wp_at_succ

theorem Tryz.infoM : (Tryz.prog.info? 31).map (fun i => (i.zero, i.size, i.bytes)) = some (some (.int .u64 0), 1, 8) := by kernel_rfl

theorem isPow_pow (n : Nat) (h : n ≤ 8) : isPow (2 ^ n) = true := by
  obtain rfl | rfl | rfl | rfl | rfl | rfl | rfl | rfl | rfl : n = 0 ∨ n = 1 ∨ n = 2 ∨ n = 3 ∨ n = 4 ∨ n = 5 ∨ n = 6 ∨ n = 7 ∨ n = 8 := by omega
  all_goals rfl
theorem isPow_back (N : Nat) (h : isPow N = true) : ∃ n, n ≤ 8 ∧ N = 2 ^ n := by
  simp only [isPow, Bool.or_eq_true, beq_iff_eq] at h
  rcases h with (((((((h | h) | h) | h) | h) | h) | h) | h) | h
  · exact ⟨0, by omega, h⟩
  · exact ⟨1, by omega, h⟩
  · exact ⟨2, by omega, h⟩
  · exact ⟨3, by omega, h⟩
  · exact ⟨4, by omega, h⟩
  · exact ⟨5, by omega, h⟩
  · exact ⟨6, by omega, h⟩
  · exact ⟨7, by omega, h⟩
  · exact ⟨8, by omega, h⟩
theorem pow_up {i n : Nat} (h : i ≤ n) : 2 ^ i ≤ 2 ^ n := Nat.pow_le_pow_right (by omega) h
theorem pow_256 {n : Nat} (h : n ≤ 8) : 2 ^ n ≤ 256 := pow_up (n := 8) h

set_option maxHeartbeats 1000000 in
theorem vars_ok (ao : Option Addr) (n N cap : Nat) (w : World) (hn : n ≤ 8) (hN : N = 2 ^ n) (ht : Tab w) :
    Calls Tryz.prog 39 #[.slice ao N cap] w fun e w' => e = .returned (.tuple #[.int .i64 (n : Int), .int .i64 0]) ∧ w' = w := by
  have h256 : N ≤ 256 := by rw [hN]; exact pow_256 hn
  have hp : popQ (N : Int) = 1 := by
    have := pop_small N h256
    rw [hN, isPow_pow n hn, ← hN] at this
    exact beq_iff_eq.1 this
  have hb : (popQ (N : Int) != 1) = false := by rw [hp]; rfl
  have hw : IntKind.u64.wrap (N : Int) = (N : Int) := by rw [IntKind.wrap_u64]; omega
  have HZ := hid (tz_pow n (N : Int) w hn (by rw [hN]; simp) ht)
  clear hp hN ht
  go_enter Tryz.func39, Tryz.ntmps39
  go_wp2_with (first | (go_at_call 74; refine (ones_any _ _ (by omega) (by omega)).mono ?_; rintro e w' ⟨rfl, hw⟩; obtain rfl := hw.symm) | (go_at_call 75; refine (HZ.out).mono ?_; rintro e w' ⟨rfl, hw⟩; obtain rfl := hw.symm))
  go_ret2
  exact ⟨rfl, rfl⟩
set_option maxHeartbeats 1000000 in
theorem vars_bad (ao : Option Addr) (N cap : Nat) (w : World) (h : ∀ n, n ≤ 8 → N ≠ 2 ^ n) (hmax : N ≤ maxLen) :
    Calls Tryz.prog 39 #[.slice ao N cap] w fun e w' => e = .returned (.tuple #[.int .i64 0, .int .i64 4]) ∧ w' = w := by
  have hmax' : N ≤ 9223372036854775807 := hmax
  have hw : IntKind.u64.wrap (N : Int) = (N : Int) := by rw [IntKind.wrap_u64]; omega
  by_cases h1 : popQ (N : Int) = 1
  · have h2 : 256 < N := by
      by_cases h3 : N ≤ 256
      · have := pop_small N h3
        rw [h1] at this
        obtain ⟨n, hn, e⟩ := isPow_back N this.symm
        exact absurd e (h n hn)
      · omega
    have hb : (popQ (N : Int) != 1) = false := by rw [h1]; rfl
    clear h h1
    go_enter Tryz.func39, Tryz.ntmps39
    go_wp2_with (go_at_call 74; refine (ones_any _ _ (by omega) (by omega)).mono ?_; rintro e w' ⟨rfl, hw⟩; obtain rfl := hw.symm)
    go_ret2
    exact ⟨rfl, rfl⟩
  · have hb : (popQ (N : Int) != 1) = true := bne_iff_ne.2 h1
    clear h h1
    go_enter Tryz.func39, Tryz.ntmps39
    go_wp2_with (go_at_call 74; refine (ones_any _ _ (by omega) (by omega)).mono ?_; rintro e w' ⟨rfl, hw⟩; obtain rfl := hw.symm)
    go_ret2
    exact ⟨rfl, rfl⟩

/-- What fold leaves at b; h: half of the places. -/
def fldF (f : Nat → Int) (h : Nat) (x : Int) (b : Nat) : Int := addQ (f b) (mulQ x (subQ (f (h + b)) (f b)))
theorem kk_fldF (f : Nat → Int) (h : Nat) (x : Int) (b : Nat) : kk (fldF f h x b) = foldK (fun j => kk (f j)) h (kk x) b := by
  unfold fldF foldK; rw [kk_addQ, kk_mulQ, kk_subQ]
theorem fld_step (f : Nat → Int) (h : Nat) (x a c : Int) (k j : Nat) (ha : f k = a) (hc : f (h + k) = c) : (if j = k then addQ a (mulQ x (subQ c a)) else if j < k then fldF f h x j else 0) = if j < k + 1 then fldF f h x j else 0 := by
  by_cases e : j = k
  · subst e
    rw [if_pos rfl, if_pos (by omega), fldF, ha, hc]
  · rw [if_neg e]
    by_cases h2 : j < k
    · rw [if_pos h2, if_pos (by omega)]
    · rw [if_neg h2, if_neg (by omega)]
theorem Nums_fld (f : Nat → Int) (h : Nat) (x : Int) : Nums (fldF f h x) := fun j => by
  have := addQ_rng (f j) (mulQ x (subQ (f (h + j)) (f j)))
  unfold fldF
  omega

set_option maxHeartbeats 4000000 in
set_option maxRecDepth 100000 in
theorem fold_any (b off h cap : Nat) (f : Nat → Int) (x : Int) (w : World) (hh1 : 1 ≤ h) (hh : h ≤ 1000) (hr : Row w b off (2 * h) f) (hv : Nums f) (x0 : 0 ≤ x) (x1 : x ≤ 18446744073709551615) :
    Calls Tryz.prog 40 #[.slice (some ⟨b, off, none⟩) (2 * h) cap, .int .u64 x] w fun e w' => e = .returned (.slice (some ⟨w.heap.size, 0, none⟩) h h) ∧ Made w w' h (fldF f h x) := by
  have HR := hid hr
  have HV := hid hv
  clear hr hv
  have hmk := run_make_row' (P := Tryz.prog) 22 31 (.int .u64 0) 8 Tryz.underlying22 Tryz.infoM rfl .i64 .i64 h (by omega) (by omega)
  go_enter Tryz.func40, Tryz.ntmps40
  go_wp2_with fail
  clear hmk
  go_loopg [15] h (fun g i wr => ∃ k : Nat, k ≤ h ∧ g = h - k ∧ i = .int .i64 (k : Int) ∧ Hid (Made w wr h (fun j => if j < k then fldF f h x j else 0)))
  case atStart => exact ⟨0, by omega, rfl, rfl, hid ((Made.start w h 31).congr fun j _ => by rw [if_neg (by omega)])⟩
  case round =>
    obtain ⟨k, hk, rfl, rfl, HM⟩ := hrel
    by_cases hlt : k < h
    · have c1 := HM.out.old HR.out k (by omega)
      have c2 := HM.out.old HR.out (h + k) (by omega)
      have c3 := HM.out.cell k hlt
      have f3 := HM.out.frozen k hlt
      rw [if_neg (by omega)] at c3
      obtain ⟨a, ha⟩ : ∃ a, f k = a := ⟨_, rfl⟩
      obtain ⟨c, hc⟩ : ∃ c, f (h + k) = c := ⟨_, rfl⟩
      have ba := HV.out k
      have bc := HV.out (h + k)
      rw [ha] at c1 ba
      rw [hc] at c2 bc
      obtain ⟨a0, a1⟩ := ba
      obtain ⟨d0, d1⟩ := bc
      have HA := hid ha
      have HC := hid hc
      clear ha hc
      obtain ⟨s0, s1⟩ := subQ_rng c a
      obtain ⟨m0, m1⟩ := mulQ_rng x (subQ c a)
      have k0 : (0 : Int) ≤ (k : Int) := by omega
      have k1 : (k : Int) < (h : Int) := by omega
      have k2 : (k : Int) < ((2 * h : Nat) : Int) := by omega
      have k3 : (0 : Int) ≤ (h : Int) + (k : Int) := by omega
      have k4 : (h : Int) + (k : Int) < ((2 * h : Nat) : Int) := by omega
      have k5 : (h : Int) + (k : Int) < 2 * (h : Int) := by omega
      have k6 : (k : Int) < 2 * (h : Int) := by omega
      have k7 : h + k < 2 * h := by omega
      have k8 : k < 2 * h := by omega
      have k9 : ((h : Int) + (k : Int)).toNat = h + k := by omega
      have ka : ¬ ((h : Int) + (k : Int) < 0) := by omega
      have wr1 : IntKind.i64.wrap ((h : Int) + (k : Int)) = (h : Int) + (k : Int) := IntWalk.i64_in _ (by omega)
      go_wp2_with fail
      go_region_with (first | (go_at_call 76; refine (sub_any _ _ _ (by omega) (by omega) (by omega) (by omega)).mono ?_; rintro e w' ⟨rfl, hw⟩; obtain rfl := hw.symm))
      all_goals (go_wp2_with fail)
      all_goals (go_region_with (first | (go_at_call 78; refine (mul_any _ _ _ (by omega) (by omega) (by omega) (by omega)).mono ?_; rintro e w' ⟨rfl, hw⟩; obtain rfl := hw.symm) | (go_at_call 77; refine (add_any _ _ _ (by omega) (by omega) (by omega) (by omega)).mono ?_; rintro e w' ⟨rfl, hw⟩; obtain rfl := hw.symm)))
      all_goals (go_wp2_with fail)
      all_goals (go_roundg (h - (k + 1)))
      all_goals first | (go_light; omega) | skip
      all_goals exact ⟨k + 1, by omega, rfl, by go_num, hid (((HM.out.drew.store k _ hlt).congr fun j _ => fld_step f h x a c k j HA.out HC.out).drew)⟩
    · have e : k = h := by omega
      subst e
      go_wp2_with fail
      go_ret
      exact ⟨rfl, HM.out.congr fun j hj => by rw [if_pos hj]⟩

end Go.Proofs.YtbchbmelofojkaaGreatDoor
