/-
  Contracts of package mle's Sum, and of Fix and Eval where they tell an error, each for every input; nothing is written.
-/
import Derived.Test.YtoogpkcpheannaaDoorMle
namespace Go.Proofs.YtoogpkcpheannaaDoor
open Go.RowKit
set_option linter.unusedVariables false
attribute [local go_sem ↓] Go.wp_at_zero Go.wp_at_succ

theorem sum_step (f : Nat → Int) (k : Nat) (z a : Int) (hz : z = ofK (sK (fun j => kk (f j)) k)) (ha : f k = a) : addQ z a = ofK (sK (fun j => kk (f j)) (k + 1)) := by
  rw [addQ_ofK, hz, kk_ofK, sK, ha]
set_option maxHeartbeats 2000000 in
set_option maxRecDepth 100000 in
theorem sum_ok (b off n N cap : Nat) (f : Nat → Int) (w : World) (hn : n ≤ 8) (hN : N = 2 ^ n) (ht : Tab w) (hr : Row w b off N f) (hv : Nums f) :
    Calls Tryd.prog 11 #[.slice (some ⟨b, off, none⟩) N cap] w fun e w' => e = .returned (.tuple #[.int .u64 (ofK (sK (fun j => kk (f j)) N)), .int .i64 0]) ∧ w' = w := by
  have hN2 : N ≤ 256 := by rw [hN]; exact pow_256 hn
  have HVA := hid (vars_ok (some ⟨b, off, none⟩) n N cap w hn hN ht)
  have HR := hid hr
  have HV := hid hv
  clear ht hr hv hN
  go_enter Tryd.func11, Tryd.ntmps11
  go_wp2_with (go_at_call 10; refine (HVA.out).mono ?_; rintro e w' ⟨rfl, hw⟩; obtain rfl := hw.symm)
  clear HVA
  go_loopg [6, 19] N (fun q o i wr => ∃ (k : Nat) (z : Int), k ≤ N ∧ q = N - k ∧ o = .int .u64 z ∧ i = .int .i64 (k : Int) ∧ 0 ≤ z ∧ z ≤ 2305843009213693950 ∧ Hid (z = ofK (sK (fun j => kk (f j)) k)) ∧ wr = w)
  case atStart => exact ⟨0, 0, by omega, rfl, rfl, rfl, by omega, by omega, hid rfl, rfl⟩
  case round =>
    obtain ⟨k, z, hk, rfl, rfl, rfl, z0, z1, HZ, hw⟩ := hrel
    obtain rfl := hw.symm
    by_cases hlt : k < N
    · have c1 := HR.out k hlt
      obtain ⟨a, ha⟩ : ∃ a, f k = a := ⟨_, rfl⟩
      have ba := HV.out k
      rw [ha] at c1 ba
      obtain ⟨a0, a1⟩ := ba
      have HA := hid ha
      clear ha
      have k0 : (0 : Int) ≤ (k : Int) := by omega
      have k1 : (k : Int) < (N : Int) := by omega
      go_wp2_with (go_at_call 29; refine (add_any _ _ _ (by omega) (by omega) (by omega) (by omega)).mono ?_; rintro e w' ⟨rfl, hw⟩; obtain rfl := hw.symm)
      go_roundg (N - (k + 1))
      case measure => go_light; omega
      case rel => exact ⟨k + 1, _, by omega, rfl, rfl, by go_num, (addQ_rng _ _).1, (addQ_rng _ _).2, hid (sum_step f k z a HZ.out HA.out), rfl⟩
    · have e : k = N := by omega
      subst e
      go_wp2_with fail
      go_ret2
      exact ⟨by rw [← HZ.out]; rfl, rfl⟩
set_option maxHeartbeats 400000 in
theorem sum_bad (ao : Option Addr) (N cap : Nat) (w : World) (h : ∀ n, n ≤ 8 → N ≠ 2 ^ n) (hmax : N ≤ maxLen) :
    Calls Tryd.prog 11 #[.slice ao N cap] w fun e w' => e = .returned (.tuple #[.int .u64 0, .int .i64 4]) ∧ w' = w := by
  have HC := hid (fun w => vars_bad ao N cap w h hmax)
  clear h hmax
  go_enter Tryd.func11, Tryd.ntmps11
  go_wp2_with (go_at_call 10; refine (HC.out _).mono ?_; rintro e w' ⟨rfl, hw⟩; obtain rfl := hw.symm)
  go_ret2
  exact ⟨rfl, rfl⟩
set_option maxHeartbeats 400000 in
theorem fix_bad (ao : Option Addr) (N cap : Nat) (x : Int) (w : World) (h : ∀ n, n ≤ 8 → N ≠ 2 ^ n) (hmax : N ≤ maxLen) :
    Calls Tryd.prog 12 #[.slice ao N cap, .int .u64 x] w fun e w' => e = .returned (.tuple #[.slice none 0 0, .int .i64 4]) ∧ w' = w := by
  have HC := hid (fun w => vars_bad ao N cap w h hmax)
  clear h hmax
  go_enter Tryd.func12, Tryd.ntmps12
  go_wp2_with (go_at_call 10; refine (HC.out _).mono ?_; rintro e w' ⟨rfl, hw⟩; obtain rfl := hw.symm)
  go_ret2
  exact ⟨rfl, rfl⟩
set_option maxHeartbeats 400000 in
theorem fix_none (ao : Option Addr) (cap : Nat) (x : Int) (w : World) (ht : Tab w) :
    Calls Tryd.prog 12 #[.slice ao 1 cap, .int .u64 x] w fun e w' => e = .returned (.tuple #[.slice none 0 0, .int .i64 4]) ∧ w' = w := by
  have HC := hid (vars_ok ao 0 1 cap w (by omega) rfl ht)
  clear ht
  go_enter Tryd.func12, Tryd.ntmps12
  go_wp2_with (go_at_call 10; refine (HC.out).mono ?_; rintro e w' ⟨rfl, hw⟩; obtain rfl := hw.symm)
  go_ret2
  exact ⟨rfl, rfl⟩
set_option maxHeartbeats 400000 in
theorem eval_bad (ao a2 : Option Addr) (N cap n2 cap2 : Nat) (w : World) (h : ∀ n, n ≤ 8 → N ≠ 2 ^ n) (hmax : N ≤ maxLen) :
    Calls Tryd.prog 13 #[.slice ao N cap, .slice a2 n2 cap2] w fun e w' => e = .returned (.tuple #[.int .u64 0, .int .i64 4]) ∧ w' = w := by
  have HC := hid (fun w => vars_bad ao N cap w h hmax)
  clear h hmax
  go_enter Tryd.func13, Tryd.ntmps13
  go_wp2_with (go_at_call 10; refine (HC.out _).mono ?_; rintro e w' ⟨rfl, hw⟩; obtain rfl := hw.symm)
  go_ret2
  exact ⟨rfl, rfl⟩
set_option maxHeartbeats 400000 in
theorem eval_arg (ao a2 : Option Addr) (n N cap n2 cap2 : Nat) (w : World) (hn : n ≤ 8) (hN : N = 2 ^ n) (ht : Tab w) (h : n2 ≠ n) :
    Calls Tryd.prog 13 #[.slice ao N cap, .slice a2 n2 cap2] w fun e w' => e = .returned (.tuple #[.int .u64 0, .int .i64 1]) ∧ w' = w := by
  have HC := hid (vars_ok ao n N cap w hn hN ht)
  have hb : ((n2 : Int) != (n : Int)) = true := bne_iff_ne.2 (by omega)
  clear ht h hN
  go_enter Tryd.func13, Tryd.ntmps13
  go_wp2_with (go_at_call 10; refine (HC.out).mono ?_; rintro e w' ⟨rfl, hw⟩; obtain rfl := hw.symm)
  go_ret2
  exact ⟨rfl, rfl⟩

end Go.Proofs.YtoogpkcpheannaaDoor
