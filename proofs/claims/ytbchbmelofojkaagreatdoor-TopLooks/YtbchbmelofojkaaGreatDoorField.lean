/-
  Contracts of package field's functions, each for every input: Pow and Inv answer the rests by 2^61 - 1 that the functions of the text Ops tell, and leave the world as it was.
-/
import Derived.Test.YtbchbmelofojkaaGreatDoorChecked
import Derived.Test.YtbchbmelofojkaaGreatDoorFieldA
import Derived.WalkKit
namespace Go.Proofs.YtbchbmelofojkaaGreatDoor
open Go.RowKit
set_option linter.unusedVariables false

set_option maxHeartbeats 1000000 in
theorem pow_any (a n : Int) (w : World) (h0 : 0 ≤ a) (h1 : a ≤ 18446744073709551615) (g0 : 0 ≤ n) (g1 : n ≤ 18446744073709551615) :
    Calls Tryz.prog 113 #[.int .u64 a, .int .u64 n] w fun e w' => e = .returned (.int .u64 (powQ a n.toNat)) ∧ w' = w := by
  obtain ⟨k0, rfl⟩ := Int.eq_ofNat_of_zero_le g0
  rw [Int.toNat_natCast]
  go_enter Tryz.func113, Tryz.ntmps113
  go_wp2_with fail
  go_loop [0, 1, 5] (fun x i r => ∃ (b t : Int) (k : Nat), x = .int .u64 b ∧ i = .int .u64 k ∧ r = .int .u64 t ∧ 0 ≤ b ∧ b ≤ 18446744073709551615 ∧ 0 ≤ t ∧ t ≤ 2305843009213693950 ∧ (k : Int) ≤ 18446744073709551615 ∧ Hid (kept t b k = powQ a k0)) (fun _ i _ => (intOf i).toNat)
  case atStart => exact ⟨a, 1, k0, rfl, rfl, rfl, h0, h1, by omega, by omega, g1, hid (kept_start a k0)⟩
  case round =>
    obtain ⟨b, t, k, rfl, rfl, rfl, b0, b1, t0, t1, hk, HK⟩ := hrel
    obtain ⟨s0, s1⟩ := mulQ_rng b b
    obtain ⟨u0, u1⟩ := mulQ_rng t b
    have hm := mask1 (k : Int) (by omega) hk
    by_cases hz : k = 0
    · subst hz
      go_wp2_with fail
      go_ret
      exact ⟨ret_u64 (by rw [← HK.out, kept_end t b t0 t1]), rfl⟩
    · by_cases h2 : k % 2 = 1
      · have hb : ((k : Int) % 2 == 1) = true := beq_iff_eq.2 (by omega)
        go_wp2_with (go_at_call 78; refine (mul_any _ _ _ (by omega) (by omega) (by omega) (by omega)).mono ?_; rintro e w' ⟨rfl, rfl⟩)
        go_round
        case rel => exact ⟨mulQ b b, mulQ t b, k / 2, rfl, by go_num, rfl, s0, by omega, u0, u1, by omega, hid (by rw [kept_odd t b k h2]; exact HK.out)⟩
        case measure => simp [intOf]; omega
      · have hb : ((k : Int) % 2 == 1) = false := beq_eq_false_iff_ne.2 (by omega)
        go_wp2_with (go_at_call 78; refine (mul_any _ _ _ (by omega) (by omega) (by omega) (by omega)).mono ?_; rintro e w' ⟨rfl, rfl⟩)
        go_round
        case rel => exact ⟨mulQ b b, t, k / 2, rfl, by go_num, rfl, s0, by omega, t0, t1, by omega, hid (by rw [kept_even t b k (by omega)]; exact HK.out)⟩
        case measure => simp [intOf]; omega

set_option maxHeartbeats 400000 in
theorem inv_zero (a : Int) (w : World) (h0 : 0 ≤ a) (h1 : a ≤ 18446744073709551615) (hz : nrm a = 0) :
    Calls Tryz.prog 79 #[.int .u64 a] w fun e w' => e = .returned (.tuple #[.int .u64 0, .int .i64 1]) ∧ w' = w := by
  have hb : (nrm a == 0) = true := beq_iff_eq.2 hz
  clear hz
  go_enter Tryz.func79, Tryz.ntmps79
  go_wp2_with (go_at_call 48; refine (norm_any _ _ (by omega) (by omega)).mono ?_; rintro e w' ⟨rfl, rfl⟩)
  go_ret2
  exact ⟨rfl, rfl⟩

set_option maxHeartbeats 400000 in
theorem inv_some (a : Int) (w : World) (h0 : 0 ≤ a) (h1 : a ≤ 18446744073709551615) (hz : nrm a ≠ 0) :
    Calls Tryz.prog 79 #[.int .u64 a] w fun e w' => e = .returned (.tuple #[.int .u64 (invQ a), .int .i64 0]) ∧ w' = w := by
  have hb : (nrm a == 0) = false := beq_eq_false_iff_ne.2 hz
  clear hz
  have hp := pow_any a 2305843009213693949 w h0 h1 (by omega) (by omega)
  have e1 : (2305843009213693949 : Int).toNat = 2305843009213693949 := rfl
  rw [e1] at hp
  have HP := hid hp
  clear hp e1
  go_enter Tryz.func79, Tryz.ntmps79
  go_wp2_with (first | (go_at_call 48; refine (norm_any _ _ (by omega) (by omega)).mono ?_; rintro e w' ⟨rfl, rfl⟩) | (go_at_call 113; refine (HP.out).mono ?_; rintro e w' ⟨rfl, rfl⟩))
  go_ret2
  exact ⟨rfl, rfl⟩

end Go.Proofs.YtbchbmelofojkaaGreatDoor
