/-
  Contracts of the document's own answer on numbers (package tallyref: Norm, Add, Sub, Mul, Pow, and Inv of a number whose rest is not 0), each for every input: they answer what the functions of the text Ops tell, and leave the world as it was.
-/
import Derived.Test.YtllkhahhmnaamaaChecked
import Derived.Test.YtllkhahhmnaamaaOps
import Derived.WalkKit
namespace Go.Proofs.Ytllkhahhmnaamaa
open Go.RowKit
set_option linter.unusedVariables false

set_option maxHeartbeats 400000 in
theorem rnorm_any (a : Int) (w : World) (h0 : 0 ≤ a) (h1 : a ≤ 18446744073709551615) :
    Calls Try.prog 7 #[.int .u64 a] w fun e w' => e = .returned (.int .u64 (nrm a)) ∧ w' = w := by
  go_enter Try.func7, Try.ntmps7
  go_wp2
  go_ret
  exact ⟨rfl, rfl⟩

set_option maxHeartbeats 400000 in
theorem radd_any (a b : Int) (w : World) (h0 : 0 ≤ a) (h1 : a ≤ 18446744073709551615) (g0 : 0 ≤ b) (g1 : b ≤ 18446744073709551615) :
    Calls Try.prog 11 #[.int .u64 a, .int .u64 b] w fun e w' => e = .returned (.int .u64 (addQ a b)) ∧ w' = w := by
  go_enter Try.func11, Try.ntmps11
  go_wp2
  go_ret
  exact ⟨ret_u64 (by unfold addQ; rw [Q_eq]; omega), rfl⟩

set_option maxHeartbeats 400000 in
theorem rsub_any (a b : Int) (w : World) (h0 : 0 ≤ a) (h1 : a ≤ 18446744073709551615) (g0 : 0 ≤ b) (g1 : b ≤ 18446744073709551615) :
    Calls Try.prog 13 #[.int .u64 a, .int .u64 b] w fun e w' => e = .returned (.int .u64 (subQ a b)) ∧ w' = w := by
  go_enter Try.func13, Try.ntmps13
  go_wp2
  go_ret
  exact ⟨ret_u64 (by unfold subQ; rw [Q_eq]; omega), rfl⟩

set_option maxHeartbeats 1000000 in
theorem rmul_any (a b : Int) (w : World) (h0 : 0 ≤ a) (h1 : a ≤ 18446744073709551615) (g0 : 0 ≤ b) (g1 : b ≤ 18446744073709551615) :
    Calls Try.prog 15 #[.int .u64 a, .int .u64 b] w fun e w' => e = .returned (.int .u64 (mulQ a b)) ∧ w' = w := by
  go_enter Try.func15, Try.ntmps15
  go_wp2_with fail
  go_loop [5, 6] (fun o i => ∃ (t : Int) (k : Nat), o = .int .u64 t ∧ i = .int .i64 ((k : Int) - 1) ∧ k ≤ 61 ∧ 0 ≤ t ∧ t ≤ 2305843009213693950 ∧ Hid (t = mulQ a (b % 2305843009213693951 / 2 ^ k))) (fun _ i => (intOf i + 1).toNat)
  case atStart => exact ⟨0, 61, rfl, rfl, by omega, by omega, by omega, hid (by rw [show b % 2305843009213693951 / 2 ^ 61 = 0 from by omega, mulQ_zero])⟩
  case round =>
    obtain ⟨t, k, rfl, rfl, hk, t0, t1, HT⟩ := hrel
    by_cases hz : k = 0
    · subst hz
      go_wp2_with fail
      go_ret
      exact ⟨ret_u64 (by rw [HT.out, Int.pow_zero, Int.ediv_one]; exact mulQ_nrm_r a b), rfl⟩
    · obtain ⟨j, rfl⟩ : ∃ j, k = j + 1 := ⟨k - 1, by omega⟩
      obtain ⟨q0, q1⟩ := shr_rng (b % 2305843009213693951) j (by omega)
      by_cases hb : b % 2305843009213693951 / 2 ^ j % 2 = 1
      · have hb' : (b % 2305843009213693951 / 2 ^ j % 2 == 1) = true := beq_iff_eq.2 hb
        have HB := hid hb
        clear hb
        go_wp2_with fail
        go_round
        case rel => exact ⟨_, j, rfl, rfl, by omega, by omega, by omega, hid (by rw [HT.out]; exact mul_bit1 a _ j HB.out)⟩
        case measure => simp [intOf]
      · have hb' : (b % 2305843009213693951 / 2 ^ j % 2 == 1) = false := beq_eq_false_iff_ne.2 hb
        have HB := hid hb
        clear hb
        go_wp2_with fail
        go_round
        case rel => exact ⟨_, j, rfl, rfl, by omega, by omega, by omega, hid (by rw [HT.out]; exact mul_bit0 a _ j (by have := HB.out; omega))⟩
        case measure => simp [intOf]

set_option maxHeartbeats 1000000 in
theorem rpow_any (a n : Int) (w : World) (h0 : 0 ≤ a) (h1 : a ≤ 18446744073709551615) (g0 : 0 ≤ n) (g1 : n ≤ 18446744073709551615) :
    Calls Try.prog 17 #[.int .u64 a, .int .u64 n] w fun e w' => e = .returned (.int .u64 (powQ a n.toNat)) ∧ w' = w := by
  obtain ⟨m, rfl⟩ := Int.eq_ofNat_of_zero_le g0
  rw [Int.toNat_natCast]
  go_enter Try.func17, Try.ntmps17
  go_wp2_with fail
  go_loop [5, 6] (fun o i => ∃ (t : Int) (k : Nat), o = .int .u64 t ∧ i = .int .i64 ((k : Int) - 1) ∧ k ≤ 64 ∧ 0 ≤ t ∧ t ≤ 2305843009213693950 ∧ Hid (t = powQ a (m / 2 ^ k))) (fun _ i => (intOf i + 1).toNat)
  case atStart => exact ⟨1, 64, rfl, rfl, by omega, by omega, by omega, hid (by rw [show m / 2 ^ 64 = 0 from by omega, powQ_zero])⟩
  case round =>
    obtain ⟨t, k, rfl, rfl, hk, t0, t1, HT⟩ := hrel
    obtain ⟨s0, s1⟩ := mulQ_rng t t
    by_cases hz : k = 0
    · subst hz
      go_wp2_with fail
      go_ret
      exact ⟨ret_u64 (by rw [HT.out, Nat.pow_zero, Nat.div_one]), rfl⟩
    · obtain ⟨j, rfl⟩ : ∃ j, k = j + 1 := ⟨k - 1, by omega⟩
      obtain ⟨q0, q1⟩ := shr_rng (m : Int) j (by omega)
      obtain ⟨v0, v1⟩ := mulQ_rng (mulQ t t) a
      by_cases hb : (m : Int) / 2 ^ j % 2 = 1
      · have hb' : ((m : Int) / 2 ^ j % 2 == 1) = true := beq_iff_eq.2 hb
        have HB := hid hb
        clear hb
        go_wp2_with (go_at_call 15; refine (rmul_any _ _ _ (by omega) (by omega) (by omega) (by omega)).mono ?_; rintro e w' ⟨rfl, rfl⟩)
        go_round
        case rel => exact ⟨_, j, rfl, rfl, by omega, v0, v1, hid (by rw [HT.out]; exact pow_bit1 a m j (bit_cast m j HB.out))⟩
        case measure => simp [intOf]
      · have hb' : ((m : Int) / 2 ^ j % 2 == 1) = false := beq_eq_false_iff_ne.2 hb
        have HB := hid hb
        clear hb
        go_wp2_with (go_at_call 15; refine (rmul_any _ _ _ (by omega) (by omega) (by omega) (by omega)).mono ?_; rintro e w' ⟨rfl, rfl⟩)
        go_round
        case rel => exact ⟨_, j, rfl, rfl, by omega, s0, s1, hid (by rw [HT.out]; exact pow_bit0 a m j (bit_cast0 m j HB.out))⟩
        case measure => simp [intOf]

set_option maxHeartbeats 1000000 in
theorem rinv_any (a : Int) (w : World) (h0 : 0 ≤ a) (h1 : a ≤ 18446744073709551615) (hz : nrm a ≠ 0) :
    Calls Try.prog 8 #[.int .u64 a] w fun e w' => e = .returned (.int .u64 (invQ a)) ∧ w' = w := by
  have HZ := hid hz
  clear hz
  go_enter Try.func8, Try.ntmps8
  go_wp2_with fail
  go_loop [3, 4, 5, 6] (fun r m x t => ∃ (R M : Nat) (X T : Int), r = .int .u64 R ∧ m = .int .u64 M ∧ x = .int .u64 X ∧ t = .int .u64 T ∧ R ≤ 2305843009213693951 ∧ M ≤ 2305843009213693951 ∧ 0 ≤ X ∧ X ≤ 2305843009213693950 ∧ 0 ≤ T ∧ T ≤ 2305843009213693950 ∧ Hid (Nat.gcd R M = 1) ∧ Hid (mulQ X a = nrm R) ∧ Hid (mulQ T a = nrm M)) (fun _ m _ _ => (intOf m).toNat)
  case atStart =>
    obtain ⟨r0, r1⟩ := nrm_rng a
    refine ⟨2305843009213693951, (nrm a).toNat, 0, 1, rfl, ?_, rfl, rfl, by omega, by omega, by omega, by omega, by omega, by omega, hid (coprimeQ a h0 HZ.out), hid ?_, hid ?_⟩
    · rw [Int.toNat_of_nonneg r0]; rfl
    · rw [mulQ_comm, mulQ_zero]; rfl
    · rw [Int.toNat_of_nonneg r0, mulQ_comm, mulQ_one, nrm_in r0 r1]
  case round =>
    obtain ⟨R, M, X, T, rfl, rfl, rfl, rfl, hR, hM, x0, x1, t0, t1, HG, HX, HT⟩ := hrel
    by_cases hm : M = 0
    · subst hm
      go_wp2_with fail
      go_ret
      refine ⟨ret_u64 (inv_only a X h0 HZ.out x0 x1 ?_), rfl⟩
      have e := HG.out
      rw [Nat.gcd_zero_right] at e
      rw [HX.out, e]; rfl
    · have hb : ((M : Int) != 0) = true := by rw [bne_iff_ne]; omega
      obtain ⟨d0, d1, d2, d3⟩ := quo_rng R M hR
      have hm1 : (1 : Int) ≤ (M : Int) := by omega
      obtain ⟨u0, u1⟩ := mulQ_rng ((R : Int) / (M : Int)) T
      obtain ⟨v0, v1⟩ := subQ_rng X (mulQ ((R : Int) / (M : Int)) T)
      have hlt : R % M < M := Nat.mod_lt R (by omega)
      go_wp2_with (first | (go_at_call 15; refine (rmul_any _ _ _ (by omega) (by omega) (by omega) (by omega)).mono ?_; rintro e w' ⟨rfl, rfl⟩) | (go_at_call 13; refine (rsub_any _ _ _ (by omega) (by omega) (by omega) (by omega)).mono ?_; rintro e w' ⟨rfl, rfl⟩))
      go_round
      case rel => exact ⟨M, R % M, T, _, rfl, by rw [rest_cast], rfl, rfl, by omega, by omega, t0, t1, v0, v1, hid (gcd_step R M HG.out), HT, hid (euclid_step a X T R M HX.out HT.out)⟩
      case measure => simp only [intOf]; rw [rest_cast]; omega

end Go.Proofs.Ytllkhahhmnaamaa
