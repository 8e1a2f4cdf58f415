/-
  Contracts of the document's own answer on numbers (package tallyref: Inv of a number whose rest is not 0), each for every input: they answer what the functions of the text Ops tell, and leave the world as it was.
-/
import Derived.Test.YtoogpkcpheannabChecked
import Derived.Test.YtoogpkcpheannabRefA
import Derived.WalkKit
namespace Go.Proofs.Ytoogpkcpheannab
open Go.RowKit
set_option linter.unusedVariables false

set_option maxHeartbeats 1000000 in
theorem rinv_any (a : Int) (w : World) (h0 : 0 ≤ a) (h1 : a ≤ 18446744073709551615) (hz : nrm a ≠ 0) :
    Calls Try.prog 39 #[.int .u64 a] w fun e w' => e = .returned (.int .u64 (invQ a)) ∧ w' = w := by
  have HZ := hid hz
  clear hz
  go_enter Try.func39, Try.ntmps39
  go_wp2_with fail
  go_loop [3, 4, 5, 6] (fun r m x t => ∃ (R M : Nat) (X T : Int), r = .int .u64 R ∧ m = .int .u64 M ∧ x = .int .u64 X ∧ t = .int .u64 T ∧ R ≤ 2305843009213693951 ∧ M ≤ 2305843009213693951 ∧ 0 ≤ X ∧ X ≤ 2305843009213693950 ∧ 0 ≤ T ∧ T ≤ 2305843009213693950 ∧ Hid (Nat.gcd R M = 1) ∧ Hid (mulQ X a = nrm R) ∧ Hid (mulQ T a = nrm M)) (fun _ m _ _ => (intOf m).toNat)
  case atStart =>
    obtain ⟨r0, r1⟩ := nrm_rng a
    refine ⟨2305843009213693951, (nrm a).toNat, 0, 1, rfl, ?_, rfl, rfl, by omega, by omega, by omega, by omega, by omega, by omega, hid (coprimeQ a h0 HZ.out), hid ?_, hid ?_⟩
    · rw [Int.toNat_of_nonneg r0]; rfl
    · rw [mulQ_comm, mulQ_zero]; rfl
    · rw [Int.toNat_of_nonneg r0, mulQ_comm, mulQ_one, nrm_in r0 r1]
  case round =>
    obtain ⟨R, M, X, T, rfl, rfl, rfl, rfl, hR, hM, x0, x1, t0, t1, HG, HX, HT⟩ := hrel
    by_cases hm : M = 0
    · subst hm
      go_wp2_with fail
      go_ret
      refine ⟨ret_u64 (inv_only a X h0 HZ.out x0 x1 ?_), rfl⟩
      have e := HG.out
      rw [Nat.gcd_zero_right] at e
      rw [HX.out, e]; rfl
    · have hb : ((M : Int) != 0) = true := by rw [bne_iff_ne]; omega
      obtain ⟨d0, d1, d2, d3⟩ := quo_rng R M hR
      have hm1 : (1 : Int) ≤ (M : Int) := by omega
      obtain ⟨u0, u1⟩ := mulQ_rng ((R : Int) / (M : Int)) T
      obtain ⟨v0, v1⟩ := subQ_rng X (mulQ ((R : Int) / (M : Int)) T)
      have hlt : R % M < M := Nat.mod_lt R (by omega)
      go_wp2_with (first | (go_at_call 33; refine (rmul_any _ _ _ (by omega) (by omega) (by omega) (by omega)).mono ?_; rintro e w' ⟨rfl, rfl⟩) | (go_at_call 38; refine (rsub_any _ _ _ (by omega) (by omega) (by omega) (by omega)).mono ?_; rintro e w' ⟨rfl, rfl⟩))
      go_round
      case rel => exact ⟨M, R % M, T, _, rfl, by rw [rest_cast], rfl, rfl, by omega, by omega, t0, t1, v0, v1, hid (gcd_step R M HG.out), HT, hid (euclid_step a X T R M HX.out HT.out)⟩
      case measure => simp only [intOf]; rw [rest_cast]; omega

end Go.Proofs.Ytoogpkcpheannab
