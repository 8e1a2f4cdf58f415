/-
  Contracts of the document's own answer on numbers (package tallyref: Add, Sub, Mul), each for every input: they answer what the functions of the text Ops tell, and leave the world as it was.
-/
import Derived.Test.YtmjpcmeinlkfbaaDoorChecked
import Derived.Test.YtmjpcmeinlkfbaaDoorOps
import Derived.WalkKit
namespace Go.Proofs.YtmjpcmeinlkfbaaDoor
open Go.RowKit
set_option linter.unusedVariables false

set_option maxHeartbeats 400000 in
theorem radd_any (a b : Int) (w : World) (h0 : 0 ≤ a) (h1 : a ≤ 18446744073709551615) (g0 : 0 ≤ b) (g1 : b ≤ 18446744073709551615) :
    Calls Tryd.prog 39 #[.int .u64 a, .int .u64 b] w fun e w' => e = .returned (.int .u64 (addQ a b)) ∧ w' = w := by
  go_enter Tryd.func39, Tryd.ntmps39
  go_wp2
  go_ret
  exact ⟨ret_u64 (by unfold addQ; rw [Q_eq]; omega), rfl⟩

set_option maxHeartbeats 400000 in
theorem rsub_any (a b : Int) (w : World) (h0 : 0 ≤ a) (h1 : a ≤ 18446744073709551615) (g0 : 0 ≤ b) (g1 : b ≤ 18446744073709551615) :
    Calls Tryd.prog 78 #[.int .u64 a, .int .u64 b] w fun e w' => e = .returned (.int .u64 (subQ a b)) ∧ w' = w := by
  go_enter Tryd.func78, Tryd.ntmps78
  go_wp2
  go_ret
  exact ⟨ret_u64 (by unfold subQ; rw [Q_eq]; omega), rfl⟩

set_option maxHeartbeats 1000000 in
theorem rmul_any (a b : Int) (w : World) (h0 : 0 ≤ a) (h1 : a ≤ 18446744073709551615) (g0 : 0 ≤ b) (g1 : b ≤ 18446744073709551615) :
    Calls Tryd.prog 53 #[.int .u64 a, .int .u64 b] w fun e w' => e = .returned (.int .u64 (mulQ a b)) ∧ w' = w := by
  go_enter Tryd.func53, Tryd.ntmps53
  go_wp2_with fail
  go_loop [5, 6] (fun o i => ∃ (t : Int) (k : Nat), o = .int .u64 t ∧ i = .int .i64 ((k : Int) - 1) ∧ k ≤ 61 ∧ 0 ≤ t ∧ t ≤ 2305843009213693950 ∧ Hid (t = mulQ a (b % 2305843009213693951 / 2 ^ k))) (fun _ i => (intOf i + 1).toNat)
  case atStart => exact ⟨0, 61, rfl, rfl, by omega, by omega, by omega, hid (by rw [show b % 2305843009213693951 / 2 ^ 61 = 0 from by omega, mulQ_zero])⟩
  case round =>
    obtain ⟨t, k, rfl, rfl, hk, t0, t1, HT⟩ := hrel
    by_cases hz : k = 0
    · subst hz
      go_wp2_with fail
      go_ret
      exact ⟨ret_u64 (by rw [HT.out, Int.pow_zero, Int.ediv_one]; exact mulQ_nrm_r a b), rfl⟩
    · obtain ⟨j, rfl⟩ : ∃ j, k = j + 1 := ⟨k - 1, by omega⟩
      obtain ⟨q0, q1⟩ := shr_rng (b % 2305843009213693951) j (by omega)
      by_cases hb : b % 2305843009213693951 / 2 ^ j % 2 = 1
      · have hb' : (b % 2305843009213693951 / 2 ^ j % 2 == 1) = true := beq_iff_eq.2 hb
        have HB := hid hb
        clear hb
        go_wp2_with fail
        go_round
        case rel => exact ⟨_, j, rfl, rfl, by omega, by omega, by omega, hid (by rw [HT.out]; exact mul_bit1 a _ j HB.out)⟩
        case measure => simp [intOf]
      · have hb' : (b % 2305843009213693951 / 2 ^ j % 2 == 1) = false := beq_eq_false_iff_ne.2 hb
        have HB := hid hb
        clear hb
        go_wp2_with fail
        go_round
        case rel => exact ⟨_, j, rfl, rfl, by omega, by omega, by omega, hid (by rw [HT.out]; exact mul_bit0 a _ j (by have := HB.out; omega))⟩
        case measure => simp [intOf]

end Go.Proofs.YtmjpcmeinlkfbaaDoor
