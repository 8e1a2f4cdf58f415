/-
  Contracts of the document's own answer on numbers (package tallyref: Pow), each for every input: they answer what the functions of the text Ops tell, and leave the world as it was.
-/
import Derived.Test.YtoogpkcpheannaaChecked
import Derived.Test.YtoogpkcpheannaaRefA
import Derived.Test.YtoogpkcpheannaaRefN
import Derived.Test.YtoogpkcpheannaaRefI
import Derived.WalkKit
namespace Go.Proofs.Ytoogpkcpheannaa
open Go.RowKit
set_option linter.unusedVariables false

set_option maxHeartbeats 1000000 in
theorem rpow_any (a n : Int) (w : World) (h0 : 0 ≤ a) (h1 : a ≤ 18446744073709551615) (g0 : 0 ≤ n) (g1 : n ≤ 18446744073709551615) :
    Calls Try.prog 17 #[.int .u64 a, .int .u64 n] w fun e w' => e = .returned (.int .u64 (powQ a n.toNat)) ∧ w' = w := by
  obtain ⟨m, rfl⟩ := Int.eq_ofNat_of_zero_le g0
  rw [Int.toNat_natCast]
  go_enter Try.func17, Try.ntmps17
  go_wp2_with fail
  go_loop [5, 6] (fun o i => ∃ (t : Int) (k : Nat), o = .int .u64 t ∧ i = .int .i64 ((k : Int) - 1) ∧ k ≤ 64 ∧ 0 ≤ t ∧ t ≤ 2305843009213693950 ∧ Hid (t = powQ a (m / 2 ^ k))) (fun _ i => (intOf i + 1).toNat)
  case atStart => exact ⟨1, 64, rfl, rfl, by omega, by omega, by omega, hid (by rw [show m / 2 ^ 64 = 0 from by omega, powQ_zero])⟩
  case round =>
    obtain ⟨t, k, rfl, rfl, hk, t0, t1, HT⟩ := hrel
    obtain ⟨s0, s1⟩ := mulQ_rng t t
    by_cases hz : k = 0
    · subst hz
      go_wp2_with fail
      go_ret
      exact ⟨ret_u64 (by rw [HT.out, Nat.pow_zero, Nat.div_one]), rfl⟩
    · obtain ⟨j, rfl⟩ : ∃ j, k = j + 1 := ⟨k - 1, by omega⟩
      obtain ⟨q0, q1⟩ := shr_rng (m : Int) j (by omega)
      obtain ⟨v0, v1⟩ := mulQ_rng (mulQ t t) a
      by_cases hb : (m : Int) / 2 ^ j % 2 = 1
      · have hb' : ((m : Int) / 2 ^ j % 2 == 1) = true := beq_iff_eq.2 hb
        have HB := hid hb
        clear hb
        go_wp2_with (go_at_call 15; refine (rmul_any _ _ _ (by omega) (by omega) (by omega) (by omega)).mono ?_; rintro e w' ⟨rfl, rfl⟩)
        go_round
        case rel => exact ⟨_, j, rfl, rfl, by omega, v0, v1, hid (by rw [HT.out]; exact pow_bit1 a m j (bit_cast m j HB.out))⟩
        case measure => simp [intOf]
      · have hb' : ((m : Int) / 2 ^ j % 2 == 1) = false := beq_eq_false_iff_ne.2 hb
        have HB := hid hb
        clear hb
        go_wp2_with (go_at_call 15; refine (rmul_any _ _ _ (by omega) (by omega) (by omega) (by omega)).mono ?_; rintro e w' ⟨rfl, rfl⟩)
        go_round
        case rel => exact ⟨_, j, rfl, rfl, by omega, s0, s1, hid (by rw [HT.out]; exact pow_bit0 a m j (bit_cast0 m j HB.out))⟩
        case measure => simp [intOf]

end Go.Proofs.Ytoogpkcpheannaa
