/-
  Contracts of the document's own answers for polynomials, tallyref's Coef (the sum of powers), for every row of numbers; nothing is written.
-/
import Derived.Test.YtoogpkcpheannaaChecked
import Derived.Test.YtoogpkcpheannaaPoly
import Derived.Test.YtoogpkcpheannaaMem
import Derived.Test.YtoogpkcpheannaaRefN
import Derived.Test.YtoogpkcpheannaaRefAt
import Derived.WalkKit
import Derived.Deep.LoopGhost
import Derived.Deep.Light
namespace Go.Proofs.Ytoogpkcpheannaa
open Go.RowKit
set_option linter.unusedVariables false

set_option maxHeartbeats 2000000 in
set_option maxRecDepth 100000 in
theorem rcoef_any (b off n cap : Nat) (f : Nat → Int) (x : Int) (w : World) (hn : n ≤ 100000) (hr : Row w b off n f) (hv : Nums f) (x0 : 0 ≤ x) (x1 : x ≤ 18446744073709551615) :
    Calls Try.prog 21 #[.slice (some ⟨b, off, none⟩) n cap, .int .u64 x] w fun e w' => e = .returned (.int .u64 (sumQ f x n)) ∧ w' = w := by
  have HR := hid hr
  have HV := hid hv
  clear hr hv
  go_enter Try.func21, Try.ntmps21
  go_wp2_with fail
  go_loopg [5, 6, 7] n (fun g o p i wr => ∃ (k : Nat) (y z : Int), k ≤ n ∧ g = n - k ∧ o = .int .u64 y ∧ p = .int .u64 z ∧ i = .int .i64 (k : Int) ∧ 0 ≤ y ∧ y ≤ 2305843009213693950 ∧ 0 ≤ z ∧ z ≤ 2305843009213693950 ∧ Hid (y = sumQ f x k) ∧ Hid (z = pwQ x k) ∧ wr = w)
  case atStart => exact ⟨0, 0, 1, by omega, rfl, rfl, rfl, rfl, by omega, by omega, by omega, by omega, hid rfl, hid rfl, rfl⟩
  case round =>
    obtain ⟨k, y, z, hk, rfl, rfl, rfl, rfl, y0, y1, z0, z1, HY, HZ, hw⟩ := hrel
    obtain rfl := hw.symm
    by_cases hlt : k < n
    · have c1 := HR.out k hlt
      obtain ⟨a, ha⟩ : ∃ a, f k = a := ⟨_, rfl⟩
      have ba := HV.out k
      rw [ha] at c1 ba
      obtain ⟨a0, a1⟩ := ba
      have HA := hid ha
      clear ha
      obtain ⟨s0, s1⟩ := mulQ_rng a z
      go_wp2_with (first | (go_at_call 15; refine (rmul_any _ _ _ (by omega) (by omega) (by omega) (by omega)).mono ?_; rintro e w' ⟨rfl, hw⟩; obtain rfl := hw.symm) | (go_at_call 11; refine (radd_any _ _ _ (by omega) (by omega) (by omega) (by omega)).mono ?_; rintro e w' ⟨rfl, hw⟩; obtain rfl := hw.symm))
      go_roundg (n - (k + 1))
      case measure => go_light; omega
      case rel => exact ⟨k + 1, _, _, by omega, rfl, rfl, rfl, by go_num, (addQ_rng _ _).1, (addQ_rng _ _).2, (mulQ_rng _ _).1, (mulQ_rng _ _).2, hid (by rw [sumQ, HY.out, HA.out, HZ.out]), hid (by rw [pwQ, HZ.out]), rfl⟩
    · have e : k = n := by omega
      subst e
      go_wp2_with fail
      go_ret
      exact ⟨ret_u64 HY.out, rfl⟩

end Go.Proofs.Ytoogpkcpheannaa
