/-
  A contract of the document's own weights, tallyref's Eq: for every point of at most 1000 numbers and every place from 0 on; nothing is written.
-/
import Derived.Test.YtmjpcmeinlkfbaaDoorChecked
import Derived.Test.YtmjpcmeinlkfbaaDoorMulti
import Derived.Test.YtmjpcmeinlkfbaaDoorMem
import Derived.Test.YtmjpcmeinlkfbaaDoorRefA
import Derived.WalkKit
import Derived.Deep.LoopGhost
import Derived.Deep.Light
namespace Go.Proofs.YtmjpcmeinlkfbaaDoor
open Go.RowKit
set_option linter.unusedVariables false

/-- The weights of the last numbers of a point, from the lowest bit on: k of n. -/
def lowK (g : Nat → K) (n b : Nat) : Nat → K
  | 0 => 1
  | k + 1 => lowK g n b k * (if b / 2 ^ k % 2 = 1 then g (n - 1 - k) else 1 - g (n - 1 - k))
theorem low_all (g : Nat → K) (n k b : Nat) (hk : k ≤ n) : eqK g n b = eqK g (n - k) (b / 2 ^ k) * lowK g n b k := by
  induction k with
  | zero => rw [Nat.pow_zero, Nat.div_one, Nat.sub_zero, lowK]; grind
  | succ k ih =>
    rw [ih (by omega), show n - k = (n - (k + 1)) + 1 from by omega, eqK, lowK, Nat.div_div_eq_div_mul, ← Nat.pow_succ, show n - 1 - k = n - (k + 1) from by omega]
    grind
theorem low_eq (g : Nat → K) (n b : Nat) : lowK g n b n = eqK g n b := by
  rw [low_all g n n b (Nat.le_refl _), Nat.sub_self, eqK]; grind
theorem low_hit (g : Nat → Int) (n b k q : Nat) (z a : Int) (hq : q + k + 1 = n) (hz : z = ofK (lowK (fun j => kk (g j)) n b k)) (ha : g q = a) (h : b / 2 ^ k % 2 = 1) : mulQ z a = ofK (lowK (fun j => kk (g j)) n b (k + 1)) := by
  rw [mulQ_ofK, hz, kk_ofK, lowK, if_pos h, show n - 1 - k = q from by omega, ha]
theorem low_miss (g : Nat → Int) (n b k q : Nat) (z a : Int) (hq : q + k + 1 = n) (hz : z = ofK (lowK (fun j => kk (g j)) n b k)) (ha : g q = a) (h : b / 2 ^ k % 2 ≠ 1) : mulQ z (subQ 1 a) = ofK (lowK (fun j => kk (g j)) n b (k + 1)) := by
  rw [mulQ_ofK, hz, kk_ofK, kk_subQ, kk_one, lowK, if_neg h, show n - 1 - k = q from by omega, ha]
theorem half_pow (b k : Nat) : b / 2 ^ k / 2 = b / 2 ^ (k + 1) := by rw [Nat.div_div_eq_div_mul, ← Nat.pow_succ]

set_option maxHeartbeats 2000000 in
set_option maxRecDepth 100000 in
theorem req_any (b off n cap : Nat) (g : Nat → Int) (at0 : Nat) (w : World) (hn : n ≤ 1000) (hr : Row w b off n g) (hv : Nums g) (hat : at0 ≤ 100000) :
    Calls Tryd.prog 77 #[.slice (some ⟨b, off, none⟩) n cap, .int .i64 (at0 : Int)] w fun e w' => e = .returned (.int .u64 (ofK (eqK (fun j => kk (g j)) n at0))) ∧ w' = w := by
  have HR := hid hr
  have HV := hid hv
  clear hr hv
  go_enter Tryd.func77, Tryd.ntmps77
  go_wp2_with fail
  go_loopg [1, 5, 6] n (fun m p o i wr => ∃ (k c : Nat) (t z : Int), k ≤ n ∧ m = n - k ∧ p = .int .i64 (c : Int) ∧ o = .int .u64 z ∧ i = .int .i64 t ∧ c ≤ 100000 ∧ 0 ≤ z ∧ z ≤ 2305843009213693950 ∧ Hid (t = (n : Int) - 1 - k) ∧ Hid (c = at0 / 2 ^ k) ∧ Hid (z = ofK (lowK (fun j => kk (g j)) n at0 k)) ∧ wr = w)
  case atStart => exact ⟨0, at0, _, 1, by omega, rfl, rfl, rfl, rfl, by omega, by omega, by omega, hid (by omega), hid (by rw [Nat.pow_zero, Nat.div_one]), hid rfl, rfl⟩
  case round =>
    obtain ⟨k, c, t, z, hk, rfl, rfl, rfl, rfl, hc, z0, z1, HT, HC, HZ, hw⟩ := hrel
    obtain rfl := hw.symm
    by_cases hlt : k < n
    · obtain ⟨q, hq⟩ : ∃ q : Nat, q + k + 1 = n := ⟨n - 1 - k, by omega⟩
      have ht : t = (q : Int) := by have := HT.out; omega
      subst ht
      have HQ := hid hq
      have hqn : q < n := by omega
      have q0 : (0 : Int) ≤ (q : Int) := by omega
      have q1 : (q : Int) < (n : Int) := by omega
      clear hq
      have c1 := HR.out q hqn
      obtain ⟨a, ha⟩ : ∃ a, g q = a := ⟨_, rfl⟩
      have ba := HV.out q
      rw [ha] at c1 ba
      obtain ⟨a0, a1⟩ := ba
      have HA := hid ha
      clear ha
      obtain ⟨s0, s1⟩ := subQ_rng 1 a
      by_cases h2 : c % 2 = 1
      · have hb : ((c : Int) % 2 == 1) = true := beq_iff_eq.2 (by omega)
        go_wp2_with (first | (go_at_call 53; refine (rmul_any _ _ _ (by omega) (by omega) (by omega) (by omega)).mono ?_; rintro e w' ⟨rfl, hw⟩; obtain rfl := hw.symm) | (go_at_call 78; refine (rsub_any _ _ _ (by omega) (by omega) (by omega) (by omega)).mono ?_; rintro e w' ⟨rfl, hw⟩; obtain rfl := hw.symm))
        go_roundg (n - (k + 1))
        case measure => go_light; omega
        case rel => exact ⟨k + 1, c / 2, _, _, by omega, rfl, by go_num, rfl, rfl, by omega, (mulQ_rng _ _).1, (mulQ_rng _ _).2, hid (by have := HT.out; omega), hid (by rw [HC.out, half_pow]), hid (low_hit g n at0 k q z a HQ.out HZ.out HA.out (by rw [← HC.out]; exact h2)), rfl⟩
      · have hb : ((c : Int) % 2 == 1) = false := beq_eq_false_iff_ne.2 (by omega)
        go_wp2_with (first | (go_at_call 53; refine (rmul_any _ _ _ (by omega) (by omega) (by omega) (by omega)).mono ?_; rintro e w' ⟨rfl, hw⟩; obtain rfl := hw.symm) | (go_at_call 78; refine (rsub_any _ _ _ (by omega) (by omega) (by omega) (by omega)).mono ?_; rintro e w' ⟨rfl, hw⟩; obtain rfl := hw.symm))
        go_roundg (n - (k + 1))
        case measure => go_light; omega
        case rel => exact ⟨k + 1, c / 2, _, _, by omega, rfl, by go_num, rfl, rfl, by omega, (mulQ_rng _ _).1, (mulQ_rng _ _).2, hid (by have := HT.out; omega), hid (by rw [HC.out, half_pow]), hid (low_miss g n at0 k q z a HQ.out HZ.out HA.out (by rw [← HC.out]; exact h2)), rfl⟩
    · have e : k = n := by omega
      subst e
      have ht : t = -1 := by have := HT.out; omega
      subst ht
      go_wp2_with fail
      go_ret
      exact ⟨ret_u64 (by rw [HZ.out, low_eq]), rfl⟩

set_option maxHeartbeats 1000000 in
theorem req_zero (ao : Option Addr) (cap : Nat) (at0 : Nat) (w : World) (hat : at0 ≤ 100000) :
    Calls Tryd.prog 77 #[.slice ao 0 cap, .int .i64 (at0 : Int)] w fun e w' => e = .returned (.int .u64 1) ∧ w' = w := by
  go_enter Tryd.func77, Tryd.ntmps77
  go_wp2_with fail
  go_loopg [1, 5, 6] 0 (fun m p o i wr => m = 0 ∧ o = .int .u64 1 ∧ i = .int .i64 (-1) ∧ wr = w)
  case atStart => exact ⟨rfl, rfl, rfl, rfl⟩
  case round =>
    obtain ⟨rfl, rfl, rfl, hw⟩ := hrel
    obtain rfl := hw.symm
    go_wp2_with fail
    go_ret
    exact ⟨rfl, rfl⟩

end Go.Proofs.YtmjpcmeinlkfbaaDoor
