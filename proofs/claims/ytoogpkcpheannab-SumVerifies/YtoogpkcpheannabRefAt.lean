/-
  Contracts of the document's own answers for polynomials, tallyref's At (LAGRANGE's sum), for every row of numbers; nothing is written.
-/
import Derived.Test.YtoogpkcpheannabChecked
import Derived.Test.YtoogpkcpheannabPoly
import Derived.Test.YtoogpkcpheannabMem
import Derived.Test.YtoogpkcpheannabRefI
import Derived.WalkKit
import Derived.Deep.LoopGhost
import Derived.Deep.Light
namespace Go.Proofs.Ytoogpkcpheannab
open Go.RowKit
set_option linter.unusedVariables false

theorem up_hit (x : Int) (i : Nat) (u : Int) : upQ x i u (i + 1) = upQ x i u i := by rw [upQ, if_pos rfl]
theorem up_miss (x : Int) (i : Nat) (u : Int) (k : Nat) (h : k ≠ i) : upQ x i u (k + 1) = mulQ (upQ x i u k) (subQ x k) := by rw [upQ, if_neg h]
theorem und_hit (i : Nat) : undQ i (i + 1) = undQ i i := by rw [undQ, if_pos rfl]
theorem und_miss (i k : Nat) (h : k ≠ i) : undQ i (k + 1) = mulQ (undQ i k) (subQ i k) := by rw [undQ, if_neg h]
theorem und_ne (i n : Nat) (hi : i < n) (hn : n ≤ 100000) : nrm (undQ i n) ≠ 0 := nrm_ne (by rw [kk_undQ]; exact prodK_ne i n (by omega) (by omega))

set_option maxHeartbeats 4000000 in
set_option maxRecDepth 100000 in
theorem rat_any (b off n cap : Nat) (v : Nat → Int) (x : Int) (w : World) (hn : n ≤ 100000) (hr : Row w b off n v) (hv : Nums v) (x0 : 0 ≤ x) (x1 : x ≤ 18446744073709551615) :
    Calls Try.prog 24 #[.slice (some ⟨b, off, none⟩) n cap, .int .u64 x] w fun e w' => e = .returned (.int .u64 (atQ v n x)) ∧ w' = w := by
  have HR := hid hr
  have HV := hid hv
  clear hr hv
  go_enter Try.func24, Try.ntmps24
  go_wp2_with fail
  go_loopg [5, 6] n (fun g o i wr => ∃ (k : Nat) (y : Int), k ≤ n ∧ g = n - k ∧ o = .int .u64 y ∧ i = .int .i64 (k : Int) ∧ 0 ≤ y ∧ y ≤ 2305843009213693950 ∧ Hid (y = lagQ v n x k) ∧ wr = w)
  case atStart => exact ⟨0, 0, by omega, rfl, rfl, rfl, by omega, by omega, hid rfl, rfl⟩
  case round =>
    obtain ⟨i, y, hi, rfl, rfl, rfl, y0, y1, HY, hw⟩ := hrel
    obtain rfl := hw.symm
    by_cases hlt : i < n
    · have c1 := HR.out i hlt
      obtain ⟨a, ha⟩ : ∃ a, v i = a := ⟨_, rfl⟩
      have ba := HV.out i
      rw [ha] at c1 ba
      obtain ⟨a0, a1⟩ := ba
      have HA := hid ha
      clear ha
      go_wp2_with fail
      go_loopg [7, 8, 9] n (fun g u d t wr => ∃ (k : Nat) (p q : Int), k ≤ n ∧ g = n - k ∧ u = .int .u64 p ∧ d = .int .u64 q ∧ t = .int .i64 (k : Int) ∧ 0 ≤ p ∧ p ≤ 18446744073709551615 ∧ 0 ≤ q ∧ q ≤ 2305843009213693950 ∧ Hid (p = upQ x i a k) ∧ Hid (q = undQ i k) ∧ wr = w)
      case atStart => exact ⟨0, a, 1, by omega, rfl, rfl, rfl, rfl, a0, a1, by omega, by omega, hid rfl, hid rfl, rfl⟩
      case round =>
        obtain ⟨k, p, q, hk, rfl, rfl, rfl, rfl, p0, p1, q0, q1, HP, HD, hw⟩ := hrel
        obtain rfl := hw.symm
        by_cases hlk : k < n
        · by_cases hki : k = i
          · subst hki
            go_wp2_with fail
            go_roundg (n - (k + 1))
            case measure => go_light; omega
            case rel => exact ⟨k + 1, p, q, by omega, rfl, rfl, rfl, by go_num, p0, p1, q0, q1, hid (by rw [up_hit]; exact HP.out), hid (by rw [und_hit]; exact HD.out), rfl⟩
          · have hb : ((k : Int) != (i : Int)) = true := bne_iff_ne.2 (by omega)
            obtain ⟨s0, s1⟩ := subQ_rng x (k : Int)
            obtain ⟨t0, t1⟩ := subQ_rng (i : Int) (k : Int)
            go_wp2_with (first | (go_at_call 33; refine (rmul_any _ _ _ (by omega) (by omega) (by omega) (by omega)).mono ?_; rintro e w' ⟨rfl, hw⟩; obtain rfl := hw.symm) | (go_at_call 38; refine (rsub_any _ _ _ (by omega) (by omega) (by omega) (by omega)).mono ?_; rintro e w' ⟨rfl, hw⟩; obtain rfl := hw.symm))
            go_roundg (n - (k + 1))
            case measure => go_light; omega
            case rel => exact ⟨k + 1, _, _, by omega, rfl, rfl, rfl, by go_num, (mulQ_rng _ _).1, by have := (mulQ_rng p (subQ x k)).2; omega, (mulQ_rng _ _).1, (mulQ_rng _ _).2, hid (by rw [up_miss x i a k hki, HP.out]), hid (by rw [und_miss i k hki, HD.out]), rfl⟩
        · have e : k = n := by omega
          subst e
          have HZ : Hid (nrm q ≠ 0) := hid (by rw [HD.out]; exact und_ne i k hlt hn)
          have HI := hid (fun w => rinv_any q w q0 (by omega) HZ.out)
          obtain ⟨s0, s1⟩ := invQ_rng q
          obtain ⟨t0, t1⟩ := mulQ_rng p (invQ q)
          go_wp2_with (first | (go_at_call 39; refine (HI.out _).mono ?_; rintro e w' ⟨rfl, hw⟩; obtain rfl := hw.symm) | (go_at_call 33; refine (rmul_any _ _ _ (by omega) (by omega) (by omega) (by omega)).mono ?_; rintro e w' ⟨rfl, hw⟩; obtain rfl := hw.symm) | (go_at_call 22; refine (radd_any _ _ _ (by omega) (by omega) (by omega) (by omega)).mono ?_; rintro e w' ⟨rfl, hw⟩; obtain rfl := hw.symm))
          go_roundg (k - (i + 1))
          case measure => go_light; omega
          case rel => exact ⟨i + 1, _, by omega, rfl, rfl, by go_num, (addQ_rng _ _).1, (addQ_rng _ _).2, hid (by rw [lagQ, HA.out, HY.out, HP.out, HD.out]), rfl⟩
    · have e : i = n := by omega
      subst e
      go_wp2_with fail
      go_ret
      exact ⟨ret_u64 HY.out, rfl⟩

end Go.Proofs.Ytoogpkcpheannab
