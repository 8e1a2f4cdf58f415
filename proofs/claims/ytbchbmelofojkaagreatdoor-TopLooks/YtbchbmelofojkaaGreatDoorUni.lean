/-
  Contracts of package uni's functions, each for every input: Coefs and At; what they tell is what the text Poly names, and nothing that was there is written.
-/
import Derived.Test.YtbchbmelofojkaaGreatDoorChecked
import Derived.Test.YtbchbmelofojkaaGreatDoorPoly
import Derived.Test.YtbchbmelofojkaaGreatDoorMem
import Derived.Test.YtbchbmelofojkaaGreatDoorField
import Derived.Test.YtbchbmelofojkaaGreatDoorDiff
import Derived.WalkKit
import Derived.Deep.RegionHeld3
import Derived.Deep.RegionWith
import Derived.Deep.OwnRows
import Derived.Deep.LoopGhost
import Derived.Deep.Light
import Derived.Deep.DrawnRows
namespace Go.Proofs.YtbchbmelofojkaaGreatDoor
open Go.RowKit
set_option linter.unusedVariables false
attribute [local go_sem ↓] Go.wp_at_zero Go.wp_at_succ


set_option maxHeartbeats 400000 in
theorem coefs_bad (ao : Option Addr) (n cap : Nat) (w : World) (h : n = 0 ∨ 8 < n) :
    Calls Tryz.prog 15 #[.slice ao n cap] w fun e w' => e = .returned (.tuple #[.slice none 0 0, .int .i64 4]) ∧ w' = w := by
  have HC := hid (fun w => check_bad ao n cap w h)
  clear h
  go_enter Tryz.func15, Tryz.ntmps15
  go_wp2_with (go_at_call 42; refine (HC.out _).mono ?_; rintro e w' ⟨rfl, rfl⟩)
  go_ret2
  exact ⟨rfl, rfl⟩

theorem coef_step (v : Nat → Int) (n m q j : Nat) (hq : q + m + 2 = n) (hj : j < n) :
    (if q ≤ j ∧ j < q + (n - q) then stepF (q : Int) 0 (n - q) (fun t => cfM v n m (q + t)) (j - q) else cfM v n m j) = cfM v n (m + 1) j := by
  have e : n - 2 - m = q := by omega
  show _ = stepF ((n - 2 - m : Nat) : Int) (n - 2 - m) n (cfM v n m) j
  rw [e]
  by_cases h : q ≤ j
  · rw [if_pos (by omega)]
    unfold stepF
    have e1 : q + (j - q) = j := by omega
    have e2 : q + (j - q + 1) = j + 1 := by omega
    by_cases h2 : j + 1 < n
    · rw [if_pos (by omega), if_pos (by omega)]
      dsimp only
      rw [e1, e2]
    · rw [if_neg (by omega), if_neg (by omega)]
      dsimp only
      rw [e1]
  · rw [if_neg (by omega)]
    unfold stepF
    rw [if_neg (by omega)]

theorem Nums_cfM (v : Nat → Int) (n m q : Nat) : Nums (fun j => cfM v n m (q + j)) := fun j => by
  have := cfM_rng v n m (q + j)
  dsimp only
  omega

set_option maxHeartbeats 2000000 in
set_option maxRecDepth 100000 in
theorem coefs_ok (b off n cap : Nat) (v : Nat → Int) (w : World) (hn1 : 1 ≤ n) (hn8 : n ≤ 8) (hr : Row w b off n v) (hv : Nums v) :
    Calls Tryz.prog 15 #[.slice (some ⟨b, off, none⟩) n cap] w fun e w' => e = .returned (.tuple #[.slice (some ⟨w.heap.size, 0, none⟩) n n, .int .i64 0]) ∧ Made w w' n (cfQ v n) := by
  have HR := hid hr
  have HV := hid hv
  clear hr hv
  go_enter Tryz.func15, Tryz.ntmps15
  go_wp2_with (first | (go_at_call 42; refine (check_ok _ _ _ _ hn1 hn8).mono ?_; rintro e w' ⟨rfl, hw⟩; obtain rfl := hw.symm) | (go_at_call 43; refine (differences_any b off n cap v _ hn1 hn8 HR.out HV.out).mono ?_; rintro e w1 ⟨rfl, hm⟩; have HM0 := hid hm; clear hm))
  go_loopg [6] (n - 1) (fun g i wr => ∃ (m : Nat) (t : Int), m + 1 ≤ n ∧ g = n - 1 - m ∧ i = .int .i64 t ∧ Hid (t = (n : Int) - 2 - m) ∧ Hid (Made w wr n (cfM v n m)))
  case atStart => exact ⟨0, _, hn1, rfl, rfl, hid (by omega), HM0⟩
  case round =>
    clear HM0
    obtain ⟨m, t, hm, rfl, rfl, HT, HM⟩ := hrel
    by_cases hlt : m + 1 < n
    · obtain ⟨q, hq⟩ : ∃ q : Nat, q + m + 2 = n := ⟨n - 2 - m, by omega⟩
      have ht : t = (q : Int) := by have := HT.out; omega
      subst ht
      have HQ := hid hq
      have hqn : q < n := by omega
      have q0 : (0 : Int) ≤ (q : Int) := by omega
      have q1 : (q : Int) ≤ (n : Int) := by omega
      have q2 : (q : Int) < (n : Int) := by omega
      clear hq
      have hrow := HM.out.row.from q
      have hfree := HM.out.free.from q
      rw [Nat.zero_add] at hrow hfree
      have HS := hid (stepOut_any w.heap.size q (n - q) (n - q) _ (q : Int) wr (by omega) (by omega) hrow hfree (Nums_cfM v n m q) (by omega) (by omega))
      clear hrow hfree
      go_wp2_with (go_at_call 44; refine (HS.out).mono ?_; rintro e w2 ⟨rfl, hwr, hrw⟩; have HW2 := hid hwr; have HR2 := hid hrw; clear hwr hrw)
      go_roundg (n - 1 - (m + 1))
      case measure => go_light; omega
      case rel =>
        have hp := HM.out.row.part (i := q) (m := n - q) (by rw [Nat.zero_add]; exact HW2.out) (by rw [Nat.zero_add]; exact HR2.out)
        exact ⟨m + 1, _, by omega, rfl, rfl, hid (by have := HT.out; omega), hid ((HM.out.wrote HW2.out hp).congr fun j hj => coef_step v n m q j HQ.out hj)⟩
    · have e : m + 1 = n := by omega
      have ht : t = -1 := by have := HT.out; omega
      subst ht
      have HM1 : Hid (Made w wr n (cfQ v n)) := by unfold cfQ; rw [show n - 1 = m from by omega]; exact HM
      clear HM HT e
      go_wp2_with fail
      go_ret2
      exact ⟨rfl, HM1.out⟩

set_option maxHeartbeats 400000 in
theorem at_bad (ao : Option Addr) (n cap : Nat) (x : Int) (w : World) (h : n = 0 ∨ 8 < n) :
    Calls Tryz.prog 106 #[.slice ao n cap, .int .u64 x] w fun e w' => e = .returned (.tuple #[.int .u64 0, .int .i64 4]) ∧ w' = w := by
  have HC := hid (fun w => coefs_bad ao n cap w h)
  clear h
  go_enter Tryz.func106, Tryz.ntmps106
  go_wp2_with (go_at_call 15; refine (HC.out _).mono ?_; rintro e w' ⟨rfl, rfl⟩)
  go_ret2
  exact ⟨rfl, rfl⟩

theorem ret_pair {a c : Int} (h : a = c) (e : Int) : Ending.returned (.tuple #[.int .u64 a, .int .i64 e]) = .returned (.tuple #[.int .u64 c, .int .i64 e]) := by rw [h]
theorem hor_step (f : Nat → Int) (x : Int) (n m q : Nat) (hq : q + m + 1 = n) : addQ (mulQ (horQ f x (n - m) m) x) (f q) = horQ f x (n - (m + 1)) (m + 1) := by
  have e1 : n - m = q + 1 := by omega
  have e2 : n - (m + 1) = q := by omega
  rw [e1, e2]; rfl

set_option maxHeartbeats 2000000 in
set_option maxRecDepth 100000 in
theorem at_ok (b off n cap : Nat) (v : Nat → Int) (x : Int) (w : World) (hn1 : 1 ≤ n) (hn8 : n ≤ 8) (hr : Row w b off n v) (hv : Nums v) (x0 : 0 ≤ x) (x1 : x ≤ 18446744073709551615) :
    Calls Tryz.prog 106 #[.slice (some ⟨b, off, none⟩) n cap, .int .u64 x] w fun e w' => e = .returned (.tuple #[.int .u64 (atQ v n x), .int .i64 0]) ∧ Below w.heap.size w w' := by
  have HC := hid (coefs_ok b off n cap v w hn1 hn8 hr hv)
  clear hr hv
  go_enter Tryz.func106, Tryz.ntmps106
  go_wp2_with (go_at_call 15; refine (HC.out).mono ?_; rintro e w1 ⟨rfl, hm⟩; have HM0 := hid hm; clear hm)
  clear HC
  go_loopg [8, 9] n (fun g y i wr => ∃ (m : Nat) (t z : Int), m ≤ n ∧ g = n - m ∧ i = .int .i64 t ∧ y = .int .u64 z ∧ 0 ≤ z ∧ z ≤ 2305843009213693950 ∧ Hid (t = (n : Int) - 1 - m) ∧ Hid (z = horQ (cfQ v n) x (n - m) m) ∧ Hid (Made w wr n (cfQ v n)))
  case atStart => exact ⟨0, _, 0, by omega, rfl, rfl, rfl, by omega, by omega, hid (by omega), hid rfl, HM0⟩
  case round =>
    clear HM0
    obtain ⟨m, t, z, hm, rfl, rfl, rfl, z0, z1, HT, HZ, HM⟩ := hrel
    by_cases hlt : m < n
    · obtain ⟨q, hq⟩ : ∃ q : Nat, q + m + 1 = n := ⟨n - 1 - m, by omega⟩
      have ht : t = (q : Int) := by have := HT.out; omega
      subst ht
      have HQ := hid hq
      have hqn : q < n := by omega
      have q0 : (0 : Int) ≤ (q : Int) := by omega
      have q1 : (q : Int) < (n : Int) := by omega
      clear hq
      have c1 := HM.out.cell q hqn
      obtain ⟨a, ha⟩ : ∃ a, cfQ v n q = a := ⟨_, rfl⟩
      obtain ⟨a0, a1⟩ := cfQ_rng v n q
      rw [ha] at c1 a0 a1
      have HA := hid ha
      clear ha
      obtain ⟨s0, s1⟩ := mulQ_rng z x
      go_wp2_with fail
      go_region_with (first | (go_at_call 78; refine (mul_any _ _ _ (by omega) (by omega) (by omega) (by omega)).mono ?_; rintro e w' ⟨rfl, rfl⟩) | (go_at_call 77; refine (add_any _ _ _ (by omega) (by omega) (by omega) (by omega)).mono ?_; rintro e w' ⟨rfl, rfl⟩))
      all_goals (go_wp2_with fail)
      all_goals (go_roundg (n - (m + 1)))
      all_goals first | (go_light; omega) | (exact ⟨m + 1, _, _, by omega, rfl, rfl, rfl, (addQ_rng _ _).1, (addQ_rng _ _).2, hid (by have := HT.out; omega), hid (by rw [← hor_step _ _ n m q HQ.out, ← HZ.out, HA.out]), hid HM.out.drew⟩)
    · have e : m = n := by omega
      have ht : t = -1 := by have := HT.out; omega
      subst ht
      have HE : Hid (z = atQ v n x) := hid (by rw [HZ.out, e, Nat.sub_self]; exact hor_at v n (by omega) x)
      clear HT HZ e
      go_wp2_with fail
      go_ret2
      exact ⟨ret_pair HE.out 0, HM.out.below⟩

end Go.Proofs.YtbchbmelofojkaaGreatDoor
