/-
  Package tree's leafRoot and Climb, for every input; they write nothing that was there.
-/
import Derived.Test.YtmjpcmeinlkfbaaDoorSpg3
import Derived.Test.YtmjpcmeinlkfbaaDoorTree
import Derived.Test.YtmjpcmeinlkfbaaDoorOwn
import Derived.Deep.RegionWith
import Derived.Deep.RegionHeld3
namespace Go.Proofs.YtmjpcmeinlkfbaaDoor
open Go.RowKit
set_option linter.unusedVariables false
attribute [local go_sem ↓] Go.wp_at_zero Go.wp_at_succ

theorem pow_c8 {n : Nat} (h : n ≤ 8) : 2 ^ n ≤ 256 := Nat.pow_le_pow_right (j := 8) (by omega) h
theorem shl_c8 {k : Nat} (hk : k ≤ 8) : wrap64 ((2 : Int) ^ k) = ((2 ^ k : Nat) : Int) := by
  have h : 2 ^ k ≤ 256 := pow_c8 hk
  rw [show ((2 : Int) ^ k) = ((2 ^ k : Nat) : Int) from by simp]
  generalize 2 ^ k = M at h
  exact IntWalk.wrap64_in _ (by omega)
theorem ret_u64_err {a b x : Int} (h : a = b) : Ending.returned (.tuple #[.int .u64 a, .int .i64 x]) = .returned (.tuple #[.int .u64 b, .int .i64 x]) := by rw [h]
theorem tpair (a b : Int) (W : World) (h0 : 0 ≤ a) (h1 : a ≤ 18446744073709551615) (g0 : 0 ≤ b) (g1 : b ≤ 18446744073709551615) : Calls Tryd.prog 29 #[.int .u64 a, .int .u64 b] W fun e w' => e = .returned (.int .u64 (prQ a b)) ∧ Below W.heap.size W w' := pair_any a b W h0 h1 g0 g1
set_option maxHeartbeats 1000000 in
theorem leafRoot_any (x : Int) (w : World) (h0 : 0 ≤ x) (h1 : x ≤ 18446744073709551615) :
    Calls Tryd.prog 58 #[.int .u64 x] w fun e w' => e = .returned (.int .u64 (prQ x 0)) ∧ Below w.heap.size w w' := by
  have HP := hid (tpair x 0 w h0 h1 (by omega) (by omega))
  go_enter Tryd.func58, Tryd.ntmps58
  go_wp2_with (go_at_call 29; refine (HP.out).mono ?_; rintro e w1 ⟨rfl, hb⟩; have HB := hid hb; clear hb)
  go_ret
  exact ⟨rfl, HB.out⟩

theorem low_and (m : Nat) (h : m ≤ 100000) : bits .and .i64 (m : Int) 1 = ((m % 2 : Nat) : Int) := by
  have h1 : (BitVec.ofInt 64 (m : Int)).toNat = m := by
    rw [BitVec.ofInt_natCast, BitVec.toNat_ofNat]; exact Nat.mod_eq_of_lt (by omega)
  have h2 : (BitVec.ofInt 64 (1 : Int)).toNat = 1 := rfl
  have e : m &&& 1 = m % 2 := Nat.and_two_pow_sub_one_eq_mod m 1
  show IntKind.i64.wrap ((BitVec.ofInt 64 (m : Int) &&& BitVec.ofInt 64 (1 : Int)).toNat : Int) = _
  rw [BitVec.toNat_and, h1, h2, e]
  exact IntWalk.i64_in _ (by omega)


set_option maxHeartbeats 4000000 in
set_option maxRecDepth 100000 in
theorem tclimb_ok (n cap i : Nat) (ao : Option Addr) (leaf : Int) (p : Nat → Int) (w : World) (hn : n ≤ 8) (hr : PRow w ao n p) (hv : Nums p) (hi : i < 2 ^ n) (l0 : 0 ≤ leaf) (l1 : leaf ≤ 18446744073709551615) :
    Calls Tryd.prog 26 #[.int .i64 (i : Int), .int .u64 leaf, .slice ao n cap] w fun e w' => e = .returned (.tuple #[.int .u64 (climbQ n i leaf p), .int .i64 0]) ∧ Below w.heap.size w w' := by
  have HL := hid (leafRoot_any leaf w l0 l1)
  have HUP := hid (climb_up leaf p n i hi)
  obtain ⟨N, hN⟩ : ∃ N, 2 ^ n = N := ⟨_, rfl⟩
  have HSH : Hid (wrap64 ((2 : Int) ^ n) = (N : Int)) := hid (by rw [← hN]; exact shl_c8 hn)
  have hN2 : N ≤ 256 := by rw [← hN]; exact pow_c8 hn
  rw [hN] at hi
  have i1 : (i : Int) < (N : Int) := by omega
  have i2 : (0 : Int) ≤ (i : Int) := by omega
  have i3 : ¬ (8 : Int) < (n : Int) := by omega
  have HP := hid hr
  have HV := hid hv
  clear hr hv hN
  have hsh := HSH.out
  go_enter Tryd.func26, Tryd.ntmps26
  go_wp2_with (go_at_call 58; refine (HL.out).mono ?_; rintro e w1 ⟨rfl, hb⟩; have HB1 := hid hb; clear hb)
  clear hsh HL
  go_loopg [29, 8] n (fun q x t wr => ∃ (k : Nat) (y : Int), k ≤ n ∧ q = n - k ∧ x = .int .i64 (k : Int) ∧ t = .int .u64 y ∧ 0 ≤ y ∧ y ≤ 18446744073709551615 ∧ Hid (y = upC i leaf p k) ∧ Hid (Below w.heap.size w wr))
  case atStart => exact ⟨0, _, by omega, rfl, rfl, rfl, (prQ_rng _ _).1, by have := (prQ_rng leaf 0).2; omega, hid rfl, HB1⟩
  case round =>
    clear HB1
    obtain ⟨k, y, hk, rfl, rfl, rfl, y0, y1, HY, HB⟩ := hrel
    by_cases hlt : k < n
    · obtain ⟨bp, op, rfl, hrp⟩ := HP.out (by omega)
      have c1 := (hrp.kept HB.out (hrp.lt (by omega))) k hlt
      have bx := HV.out k
      obtain ⟨x, hx⟩ : ∃ x, p k = x := ⟨_, rfl⟩
      rw [hx] at c1 bx
      obtain ⟨x0, x1⟩ := bx
      obtain ⟨m, hm⟩ : ∃ m : Nat, i / 2 ^ k = m := ⟨_, rfl⟩
      have hmk : m ≤ 100000 := by rw [← hm]; exact Nat.le_trans (Nat.div_le_self _ _) (by omega)
      have hmi : (i : Int) / 2 ^ k = (m : Int) := by rw [← hm]; simp
      have hba := low_and m hmk
      have k0 : (0 : Int) ≤ (k : Int) := by omega
      have k1 : (k : Int) < (n : Int) := by omega
      clear hrp
      by_cases hbit : m % 2 = 0
      · rw [hbit] at hba
        have hbt : (bits .and .i64 (m : Int) 1 == 0) = true := by rw [hba]; rfl
        have HU : Hid (prQ y x = upC i leaf p (k + 1)) := hid (by rw [upC, hm, if_pos hbit, HY.out, hx])
        have HPA := hid (tpair y x wr y0 y1 x0 x1)
        clear hba hbit hm hx
        go_wp2_with (go_at_call 29; refine (HPA.out).mono ?_; rintro e w2 ⟨rfl, hb⟩; have HB2 := hid hb; clear hb)
        go_roundg (n - (k + 1))
        case measure => go_light; omega
        case rel => exact ⟨k + 1, _, by omega, rfl, by go_num, rfl, (prQ_rng _ _).1, by have := (prQ_rng y x).2; omega, HU, hid (HB.out.trans (HB2.out.mono HB.out.size))⟩
      · have hbit1 : m % 2 = 1 := by omega
        rw [hbit1] at hba
        have hbt : (bits .and .i64 (m : Int) 1 == 0) = false := by rw [hba]; rfl
        have HU : Hid (prQ x y = upC i leaf p (k + 1)) := hid (by rw [upC, hm, if_neg hbit, HY.out, hx])
        have HPA := hid (tpair x y wr x0 x1 y0 y1)
        clear hba hbit hbit1 hm hx
        go_wp2_with (go_at_call 29; refine (HPA.out).mono ?_; rintro e w2 ⟨rfl, hb⟩; have HB2 := hid hb; clear hb)
        go_roundg (n - (k + 1))
        case measure => go_light; omega
        case rel => exact ⟨k + 1, _, by omega, rfl, by go_num, rfl, (prQ_rng _ _).1, by have := (prQ_rng x y).2; omega, HU, hid (HB.out.trans (HB2.out.mono HB.out.size))⟩
    · have e : k = n := by omega
      subst e
      go_wp2_with fail
      go_ret2
      exact ⟨ret_u64_err (HY.out.trans HUP.out.symm), HB.out⟩

set_option maxHeartbeats 1000000 in
set_option maxRecDepth 100000 in
theorem tclimb_arg (n cap : Nat) (i : Int) (ao : Option Addr) (leaf : Int) (w : World) (hm : n ≤ maxLen) (h : 8 < n ∨ i < 0 ∨ (n ≤ 8 ∧ ((2 ^ n : Nat) : Int) ≤ i)) :
    Calls Tryd.prog 26 #[.int .i64 i, .int .u64 leaf, .slice ao n cap] w fun e w' => e = .returned (.tuple #[.int .u64 0, .int .i64 1]) ∧ Below w.heap.size w w' := by
  by_cases h8 : 8 < n
  · have i3 : (8 : Int) < (n : Int) := by omega
    clear h
    go_enter Tryd.func26, Tryd.ntmps26
    go_wp2_with fail
    go_ret2
    exact ⟨rfl, Below.refl _ _⟩
  · have i3 : ¬ (8 : Int) < (n : Int) := by omega
    by_cases hneg : i < 0
    · clear h
      go_enter Tryd.func26, Tryd.ntmps26
      go_wp2_with fail
      go_ret2
      exact ⟨rfl, Below.refl _ _⟩
    · have h2 : ((2 ^ n : Nat) : Int) ≤ i := by omega
      obtain ⟨N, hN⟩ : ∃ N, 2 ^ n = N := ⟨_, rfl⟩
      have HSH : Hid (wrap64 ((2 : Int) ^ n) = (N : Int)) := hid (by rw [← hN]; exact shl_c8 (by omega))
      rw [hN] at h2
      have h3 : ¬ i < (N : Int) := by omega
      clear h hN
      have hsh := HSH.out
      go_enter Tryd.func26, Tryd.ntmps26
      go_wp2_with fail
      go_ret2
      exact ⟨rfl, Below.refl _ _⟩


end Go.Proofs.YtmjpcmeinlkfbaaDoor
