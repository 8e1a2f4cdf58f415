/-
  Contracts of package field's functions, each for every input: Norm, Add, Sub and Mul answer the rests by 2^61 - 1 that the functions of the text Ops tell, and leave the world as it was.
-/
import Derived.Test.YtbchbmelofojkaaGreatDoorChecked
import Derived.Test.YtbchbmelofojkaaGreatDoorOps
import Derived.WalkKit
namespace Go.Proofs.YtbchbmelofojkaaGreatDoor
open Go.RowKit
set_option linter.unusedVariables false

set_option maxHeartbeats 400000 in
theorem norm_any (a : Int) (w : World) (h0 : 0 ≤ a) (h1 : a ≤ 18446744073709551615) :
    Calls Tryz.prog 48 #[.int .u64 a] w fun e w' => e = .returned (.int .u64 (nrm a)) ∧ w' = w := by
  have hm := mask61 a h0 h1
  go_enter Tryz.func48, Tryz.ntmps48
  go_wp2
  · go_ret
    exact ⟨ret_u64 (nrm_up a h0 (by assumption) h1), rfl⟩
  · go_ret
    exact ⟨ret_u64 (nrm_low a h0 (by assumption)), rfl⟩

set_option maxHeartbeats 400000 in
theorem add_any (a b : Int) (w : World) (h0 : 0 ≤ a) (h1 : a ≤ 18446744073709551615) (g0 : 0 ≤ b) (g1 : b ≤ 18446744073709551615) :
    Calls Tryz.prog 77 #[.int .u64 a, .int .u64 b] w fun e w' => e = .returned (.int .u64 (addQ a b)) ∧ w' = w := by
  obtain ⟨ra0, ra1⟩ := nrm_rng a
  obtain ⟨rb0, rb1⟩ := nrm_rng b
  go_enter Tryz.func77, Tryz.ntmps77
  go_wp2_with (go_at_call 48; refine (norm_any _ _ (by omega) (by omega)).mono ?_; rintro e w' ⟨rfl, rfl⟩)
  go_ret
  exact ⟨ret_u64 (nrm_add a b), rfl⟩

set_option maxHeartbeats 400000 in
theorem sub_any (a b : Int) (w : World) (h0 : 0 ≤ a) (h1 : a ≤ 18446744073709551615) (g0 : 0 ≤ b) (g1 : b ≤ 18446744073709551615) :
    Calls Tryz.prog 76 #[.int .u64 a, .int .u64 b] w fun e w' => e = .returned (.int .u64 (subQ a b)) ∧ w' = w := by
  obtain ⟨ra0, ra1⟩ := nrm_rng a
  obtain ⟨rb0, rb1⟩ := nrm_rng b
  go_enter Tryz.func76, Tryz.ntmps76
  go_wp2_with (go_at_call 48; refine (norm_any _ _ (by omega) (by omega)).mono ?_; rintro e w' ⟨rfl, rfl⟩)
  go_ret
  exact ⟨ret_u64 (nrm_sub a b), rfl⟩

theorem tuple_u64 {a b c d : Int} (h : a = c) (g : b = d) : Ending.returned (.tuple #[.int .u64 a, .int .u64 b]) = .returned (.tuple #[.int .u64 c, .int .u64 d]) := by rw [h, g]

set_option maxHeartbeats 1000000 in
theorem mul64_any (x y : Int) (w : World) (hx0 : 0 ≤ x) (hx : x ≤ 18446744073709551615) (hy0 : 0 ≤ y) (hy : y ≤ 18446744073709551615) :
    Calls Tryz.prog 112 #[.int .u64 x, .int .u64 y] w fun e w' => e = .returned (.tuple #[.int .u64 (x * y / 18446744073709551616), .int .u64 (x * y % 18446744073709551616)]) ∧ w' = w := by
  obtain ⟨a, b, c, d, ha, hb, hc, hd, a0, a1, b0, b1, c0, c1, d0, d1, hh, hl⟩ := halves x y hx0 hx hy0 hy
  have HH := hid hh
  clear hh
  have mx := mask32 x hx0 hx
  have my := mask32 y hy0 hy
  have mt := mask32 (b + d / 4294967296) (by omega) (by omega)
  go_enter Tryz.func112, Tryz.ntmps112
  go_wp2
  go_ret2
  exact ⟨tuple_u64 HH.out (IntKind.wrap_u64 _), rfl⟩

set_option maxHeartbeats 1000000 in
theorem mul_any (a b : Int) (w : World) (h0 : 0 ≤ a) (h1 : a ≤ 18446744073709551615) (g0 : 0 ≤ b) (g1 : b ≤ 18446744073709551615) :
    Calls Tryz.prog 78 #[.int .u64 a, .int .u64 b] w fun e w' => e = .returned (.int .u64 (mulQ a b)) ∧ w' = w := by
  obtain ⟨ra0, ra1⟩ := nrm_rng a
  obtain ⟨rb0, rb1⟩ := nrm_rng b
  obtain ⟨p0, p1⟩ := prod_rng a b
  go_enter Tryz.func78, Tryz.ntmps78
  go_wp2_with fail
  refine (norm_any _ _ (by omega) (by omega)).mono ?_
  rintro e w' ⟨rfl, rfl⟩
  go_wp2_with fail
  refine (norm_any _ _ (by omega) (by omega)).mono ?_
  rintro e w' ⟨rfl, rfl⟩
  go_wp2_with fail
  refine (mul64_any _ _ _ (by omega) (by omega) (by omega) (by omega)).mono ?_
  rintro e w' ⟨rfl, rfl⟩
  have hmu : mulQ a b = nrm (nrm a * nrm b) := (nrm_mul a b).symm
  have HM := hid hmu
  clear hmu
  generalize nrm a * nrm b = m at *
  obtain ⟨i0, i1⟩ := hi_rng m p0 p1
  have hm := mask61 (m % 18446744073709551616) (by omega) (by omega)
  have hj := join3 (m / 18446744073709551616) (m % 18446744073709551616 / 2305843009213693952) (by omega) (by omega) (by omega) (by omega)
  go_wp2_with fail
  refine (norm_any _ _ (by omega) (by omega)).mono ?_
  rintro e w' ⟨rfl, rfl⟩
  go_wp2_with fail
  go_ret
  exact ⟨ret_u64 (by rw [HM.out]; exact fold61 m p0), rfl⟩

end Go.Proofs.YtbchbmelofojkaaGreatDoor
