/-
  Contracts of math/bits' OnesCount and TrailingZeros: OnesCount answers what popQ reckons, for every number of 64 bits; TrailingZeros answers k at 2^k, k from 0 to 8, where its table lies as the program's text lays it. Nothing is written.
-/
import Derived.Test.YtbchbmelofojkaaGreatDoorChecked
import Derived.Test.YtbchbmelofojkaaGreatDoorMem
import Derived.WalkKit
namespace Go.Proofs.YtbchbmelofojkaaGreatDoor
open Go.RowKit
set_option linter.unusedVariables false

def pop1 (x : Int) : Int := IntKind.u64.wrap (bits .and .u64 (x / 2) 6148914691236517205 + bits .and .u64 x 6148914691236517205)
def pop2 (x : Int) : Int := IntKind.u64.wrap (bits .and .u64 (pop1 x / 4) 3689348814741910323 + bits .and .u64 (pop1 x) 3689348814741910323)
def pop3 (x : Int) : Int := bits .and .u64 (IntKind.u64.wrap (pop2 x / 16 + pop2 x)) 1085102592571150095
def pop4 (x : Int) : Int := IntKind.u64.wrap (pop3 x + pop3 x / 256)
def pop5 (x : Int) : Int := IntKind.u64.wrap (pop4 x + pop4 x / 65536)
def pop6 (x : Int) : Int := IntKind.u64.wrap (pop5 x + pop5 x / 4294967296)
def popQ (x : Int) : Int := bits .and .i64 (wrap64 (pop6 x)) 127

theorem ret_i64 {a b : Int} (h : a = b) : Ending.returned (.int .i64 a) = .returned (.int .i64 b) := by rw [h]
set_option maxHeartbeats 1000000 in
theorem ones64_any (x : Int) (w : World) (h0 : 0 ≤ x) (h1 : x ≤ 18446744073709551615) :
    Calls Tryz.prog 109 #[.int .u64 x] w fun e w' => e = .returned (.int .i64 (popQ x)) ∧ w' = w := by
  go_enter Tryz.func109, Tryz.ntmps109
  go_wp2
  go_ret
  exact ⟨ret_i64 rfl, rfl⟩
set_option maxHeartbeats 1000000 in
theorem ones_any (x : Int) (w : World) (h0 : 0 ≤ x) (h1 : x ≤ 18446744073709551615) :
    Calls Tryz.prog 74 #[.int .u64 x] w fun e w' => e = .returned (.int .i64 (popQ x)) ∧ w' = w := by
  go_enter Tryz.func74, Tryz.ntmps74
  go_wp2_with (go_at_call 109; refine (ones64_any _ _ (by omega) (by omega)).mono ?_; rintro e w' ⟨rfl, hw⟩; obtain rfl := hw.symm)
  go_ret
  exact ⟨rfl, rfl⟩
/-- How many bits: one, of the numbers up to 256, at the powers of 2 alone. -/
def isPow (x : Nat) : Bool := x == 1 || x == 2 || x == 4 || x == 8 || x == 16 || x == 32 || x == 64 || x == 128 || x == 256
theorem pop_all : ((List.range 257).all fun x => (popQ (x : Int) == 1) == isPow x) = true := by kernel_rfl
theorem pop_small (x : Nat) (h : x ≤ 256) : (popQ (x : Int) == 1) = isPow x := by
  have := List.all_eq_true.1 pop_all x (List.mem_range.2 (by omega))
  simpa using this

/-- Go's table deBruijn64tab, as far as it is looked into here. -/
def tabL : List (Nat × Int) := [(0, 0), (1, 1), (3, 2), (7, 3), (15, 4), (31, 5), (63, 6), (62, 7), (61, 8)]
/-- It lies in its variable's block. -/
def Tab (w : World) : Prop := 1 + 1 ≤ w.heap.size ∧ ∀ p, p ∈ tabL → w.cell? ⟨1, p.1, none⟩ = some (.int .u8 p.2)
theorem Tab.kept {w w' : World} {B : Nat} (h : Tab w) (hb : Below B w w') (hB : 1 + 1 ≤ B) : Tab w' :=
  ⟨by have h1 := h.1; have h2 := hb.size; omega, fun p hp => (hb.cell (show 1 < B by omega)).trans (h.2 p hp)⟩
theorem Tab.drew {w : World} (h : Tab w) : Tab w.drew := h

set_option maxHeartbeats 1000000 in
theorem tz64_at (x nx pr : Int) (i : Nat) (k : Int) (w : World) (hx : 1 ≤ x) (hx2 : x ≤ 256) (h1 : IntKind.u64.wrap (-x) = nx) (h2 : bits .and .u64 x nx = x) (h3 : IntKind.u64.wrap (x * 285870213051353865) = pr) (h4 : pr / 288230376151711744 = (i : Int)) (hi : i < 64) (k0 : 0 ≤ k) (k1 : k ≤ 8)
    (c : w.cell? ⟨1, i, none⟩ = some (.int .u8 k)) :
    Calls Tryz.prog 111 #[.int .u64 x] w fun e w' => e = .returned (.int .i64 k) ∧ w' = w := by
  have hz : (x == 0) = false := beq_eq_false_iff_ne.2 (by omega)
  have hi0 : (0 : Int) ≤ (i : Int) := by omega
  have hi1 : (i : Int) < 64 := by omega
  have hp : 0 ≤ pr := by rw [← h3, IntKind.wrap_u64]; omega
  go_enter Tryz.func111, Tryz.ntmps111
  go_wp2
  go_ret
  exact ⟨rfl, rfl⟩
theorem tz64_pow (k : Nat) (x : Int) (w : World) (hk : k ≤ 8) (hx : x = 2 ^ k) (ht : Tab w) :
    Calls Tryz.prog 111 #[.int .u64 x] w fun e w' => e = .returned (.int .i64 (k : Int)) ∧ w' = w := by
  subst hx
  obtain rfl | rfl | rfl | rfl | rfl | rfl | rfl | rfl | rfl : k = 0 ∨ k = 1 ∨ k = 2 ∨ k = 3 ∨ k = 4 ∨ k = 5 ∨ k = 6 ∨ k = 7 ∨ k = 8 := by omega
  · exact tz64_at _ _ _ 0 0 w (by decide) (by decide) rfl rfl rfl rfl (by decide) (by decide) (by decide) (ht.2 (0, 0) (by decide))
  · exact tz64_at _ _ _ 1 1 w (by decide) (by decide) rfl rfl rfl rfl (by decide) (by decide) (by decide) (ht.2 (1, 1) (by decide))
  · exact tz64_at _ _ _ 3 2 w (by decide) (by decide) rfl rfl rfl rfl (by decide) (by decide) (by decide) (ht.2 (3, 2) (by decide))
  · exact tz64_at _ _ _ 7 3 w (by decide) (by decide) rfl rfl rfl rfl (by decide) (by decide) (by decide) (ht.2 (7, 3) (by decide))
  · exact tz64_at _ _ _ 15 4 w (by decide) (by decide) rfl rfl rfl rfl (by decide) (by decide) (by decide) (ht.2 (15, 4) (by decide))
  · exact tz64_at _ _ _ 31 5 w (by decide) (by decide) rfl rfl rfl rfl (by decide) (by decide) (by decide) (ht.2 (31, 5) (by decide))
  · exact tz64_at _ _ _ 63 6 w (by decide) (by decide) rfl rfl rfl rfl (by decide) (by decide) (by decide) (ht.2 (63, 6) (by decide))
  · exact tz64_at _ _ _ 62 7 w (by decide) (by decide) rfl rfl rfl rfl (by decide) (by decide) (by decide) (ht.2 (62, 7) (by decide))
  · exact tz64_at _ _ _ 61 8 w (by decide) (by decide) rfl rfl rfl rfl (by decide) (by decide) (by decide) (ht.2 (61, 8) (by decide))
set_option maxHeartbeats 1000000 in
theorem tz_pow (k : Nat) (x : Int) (w : World) (hk : k ≤ 8) (hx : x = 2 ^ k) (ht : Tab w) :
    Calls Tryz.prog 75 #[.int .u64 x] w fun e w' => e = .returned (.int .i64 (k : Int)) ∧ w' = w := by
  have HC := hid (tz64_pow k x w hk hx ht)
  clear ht hx
  go_enter Tryz.func75, Tryz.ntmps75
  go_wp2_with (go_at_call 111; refine (HC.out).mono ?_; rintro e w' ⟨rfl, hw⟩; obtain rfl := hw.symm)
  go_ret
  exact ⟨rfl, rfl⟩

end Go.Proofs.YtbchbmelofojkaaGreatDoor
