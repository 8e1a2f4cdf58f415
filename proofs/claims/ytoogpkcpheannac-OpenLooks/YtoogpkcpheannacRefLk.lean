/-
  A contract of tallyref's Places, for every list of places; nothing is written.
-/
import Derived.Test.YtoogpkcpheannacOpE
import Derived.Test.YtoogpkcpheannacRefIn
import Derived.Test.YtoogpkcpheannacRefN
namespace Go.Proofs.Ytoogpkcpheannac
open Go.RowKit
set_option linter.unusedVariables false
attribute [local go_sem ↓] Go.wp_at_zero Go.wp_at_succ

theorem shl_q8 {k : Nat} (hk : k ≤ 8) : IntKind.i64.wrap ((2 : Int) ^ k) = ((2 ^ k : Nat) : Int) := by
  have h : 2 ^ k ≤ 256 := pow_c8 hk
  rw [show ((2 : Int) ^ k) = ((2 ^ k : Nat) : Int) from by simp]
  generalize 2 ^ k = M at h
  exact IntWalk.i64_in _ (by omega)
theorem hfQ_zero (n : Nat) : hfQ n 0 = 2 ^ (n - 1) := by unfold hfQ; rfl
theorem ok_next {m k : Nat} {p : Nat → Int} {H : Int} {r b : Bool} (h : r = true ↔ m ≤ 32 ∧ ∀ j, j < k → 0 ≤ p j ∧ p j < H) (hb : b = true ↔ 0 ≤ p k ∧ p k < H) : ((r && b) = true ↔ m ≤ 32 ∧ ∀ j, j < k + 1 → 0 ≤ p j ∧ p j < H) := by
  rw [Bool.and_eq_true, h, hb]
  constructor
  · rintro ⟨⟨h1, h2⟩, h3⟩
    refine ⟨h1, fun j hj => ?_⟩
    by_cases e : j = k
    · rw [e]; exact h3
    · exact h2 j (by omega)
  · rintro ⟨h1, h2⟩
    exact ⟨⟨h1, fun j hj => h2 j (by omega)⟩, h2 k (by omega)⟩
set_option maxHeartbeats 4000000 in
set_option maxRecDepth 100000 in
theorem rplaces_any (m cap n : Nat) (ao : Option Addr) (p : Nat → Int) (w : World) (hn1 : 1 ≤ n) (hn : n ≤ 8) (hm : m ≤ maxLen) (hr : IRowP w ao m p) :
    Calls Try.prog 11 #[.slice ao m cap, .int .i64 (n : Int)] w fun e w' => ∃ r : Bool, e = .returned (.bool r) ∧ (r = true ↔ plOk m n p) ∧ Below w.heap.size w w' := by
  have hm2 : m ≤ 9223372036854775807 := hm
  have HR := hid hr
  obtain ⟨q, hq⟩ : ∃ q, n - 1 = q := ⟨_, rfl⟩
  obtain ⟨H, hH⟩ : ∃ H, hfQ n 0 = H := ⟨_, rfl⟩
  have HPL : Hid (∀ r : Bool, (r = true ↔ m ≤ 32 ∧ ∀ j, j < m → 0 ≤ p j ∧ p j < (H : Int)) → (r = true ↔ plOk m n p)) := hid (fun r h => by unfold plOk; rw [hH]; exact h)
  have hH1 : 1 ≤ H := by rw [← hH]; exact hfQ_pos n 0
  have hH2 : H ≤ 256 := by rw [← hH]; exact hfQ_le hn
  have HS1 : Hid (wrap64 ((2 : Int) ^ q) = (H : Int)) := hid (by rw [← hH, hfQ_zero, hq]; exact shl_c8 (by omega))
  have HS2 : Hid (IntKind.i64.wrap ((2 : Int) ^ q) = (H : Int)) := hid (by rw [← hH, hfQ_zero, hq]; exact shl_q8 (by omega))
  have hq2 : (n : Int) - 1 = (q : Int) := by omega
  have q8 : q ≤ 8 := by omega
  have HI := hid (fun (x : Int) W => rin_any x 0 ((H : Int) - 1) W)
  obtain ⟨r0, hr0⟩ : ∃ r0 : Bool, decide ((m : Int) ≤ 32) = r0 := ⟨_, rfl⟩
  have HR0 : Hid (r0 = true ↔ m ≤ 32 ∧ ∀ j, j < 0 → 0 ≤ p j ∧ p j < (H : Int)) := hid (by rw [← hr0, decide_eq_true_iff]; exact ⟨fun h => ⟨by omega, fun j hj => absurd hj (by omega)⟩, fun h => by have := h.1; omega⟩)
  clear hr hH hq
  go_enter Try.func11, Try.ntmps11
  go_wp2_with fail
  go_loopg [5, 6] m (fun g x5 x6 wr => ∃ (k : Nat) (r : Bool), k ≤ m ∧ g = m - k ∧ x5 = .bool r ∧ x6 = .int .i64 (k : Int) ∧ Hid (r = true ↔ m ≤ 32 ∧ ∀ j, j < k → 0 ≤ p j ∧ p j < (H : Int)) ∧ Hid (Below w.heap.size w wr))
  case atStart => exact ⟨0, r0, by omega, rfl, rfl, rfl, HR0, hid (Below.refl _ _)⟩
  case round =>
    clear HR0 hr0
    obtain ⟨k, r, hk, rfl, rfl, rfl, HK, HB⟩ := hrel
    by_cases hlt : k < m
    · obtain ⟨b, off, rfl, hrow⟩ := (HR.out.kept HB.out) (by omega)
      have c1 := hrow k hlt
      obtain ⟨x, hx⟩ : ∃ x, p k = x := ⟨_, rfl⟩
      rw [hx] at c1
      have HX := hid hx
      clear hrow hx
      have k0 : (0 : Int) ≤ (k : Int) := by omega
      have k1 : (k : Int) < (m : Int) := by omega
      cases r with
      | false =>
        have HK2 : Hid (false = true ↔ m ≤ 32 ∧ ∀ j, j < k + 1 → 0 ≤ p j ∧ p j < (H : Int)) := hid ⟨fun h => (by cases h), fun h => HK.out.2 ⟨h.1, fun j hj => h.2 j (by omega)⟩⟩
        clear HK
        go_wp2_with fail
        go_quiet (fail)
        go_wp2_with fail
        go_roundg (m - (k + 1))
        case measure => go_light; omega
        case rel => exact ⟨k + 1, false, by omega, rfl, rfl, by go_num, HK2, hid (Below.drewN' HB.out _)⟩
      | true =>
        have hs1 := HS1.out
        have hs2 := HS2.out
        obtain ⟨b2, hb2⟩ : ∃ b2, (decide ((0 : Int) ≤ x) && decide (x ≤ (H : Int) - 1)) = b2 := ⟨_, rfl⟩
        have HI2 : Hid (∀ W, Calls Try.prog 10 #[.int .i64 x, .int .i64 0, .int .i64 ((H : Int) - 1)] W fun e w' => e = .returned (.bool b2) ∧ w' = W) := hid (fun W => by rw [← hb2]; exact HI.out x W)
        have HK2 : Hid (b2 = true ↔ m ≤ 32 ∧ ∀ j, j < k + 1 → 0 ≤ p j ∧ p j < (H : Int)) := hid (by
          have := ok_next (b := b2) HK.out (by rw [HX.out, ← hb2]; simp; omega)
          rwa [Bool.true_and] at this)
        clear HK hb2
        go_wp2_with fail
        go_quiet (first | (go_at_call 10; exact Calls.quiet_of_same (HI2.out _)))
        clear hs1 hs2
        go_wp2_with fail
        go_roundg (m - (k + 1))
        case measure => go_light; omega
        case rel => exact ⟨k + 1, b2, by omega, rfl, rfl, by go_num, HK2, hid (Below.drewN' HB.out _)⟩
    · have e : k = m := by omega
      subst e
      go_wp2_with fail
      go_ret
      exact ⟨r, rfl, HPL.out r HK.out, HB.out⟩

end Go.Proofs.Ytoogpkcpheannac
