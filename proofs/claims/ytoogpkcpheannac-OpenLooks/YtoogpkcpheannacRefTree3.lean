/-
  Contracts of tallyref's Climb, for every place and path; it writes nothing that was there.
-/
import Derived.Test.YtoogpkcpheannacRefTree2
import Derived.Test.YtoogpkcpheannacRefVars
namespace Go.Proofs.Ytoogpkcpheannac
open Go.RowKit
set_option linter.unusedVariables false
attribute [local go_sem ↓] Go.wp_at_zero Go.wp_at_succ

theorem rpair_prQ (a b : Int) (W : World) (h0 : 0 ≤ a) (h1 : a ≤ 18446744073709551615) (g0 : 0 ≤ b) (g1 : b ≤ 18446744073709551615) : Calls Try.prog 13 #[.int .u64 a, .int .u64 b] W fun e w' => e = .returned (.int .u64 (prQ a b)) ∧ Below W.heap.size W w' := rpair_any a b W h0 h1 g0 g1

set_option maxHeartbeats 400000 in
set_option maxRecDepth 100000 in
theorem rclimb_any (n : Nat) : ∀ (cap i : Nat) (ao : Option Addr) (leaf : Int) (p : Nat → Int) (w : World), n ≤ 8 → n ≤ cap → PRow w ao n p → Nums p → i < 2 ^ n → 0 ≤ leaf → leaf ≤ 18446744073709551615 →
    Calls Try.prog 14 #[.int .i64 (i : Int), .int .u64 leaf, .slice ao n cap] w fun e w' => e = .returned (.int .u64 (climbQ n i leaf p)) ∧ Below w.heap.size w w' := by
  induction n with
  | zero =>
    intro cap i ao leaf p w _ hc hr hv hi l0 l1
    have HP := hid (rpair_prQ leaf 0 w l0 l1 (by omega) (by omega))
    clear hr hv
    go_enter Try.func14, Try.ntmps14
    go_wp2_with (go_at_call 13; refine (HP.out).mono ?_; rintro e w1 ⟨rfl, hb⟩; have HB := hid hb; clear hb)
    go_ret
    exact ⟨rfl, HB.out⟩
  | succ n ih =>
    intro cap i ao leaf p w hn hc hpr hv hi l0 l1
    obtain ⟨b, off, rfl, hr⟩ := hpr (by omega)
    clear hpr
    obtain ⟨h, hh⟩ : ∃ h, 2 ^ n = h := ⟨_, rfl⟩
    have hN8 : 2 ^ n ≤ 2 ^ 7 := Nat.pow_le_pow_right (by omega) (by omega)
    rw [two_pow_succ, hh] at hi
    rw [hh] at hN8
    have hlt := hr.lt (by omega)
    have cn := hr n (by omega)
    have vn := hv n
    obtain ⟨x, hx⟩ : ∃ x, p n = x := ⟨_, rfl⟩
    rw [hx] at cn vn
    obtain ⟨x0, x1⟩ := vn
    have e1 : (((n + 1 : Nat) : Int) == 0) = false := beq_eq_false_iff_ne.2 (by omega)
    have i0 : (0 : Int) ≤ (n : Int) := by omega
    have i1 : (n : Int) < (n : Int) + 1 := by omega
    have i2 : (n : Int) ≤ (cap : Int) := by omega
    have ws : IntKind.i64.wrap (n : Int) = (n : Int) := IntWalk.i64_in _ (by omega)
    have HSH : Hid (wrap64 ((2 : Int) ^ n) = (h : Int)) := hid (by rw [← hh]; exact shl_one (by omega))
    have hN9 : h ≤ 128 := hN8
    clear hN8
    by_cases hlow : i < h
    · obtain ⟨y, hy⟩ : ∃ y, climbQ n i leaf p = y := ⟨_, rfl⟩
      have HC := hid (fun (m c : Nat) (W : World) (hm : m = n) (hc2 : m ≤ c) (hb : Below w.heap.size w W) => (by subst hm; have := ih c i (some ⟨b, off, none⟩) leaf p W (by omega) hc2 (PRow.of fun j hj => (hr.kept hb hlt) j (by omega)) hv (by rw [hh]; exact hlow) l0 l1; rw [hy] at this; exact this : Calls Try.prog 14 #[.int .i64 (i : Int), .int .u64 leaf, .slice (some ⟨b, off, none⟩) m c] W fun e w' => e = .returned (.int .u64 y) ∧ Below W.heap.size W w'))
      have yr := climbQ_rng n i leaf p
      rw [hy] at yr
      have HP := hid (fun W => rpair_prQ y x W (by omega) (by omega) x0 x1)
      have HX : Hid (prQ y x = climbQ (n + 1) i leaf p) := hid (by rw [climbQ, hh, if_pos hlow, hy, hx])
      have HLT := hid hlt
      have hlw : (i : Int) < (h : Int) := by omega
      clear ih hr hv hh hx hy yr
      have hsh := HSH.out
      go_enter Try.func14, Try.ntmps14
      go_wp2_with fail
      go_region_held3 (fun w' => w'.cell? ⟨b, off + n, none⟩ = some (.int .u64 x)) (first | assumption | go_keep) (first
        | (go_at_call 14; refine (HC.out _ _ _ (by omega) (by omega) (by exact (Below.refl _ w).drew)).mono ?_; rintro e w1 ⟨rfl, hb⟩; have hb1 : Below w.heap.size w w1 := (by exact (Below.refl _ w).drew.trans hb); have cn1 : w1.cell? ⟨b, off + n, none⟩ = some (.int .u64 x) := (hb1.cell HLT.out).trans cn; clear hb)
        | (go_at_call 13; refine (HP.out _).mono ?_; rintro e w2 ⟨rfl, hb⟩; have hb2 : Below w.heap.size w w2 := hb1.trans (hb.mono hb1.size); have cn2 : w2.cell? ⟨b, off + n, none⟩ = some (.int .u64 x) := (hb2.cell HLT.out).trans cn; clear hb))
      all_goals (go_wp2_with fail)
      all_goals go_ret
      all_goals exact ⟨ret_u64 HX.out, hb2⟩
    · obtain ⟨y, hy⟩ : ∃ y, climbQ n (i - h) leaf p = y := ⟨_, rfl⟩
      have HC := hid (fun (m c : Nat) (q : Int) (W : World) (hm : m = n) (hc2 : m ≤ c) (hq : q = (i : Int) - h) (hb : Below w.heap.size w W) => (by subst hm; rw [hq, show (i : Int) - h = ((i - h : Nat) : Int) from by omega]; have := ih c (i - h) (some ⟨b, off, none⟩) leaf p W (by omega) hc2 (PRow.of fun j hj => (hr.kept hb hlt) j (by omega)) hv (by rw [hh]; omega) l0 l1; rw [hy] at this; exact this : Calls Try.prog 14 #[.int .i64 q, .int .u64 leaf, .slice (some ⟨b, off, none⟩) m c] W fun e w' => e = .returned (.int .u64 y) ∧ Below W.heap.size W w'))
      have yr := climbQ_rng n (i - h) leaf p
      rw [hy] at yr
      have HP := hid (fun W => rpair_prQ x y W x0 x1 (by omega) (by omega))
      have HX : Hid (prQ x y = climbQ (n + 1) i leaf p) := hid (by rw [climbQ, hh, if_neg hlow, hy, hx])
      have HLT := hid hlt
      have hlw : ¬ (i : Int) < (h : Int) := by omega
      have hws : IntKind.i64.wrap ((i : Int) - (h : Int)) = (i : Int) - (h : Int) := IntWalk.i64_in _ (by omega)
      clear ih hr hv hh hx hy yr
      have hsh := HSH.out
      go_enter Try.func14, Try.ntmps14
      go_wp2_with fail
      go_region_held3 (fun w' => w'.cell? ⟨b, off + n, none⟩ = some (.int .u64 x)) (first | assumption | go_keep) (first
        | (go_at_call 14; refine (HC.out _ _ _ _ (by omega) (by omega) (by omega) (by exact (Below.refl _ w).drew)).mono ?_; rintro e w1 ⟨rfl, hb⟩; have hb1 : Below w.heap.size w w1 := (by exact (Below.refl _ w).drew.trans hb); have cn1 : w1.cell? ⟨b, off + n, none⟩ = some (.int .u64 x) := (hb1.cell HLT.out).trans cn; clear hb)
        | (go_at_call 13; refine (HP.out _).mono ?_; rintro e w2 ⟨rfl, hb⟩; have hb2 : Below w.heap.size w w2 := hb1.trans (hb.mono hb1.size); have cn2 : w2.cell? ⟨b, off + n, none⟩ = some (.int .u64 x) := (hb2.cell HLT.out).trans cn; clear hb))
      all_goals (go_wp2_with fail)
      all_goals go_ret
      all_goals exact ⟨ret_u64 HX.out, hb2⟩

end Go.Proofs.Ytoogpkcpheannac
