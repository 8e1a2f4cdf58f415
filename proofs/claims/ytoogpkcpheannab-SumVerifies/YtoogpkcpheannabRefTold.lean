/-
  A contract of tallyref's Told: for every claim, every list of at most 1000 rounds of as many values (2 to 1000) and as many draws: what is claimed at last, or the first round that does not fit; nothing is written.
-/
import Derived.Test.YtoogpkcpheannabLists
import Derived.Test.YtoogpkcpheannabSums
import Derived.Test.YtoogpkcpheannabRefAt
import Derived.Test.YtoogpkcpheannabRefN
import Derived.Deep.RegionHeld3
import Derived.Deep.RegionWith
import Derived.Deep.OwnRows
import Derived.Deep.DrawnRows
import Derived.Deep.Quiet
import Derived.Deep.QuietTactic
namespace Go.Proofs.Ytoogpkcpheannab
open Go.RowKit
set_option linter.unusedVariables false
attribute [local go_sem ↓] Go.wp_at_zero Go.wp_at_succ

set_option maxHeartbeats 8000000 in
set_option maxRecDepth 100000 in
theorem told_ok (ao ad : Option Addr) (m cap cd c : Nat) (A : Nat → Option Addr) (L C : Nat → Nat) (F : Nat → Nat → Int) (D : Nat → Int) (claim : Int) (w : World) (hm : m ≤ 1000) (hc2 : 2 ≤ c) (hc : c ≤ 1000) (h0 : 0 ≤ claim) (h1 : claim ≤ 18446744073709551615)
    (hl : LRow w ao m A L C F) (hL : ∀ i, i < m → L i = c) (hF : ∀ i, i < m → Nums (F i)) (hd : PRow w ad m D) (hD : Nums D) (hall : ∀ k, k < m → addQ (F k 0) (F k 1) = nrm (toldQ claim F c D k)) :
    Calls Try.prog 6 #[.int .u64 claim, .slice ao m cap, .slice ad m cd] w fun e w' => e = .returned (.tuple #[.int .u64 (nrm (toldQ claim F c D m)), .bool true]) ∧ Below w.heap.size w w' := by
  have HL := hid hl
  have HLL := hid hL
  have HF := hid hF
  have HD := hid hd
  have HDD := hid hD
  have HA := hid hall
  have HT := hid (toldQ_rng h0 h1 F c D)
  clear hl hL hF hd hD hall
  go_enter Try.func6, Try.ntmps6
  go_wp2_with fail
  go_loopg [0, 8] m (fun q x i wr => ∃ (k : Nat) (z : Int), k ≤ m ∧ q = m - k ∧ x = .int .u64 z ∧ i = .int .i64 (k : Int) ∧ 0 ≤ z ∧ z ≤ 18446744073709551615 ∧ Hid (z = toldQ claim F c D k) ∧ Hid (LRow wr ao m A L C F) ∧ Hid (PRow wr ad m D) ∧ Hid (Below w.heap.size w wr))
  case atStart => exact ⟨0, claim, by omega, rfl, rfl, rfl, h0, h1, hid rfl, HL, HD, hid (Below.refl _ _)⟩
  case round =>
    clear HL HD
    obtain ⟨k, z, hk, rfl, rfl, rfl, z0, z1, HZ, HL, HD, HB⟩ := hrel
    by_cases hlt : k < m
    · obtain ⟨b, off, rfl, hr⟩ := HL.out (by omega)
      obtain ⟨bd, od, rfl, hrd⟩ := HD.out (by omega)
      have cl := (hr k hlt).1
      obtain ⟨br, or, eA, hrr⟩ := (hr k hlt).2 (by rw [HLL.out k hlt]; omega)
      rw [eA, HLL.out k hlt] at cl
      rw [HLL.out k hlt] at hrr
      have c0 := hrr 0 (by omega)
      have c1 := hrr 1 (by omega)
      have cdr := hrd k hlt
      rw [Nat.add_zero] at c0
      obtain ⟨f0, e0⟩ : ∃ y, F k 0 = y := ⟨_, rfl⟩
      obtain ⟨f1, e1⟩ : ∃ y, F k 1 = y := ⟨_, rfl⟩
      obtain ⟨dk, ed⟩ : ∃ y, D k = y := ⟨_, rfl⟩
      have b0 := HF.out k hlt 0
      have b1 := HF.out k hlt 1
      have bD := HDD.out k
      have hfit := HA.out k hlt
      rw [e0] at c0 b0 hfit
      rw [e1] at c1 b1 hfit
      rw [ed] at cdr bD
      rw [← HZ.out] at hfit
      obtain ⟨b00, b01⟩ := b0
      obtain ⟨b10, b11⟩ := b1
      obtain ⟨bd0, bd1⟩ := bD
      have hb : (addQ f0 f1 != nrm z) = false := by rw [hfit]; simp
      have HRR := hid hrr
      have hat := fun w' (h : Row w' br or c (F k)) => rat_any br or c (C k) (F k) dk w' (by omega) h (HF.out k hlt) bd0 bd1
      have hat2 : toldQ claim F c D (k + 1) = atQ (F k) c dk := by rw [← ed]; rfl
      have HNX := hid hat2
      obtain ⟨a0, a1⟩ := atQ_rng (F k) c dk
      generalize atQ (F k) c dk = y at hat hat2 HNX a0 a1
      have HAT := hid hat
      clear hr hrd hrr hfit hat hat2 eA e0 e1 ed
      have k0 : (0 : Int) ≤ (k : Int) := by omega
      have k1 : (k : Int) < (m : Int) := by omega
      have cc0 : (0 : Int) < (c : Int) := by omega
      have cc1 : (1 : Int) < (c : Int) := by omega
      have cn0 : 0 < c := by omega
      have cn1 : 1 < c := by omega
      have cn2 : ¬ c = 0 := by omega
      have cn3 : ¬ c ≤ 1 := by omega
      go_wp2_with fail
      go_quiet (first | (go_at_call 22; exact Calls.quiet_of_same (radd_any _ _ _ (by omega) (by omega) (by omega) (by omega))) | (go_at_call 23; exact Calls.quiet_of_same (rnorm_any _ _ (by omega) (by omega))))
      go_wp2_with fail
      go_region_with (first | (go_at_call 24; refine (HAT.out _ (by exact HRR.out)).mono ?_; rintro e w' ⟨rfl, hw⟩; obtain rfl := hw.symm))
      all_goals (go_wp2_with fail)
      all_goals (go_roundg (m - (k + 1)))
      all_goals first | (go_light; omega) | (exact ⟨k + 1, y, by omega, rfl, rfl, by go_num, a0, by omega, hid HNX.out.symm, hid (by exact HL.out), hid (by exact HD.out), hid (by exact ⟨HB.out.os, HB.out.tape, HB.out.output, HB.out.size, HB.out.block⟩)⟩)
    · have e : k = m := by omega
      subst e
      go_wp2_with (go_at_call 23; refine (rnorm_any _ _ (by omega) (by omega)).mono ?_; rintro e w' ⟨rfl, hw⟩; obtain rfl := hw.symm)
      go_ret2
      exact ⟨by rw [HZ.out]; rfl, HB.out⟩

set_option maxHeartbeats 8000000 in
set_option maxRecDepth 100000 in
theorem told_bad (ao ad : Option Addr) (m cap cd c : Nat) (A : Nat → Option Addr) (L C : Nat → Nat) (F : Nat → Nat → Int) (D : Nat → Int) (claim : Int) (w : World) (hm : m ≤ 1000) (hc2 : 2 ≤ c) (hc : c ≤ 1000) (h0 : 0 ≤ claim) (h1 : claim ≤ 18446744073709551615)
    (hl : LRow w ao m A L C F) (hL : ∀ i, i < m → L i = c) (hF : ∀ i, i < m → Nums (F i)) (hd : PRow w ad m D) (hD : Nums D) (t : Nat) (ht : t < m) (hall : ∀ k, k < t → addQ (F k 0) (F k 1) = nrm (toldQ claim F c D k)) (hno : addQ (F t 0) (F t 1) ≠ nrm (toldQ claim F c D t)) :
    Calls Try.prog 6 #[.int .u64 claim, .slice ao m cap, .slice ad m cd] w fun e w' => e = .returned (.tuple #[.int .u64 0, .bool false]) ∧ Below w.heap.size w w' := by
  have HL := hid hl
  have HLL := hid hL
  have HF := hid hF
  have HD := hid hd
  have HDD := hid hD
  have HA := hid hall
  have HNO := hid hno
  have HT := hid (toldQ_rng h0 h1 F c D)
  clear hl hL hF hd hD hall hno
  go_enter Try.func6, Try.ntmps6
  go_wp2_with fail
  go_loopg [0, 8] m (fun q x i wr => ∃ (k : Nat) (z : Int), k ≤ t ∧ q = m - k ∧ x = .int .u64 z ∧ i = .int .i64 (k : Int) ∧ 0 ≤ z ∧ z ≤ 18446744073709551615 ∧ Hid (z = toldQ claim F c D k) ∧ Hid (LRow wr ao m A L C F) ∧ Hid (PRow wr ad m D) ∧ Hid (Below w.heap.size w wr))
  case atStart => exact ⟨0, claim, by omega, rfl, rfl, rfl, h0, h1, hid rfl, HL, HD, hid (Below.refl _ _)⟩
  case round =>
    clear HL HD
    obtain ⟨k, z, hk, rfl, rfl, rfl, z0, z1, HZ, HL, HD, HB⟩ := hrel
    have hlt : k < m := by omega
    obtain ⟨b, off, rfl, hr⟩ := HL.out (by omega)
    obtain ⟨bd, od, rfl, hrd⟩ := HD.out (by omega)
    have cl := (hr k hlt).1
    obtain ⟨br, or, eA, hrr⟩ := (hr k hlt).2 (by rw [HLL.out k hlt]; omega)
    rw [eA, HLL.out k hlt] at cl
    rw [HLL.out k hlt] at hrr
    have c0 := hrr 0 (by omega)
    have c1 := hrr 1 (by omega)
    have cdr := hrd k hlt
    rw [Nat.add_zero] at c0
    obtain ⟨f0, e0⟩ : ∃ y, F k 0 = y := ⟨_, rfl⟩
    obtain ⟨f1, e1⟩ : ∃ y, F k 1 = y := ⟨_, rfl⟩
    obtain ⟨dk, ed⟩ : ∃ y, D k = y := ⟨_, rfl⟩
    have b0 := HF.out k hlt 0
    have b1 := HF.out k hlt 1
    have bD := HDD.out k
    rw [e0] at c0 b0
    rw [e1] at c1 b1
    rw [ed] at cdr bD
    obtain ⟨b00, b01⟩ := b0
    obtain ⟨b10, b11⟩ := b1
    obtain ⟨bd0, bd1⟩ := bD
    have HRR := hid hrr
    have hat := fun w' (h : Row w' br or c (F k)) => rat_any br or c (C k) (F k) dk w' (by omega) h (HF.out k hlt) bd0 bd1
    have hat2 : toldQ claim F c D (k + 1) = atQ (F k) c dk := by rw [← ed]; rfl
    have HNX := hid hat2
    obtain ⟨a0, a1⟩ := atQ_rng (F k) c dk
    generalize atQ (F k) c dk = y at hat hat2 HNX a0 a1
    have HAT := hid hat
    have E0 := hid e0
    have E1 := hid e1
    clear hr hrd hrr hat hat2 eA e0 e1 ed
    have k0 : (0 : Int) ≤ (k : Int) := by omega
    have k1 : (k : Int) < (m : Int) := by omega
    have cc0 : (0 : Int) < (c : Int) := by omega
    have cc1 : (1 : Int) < (c : Int) := by omega
    have cn0 : 0 < c := by omega
    have cn1 : 1 < c := by omega
    have cn2 : ¬ c = 0 := by omega
    have cn3 : ¬ c ≤ 1 := by omega
    by_cases hkt : k < t
    · have hfit := HA.out k hkt
      rw [E0.out, E1.out, ← HZ.out] at hfit
      have hb : (addQ f0 f1 != nrm z) = false := by rw [hfit]; simp
      clear hfit
      go_wp2_with fail
      go_quiet (first | (go_at_call 22; exact Calls.quiet_of_same (radd_any _ _ _ (by omega) (by omega) (by omega) (by omega))) | (go_at_call 23; exact Calls.quiet_of_same (rnorm_any _ _ (by omega) (by omega))))
      go_wp2_with fail
      go_region_with (first | (go_at_call 24; refine (HAT.out _ (by exact HRR.out)).mono ?_; rintro e w' ⟨rfl, hw⟩; obtain rfl := hw.symm))
      all_goals (go_wp2_with fail)
      all_goals (go_roundg (m - (k + 1)))
      all_goals first | (go_light; omega) | (exact ⟨k + 1, y, by omega, rfl, rfl, by go_num, a0, by omega, hid HNX.out.symm, hid (by exact HL.out), hid (by exact HD.out), hid (by exact ⟨HB.out.os, HB.out.tape, HB.out.output, HB.out.size, HB.out.block⟩)⟩)
    · obtain rfl : k = t := by omega
      have hne := HNO.out
      rw [E0.out, E1.out, ← HZ.out] at hne
      have hb : (addQ f0 f1 != nrm z) = true := bne_iff_ne.2 hne
      clear hne
      go_wp2_with fail
      go_quiet (first | (go_at_call 22; exact Calls.quiet_of_same (radd_any _ _ _ (by omega) (by omega) (by omega) (by omega))) | (go_at_call 23; exact Calls.quiet_of_same (rnorm_any _ _ (by omega) (by omega))))
      go_wp2_with fail
      go_ret2
      exact ⟨rfl, by exact ⟨HB.out.os, HB.out.tape, HB.out.output, HB.out.size, HB.out.block⟩⟩

end Go.Proofs.Ytoogpkcpheannab
