/-
  Contracts of package sum's checkRounds and Verify, for every claim, every list of at most 1000 rounds and every list of draws; nothing that was there is written.
-/
import Derived.Test.YtbchbmelofojkaaGreatDoorLists
import Derived.Test.YtbchbmelofojkaaGreatDoorSums
import Derived.Test.YtbchbmelofojkaaGreatDoorUni
import Derived.Deep.Quiet
import Derived.Deep.QuietTactic
namespace Go.Proofs.YtbchbmelofojkaaGreatDoor
open Go.RowKit
set_option linter.unusedVariables false
attribute [local go_sem ↓] Go.wp_at_zero Go.wp_at_succ

/-- The first place at which something fails. -/
theorem first_no (p : Nat → Prop) (n : Nat) : (∀ k, k < n → p k) ∨ ∃ t, t < n ∧ ¬ p t ∧ ∀ k, k < t → p k := by
  induction n with
  | zero => exact .inl fun k hk => absurd hk (by omega)
  | succ n ih =>
    rcases ih with h | ⟨t, ht, h⟩
    · by_cases e : p n
      · exact .inl fun k hk => by
          by_cases e2 : k = n
          · subst e2; exact e
          · exact h k (by omega)
      · exact .inr ⟨n, by omega, e, h⟩
    · exact .inr ⟨t, by omega, h⟩

set_option maxHeartbeats 4000000 in
set_option maxRecDepth 100000 in
theorem crounds_ok (ao : Option Addr) (m cap c : Nat) (A : Nat → Option Addr) (L C : Nat → Nat) (F : Nat → Nat → Int) (w : World) (hm : m ≤ 1000) (hl : LRow w ao m A L C F) (hc2 : 2 ≤ c) (hc : c ≤ 8) (hL : ∀ i, i < m → L i = c) :
    Calls Tryz.prog 121 #[.slice ao m cap] w fun e w' => e = .returned (.int .i64 0) ∧ w' = w := by
  have HL := hid hl
  have HLL := hid hL
  clear hl hL
  go_enter Tryz.func121, Tryz.ntmps121
  go_wp2_with fail
  go_loopg [10] m (fun q i wr => ∃ k : Nat, k ≤ m ∧ q = m - k ∧ i = .int .i64 (k : Int) ∧ wr = w)
  case atStart => exact ⟨0, by omega, rfl, rfl, rfl⟩
  case round =>
    obtain ⟨k, hk, rfl, rfl, hw⟩ := hrel
    obtain rfl := hw.symm
    by_cases hlt : k < m
    · obtain ⟨B, o, rfl, hr⟩ := HL.out (by omega)
      have c1 := (hr k hlt).1
      rw [HLL.out k hlt] at c1
      clear hr
      have k0 : (0 : Int) ≤ (k : Int) := by omega
      have k1 : (k : Int) < (m : Int) := by omega
      go_wp2_with (go_at_call 42; refine (check_ok _ _ _ _ (by omega) (by omega)).mono ?_; rintro e w' ⟨rfl, hw⟩; obtain rfl := hw.symm)
      go_roundg (m - (k + 1))
      case measure => go_light; omega
      case rel => exact ⟨k + 1, by omega, rfl, by go_num, rfl⟩
    · have e : k = m := by omega
      subst e
      go_wp2_with fail
      go_loopg [22] k (fun q i wr => ∃ t : Nat, t ≤ k ∧ q = k - t ∧ i = .int .i64 (t : Int) ∧ wr = w)
      case atStart => exact ⟨0, by omega, rfl, rfl, rfl⟩
      case round =>
        obtain ⟨t, ht, rfl, rfl, hw⟩ := hrel
        obtain rfl := hw.symm
        by_cases hlt2 : t < k
        · obtain ⟨B, o, rfl, hr⟩ := HL.out (by omega)
          have c1 := (hr t hlt2).1
          have c0 := (hr 0 (by omega)).1
          rw [HLL.out t hlt2] at c1
          rw [HLL.out 0 (by omega), Nat.add_zero] at c0
          clear hr
          have k0 : (0 : Int) ≤ (t : Int) := by omega
          have k1 : (t : Int) < (k : Int) := by omega
          have k2 : (0 : Int) < (k : Int) := by omega
          have k3 : ¬ ((c : Int) < 2) := by omega
          go_wp2_with fail
          go_roundg (k - (t + 1))
          case measure => go_light; omega
          case rel => exact ⟨t + 1, by omega, rfl, by go_num, rfl⟩
        · have e : t = k := by omega
          subst e
          go_wp2_with fail
          go_ret
          exact ⟨rfl, rfl⟩

set_option maxHeartbeats 4000000 in
set_option maxRecDepth 100000 in
theorem crounds_bad (ao : Option Addr) (m cap : Nat) (A : Nat → Option Addr) (L C : Nat → Nat) (F : Nat → Nat → Int) (w : World) (hm : m ≤ 1000) (hl : LRow w ao m A L C F) (hno : ∀ c, ¬ (2 ≤ c ∧ c ≤ 8 ∧ ∀ i, i < m → L i = c)) :
    Calls Tryz.prog 121 #[.slice ao m cap] w fun e w' => e = .returned (.int .i64 4) ∧ w' = w := by
  have HL := hid hl
  have HNO := hid hno
  clear hl hno
  go_enter Tryz.func121, Tryz.ntmps121
  go_wp2_with fail
  go_loopg [10] m (fun q i wr => ∃ k : Nat, k ≤ m ∧ q = m - k ∧ i = .int .i64 (k : Int) ∧ wr = w ∧ Hid (∀ i, i < k → 1 ≤ L i ∧ L i ≤ 8))
  case atStart => exact ⟨0, by omega, rfl, rfl, rfl, hid (fun i hi => absurd hi (by omega))⟩
  case round =>
    obtain ⟨k, hk, rfl, rfl, hw, HP⟩ := hrel
    obtain rfl := hw.symm
    by_cases hlt : k < m
    · obtain ⟨B, o, rfl, hr⟩ := HL.out (by omega)
      have c1 := (hr k hlt).1
      clear hr
      have k0 : (0 : Int) ≤ (k : Int) := by omega
      have k1 : (k : Int) < (m : Int) := by omega
      by_cases hT : 1 ≤ L k ∧ L k ≤ 8
      · have HP2 : Hid (∀ i, i < k + 1 → 1 ≤ L i ∧ L i ≤ 8) := hid (fun i hi => by
          by_cases e2 : i = k
          · subst e2; exact hT
          · exact HP.out i (by omega))
        obtain ⟨t1, t2⟩ := hT
        go_wp2_with (go_at_call 42; refine (check_ok _ _ _ _ (by omega) (by omega)).mono ?_; rintro e w' ⟨rfl, hw⟩; obtain rfl := hw.symm)
        go_roundg (m - (k + 1))
        case measure => go_light; omega
        case rel => exact ⟨k + 1, by omega, rfl, by go_num, rfl, HP2⟩
      · go_wp2_with (go_at_call 42; refine (check_bad _ _ _ _ (by omega)).mono ?_; rintro e w' ⟨rfl, hw⟩; obtain rfl := hw.symm)
        go_ret
        exact ⟨rfl, rfl⟩
    · have e : k = m := by omega
      subst e
      go_wp2_with fail
      go_loopg [22] k (fun q i wr => ∃ t : Nat, t ≤ k ∧ q = k - t ∧ i = .int .i64 (t : Int) ∧ wr = w ∧ Hid (∀ i, i < t → 2 ≤ L i ∧ L i = L 0))
      case atStart => exact ⟨0, by omega, rfl, rfl, rfl, hid (fun i hi => absurd hi (by omega))⟩
      case round =>
        obtain ⟨t, ht, rfl, rfl, hw, HE⟩ := hrel
        obtain rfl := hw.symm
        by_cases hlt2 : t < k
        · obtain ⟨B, o, rfl, hr⟩ := HL.out (by omega)
          have c1 := (hr t hlt2).1
          have c0 := (hr 0 (by omega)).1
          rw [Nat.add_zero] at c0
          clear hr
          have k0 : (0 : Int) ≤ (t : Int) := by omega
          have k1 : (t : Int) < (k : Int) := by omega
          have k2 : (0 : Int) < (k : Int) := by omega
          by_cases h2 : L t < 2
          · have k3 : ((L t : Int) < 2) := by omega
            go_wp2_with fail
            go_ret
            exact ⟨rfl, rfl⟩
          · have k3 : ¬ ((L t : Int) < 2) := by omega
            by_cases he : L t = L 0
            · have hb : ((L t : Int) != (L 0 : Int)) = false := by rw [he]; simp
              have HE2 : Hid (∀ i, i < t + 1 → 2 ≤ L i ∧ L i = L 0) := hid (fun i hi => by
                by_cases e2 : i = t
                · subst e2; exact ⟨by omega, he⟩
                · exact HE.out i (by omega))
              clear he h2
              go_wp2_with fail
              go_roundg (k - (t + 1))
              case measure => go_light; omega
              case rel => exact ⟨t + 1, by omega, rfl, by go_num, rfl, HE2⟩
            · have hb : ((L t : Int) != (L 0 : Int)) = true := bne_iff_ne.2 (by omega)
              clear he h2
              go_wp2_with fail
              go_ret
              exact ⟨rfl, rfl⟩
        · have e : t = k := by omega
          subst e
          by_cases h0 : t = 0
          · exact absurd ⟨Nat.le_refl 2, by omega, fun i hi => absurd hi (by omega)⟩ (HNO.out 2)
          · exact absurd ⟨(HE.out 0 (by omega)).1, (HP.out 0 (by omega)).2, fun i hi => (HE.out i hi).2⟩ (HNO.out (L 0))

set_option maxHeartbeats 1000000 in
theorem verify_arg (ao ad : Option Addr) (m cap nd cd : Nat) (claim : Int) (w : World) (h : m ≠ nd) :
    Calls Tryz.prog 105 #[.int .u64 claim, .slice ao m cap, .slice ad nd cd] w fun e w' => e = .returned (.tuple #[.int .u64 0, .bool false, .int .i64 1]) ∧ w' = w := by
  have hb : ((m : Int) != (nd : Int)) = true := bne_iff_ne.2 (by omega)
  clear h
  go_enter Tryz.func105, Tryz.ntmps105
  go_wp2_with fail
  go_ret3
  exact ⟨rfl, rfl⟩
set_option maxHeartbeats 1000000 in
theorem verify_form (ao ad : Option Addr) (m cap cd : Nat) (A : Nat → Option Addr) (L C : Nat → Nat) (F : Nat → Nat → Int) (claim : Int) (w : World) (hm : m ≤ 1000) (hl : LRow w ao m A L C F) (hno : ∀ c, ¬ (2 ≤ c ∧ c ≤ 8 ∧ ∀ i, i < m → L i = c)) :
    Calls Tryz.prog 105 #[.int .u64 claim, .slice ao m cap, .slice ad m cd] w fun e w' => e = .returned (.tuple #[.int .u64 0, .bool false, .int .i64 4]) ∧ w' = w := by
  have HC := hid (crounds_bad ao m cap A L C F w hm hl hno)
  clear hl hno
  go_enter Tryz.func105, Tryz.ntmps105
  go_wp2_with (go_at_call 121; refine (HC.out).mono ?_; rintro e w' ⟨rfl, hw⟩; obtain rfl := hw.symm)
  go_ret3
  exact ⟨rfl, rfl⟩

set_option maxHeartbeats 8000000 in
set_option maxRecDepth 100000 in
theorem verify_ok (ao ad : Option Addr) (m cap cd c : Nat) (A : Nat → Option Addr) (L C : Nat → Nat) (F : Nat → Nat → Int) (D : Nat → Int) (claim : Int) (w : World) (hm : m ≤ 1000) (hc2 : 2 ≤ c) (hc : c ≤ 8) (h0 : 0 ≤ claim) (h1 : claim ≤ 18446744073709551615)
    (hl : LRow w ao m A L C F) (hL : ∀ i, i < m → L i = c) (hF : ∀ i, i < m → Nums (F i)) (hd : PRow w ad m D) (hD : Nums D) (hall : ∀ k, k < m → addQ (F k 0) (F k 1) = toldQ (nrm claim) F c D k) :
    Calls Tryz.prog 105 #[.int .u64 claim, .slice ao m cap, .slice ad m cd] w fun e w' => e = .returned (.tuple #[.int .u64 (toldQ (nrm claim) F c D m), .bool true, .int .i64 0]) ∧ Below w.heap.size w w' := by
  have HC := hid (crounds_ok ao m cap c A L C F w hm hl hc2 hc hL)
  have HL := hid hl
  have HLL := hid hL
  have HF := hid hF
  have HD := hid hd
  have HDD := hid hD
  have HA := hid hall
  obtain ⟨n0, n1⟩ := nrm_rng claim
  clear hl hL hF hd hD hall
  go_enter Tryz.func105, Tryz.ntmps105
  go_wp2_with (first | (go_at_call 121; refine (HC.out).mono ?_; rintro e w' ⟨rfl, hw⟩; obtain rfl := hw.symm) | (go_at_call 48; refine (norm_any _ _ (by omega) (by omega)).mono ?_; rintro e w' ⟨rfl, hw⟩; obtain rfl := hw.symm))
  clear HC
  go_loopg [0, 26] m (fun q x i wr => ∃ (k : Nat) (z : Int), k ≤ m ∧ q = m - k ∧ x = .int .u64 z ∧ i = .int .i64 (k : Int) ∧ 0 ≤ z ∧ z ≤ 2305843009213693950 ∧ Hid (z = toldQ (nrm claim) F c D k) ∧ Hid (LRow wr ao m A L C F) ∧ Hid (PRow wr ad m D) ∧ Hid (Below w.heap.size w wr))
  case atStart => exact ⟨0, nrm claim, by omega, rfl, rfl, rfl, n0, n1, hid rfl, HL, HD, hid (Below.refl _ _)⟩
  case round =>
    clear HL HD
    obtain ⟨k, z, hk, rfl, rfl, rfl, z0, z1, HZ, HL, HD, HB⟩ := hrel
    by_cases hlt : k < m
    · obtain ⟨b, off, rfl, hr⟩ := HL.out (by omega)
      obtain ⟨bd, od, rfl, hrd⟩ := HD.out (by omega)
      have cl := (hr k hlt).1
      obtain ⟨br, or, eA, hrr⟩ := (hr k hlt).2 (by rw [HLL.out k hlt]; omega)
      rw [eA, HLL.out k hlt] at cl
      rw [HLL.out k hlt] at hrr
      have c0 := hrr 0 (by omega)
      have c1 := hrr 1 (by omega)
      have cdr := hrd k hlt
      rw [Nat.add_zero] at c0
      obtain ⟨f0, e0⟩ : ∃ y, F k 0 = y := ⟨_, rfl⟩
      obtain ⟨f1, e1⟩ : ∃ y, F k 1 = y := ⟨_, rfl⟩
      obtain ⟨dk, ed⟩ : ∃ y, D k = y := ⟨_, rfl⟩
      have b0 := HF.out k hlt 0
      have b1 := HF.out k hlt 1
      have bD := HDD.out k
      rw [e0] at c0 b0
      rw [e1] at c1 b1
      rw [ed] at cdr bD
      obtain ⟨b00, b01⟩ := b0
      obtain ⟨b10, b11⟩ := b1
      obtain ⟨bd0, bd1⟩ := bD
      have hfit := HA.out k hlt
      rw [e0, e1, ← HZ.out] at hfit
      have hb : (addQ f0 f1 != z) = false := by rw [hfit]; simp
      have HRR := hid hrr
      have hat := fun w' (h : Row w' br or c (F k)) => at_ok br or c (C k) (F k) dk w' (by omega) (by omega) h (HF.out k hlt) bd0 bd1
      have hat2 : toldQ (nrm claim) F c D (k + 1) = atQ (F k) c dk := by rw [← ed]; rfl
      have HNX := hid hat2
      obtain ⟨a0, a1⟩ := atQ_rng (F k) c dk
      generalize atQ (F k) c dk = y at hat hat2 HNX a0 a1
      have HAT := hid hat
      clear hr hrd hrr hat hat2 eA e0 e1 ed hfit
      have k0 : (0 : Int) ≤ (k : Int) := by omega
      have k1 : (k : Int) < (m : Int) := by omega
      have cc0 : (0 : Int) < (c : Int) := by omega
      have cc1 : (1 : Int) < (c : Int) := by omega
      have cn0 : 0 < c := by omega
      have cn1 : 1 < c := by omega
      have cn2 : ¬ c = 0 := by omega
      have cn3 : ¬ c ≤ 1 := by omega
      go_wp2_with fail
      go_quiet (first | (go_at_call 77; exact Calls.quiet_of_same (add_any _ _ _ (by omega) (by omega) (by omega) (by omega))))
      go_wp2_with (go_at_call 106; refine (HAT.out _ (by exact HRR.out)).mono ?_; rintro e w1 ⟨rfl, hb1⟩; have HB1 := hid hb1; clear hb1)
      go_roundg (m - (k + 1))
      case measure => go_light; omega
      case rel =>
        have HBD : Below wr.heap.size wr w1 := ⟨HB1.out.os, HB1.out.tape, HB1.out.output, HB1.out.size, HB1.out.block⟩
        exact ⟨k + 1, y, by omega, rfl, rfl, by go_num, a0, by omega, hid HNX.out.symm, hid (HL.out.kept HBD), hid (HD.out.kept HBD), hid (HB.out.trans (HBD.mono HB.out.size))⟩
    · have e : k = m := by omega
      subst e
      go_wp2_with fail
      go_ret3
      exact ⟨by rw [HZ.out]; rfl, HB.out⟩

set_option maxHeartbeats 8000000 in
set_option maxRecDepth 100000 in
theorem verify_bad (ao ad : Option Addr) (m cap cd c : Nat) (A : Nat → Option Addr) (L C : Nat → Nat) (F : Nat → Nat → Int) (D : Nat → Int) (claim : Int) (w : World) (hm : m ≤ 1000) (hc2 : 2 ≤ c) (hc : c ≤ 8) (h0 : 0 ≤ claim) (h1 : claim ≤ 18446744073709551615)
    (hl : LRow w ao m A L C F) (hL : ∀ i, i < m → L i = c) (hF : ∀ i, i < m → Nums (F i)) (hd : PRow w ad m D) (hD : Nums D) (t : Nat) (ht : t < m) (hall : ∀ k, k < t → addQ (F k 0) (F k 1) = toldQ (nrm claim) F c D k) (hno : addQ (F t 0) (F t 1) ≠ toldQ (nrm claim) F c D t) :
    Calls Tryz.prog 105 #[.int .u64 claim, .slice ao m cap, .slice ad m cd] w fun e w' => e = .returned (.tuple #[.int .u64 0, .bool false, .int .i64 0]) ∧ Below w.heap.size w w' := by
  have HC := hid (crounds_ok ao m cap c A L C F w hm hl hc2 hc hL)
  have HL := hid hl
  have HLL := hid hL
  have HF := hid hF
  have HD := hid hd
  have HDD := hid hD
  have HA := hid hall
  have HNO := hid hno
  obtain ⟨n0, n1⟩ := nrm_rng claim
  clear hl hL hF hd hD hall hno
  go_enter Tryz.func105, Tryz.ntmps105
  go_wp2_with (first | (go_at_call 121; refine (HC.out).mono ?_; rintro e w' ⟨rfl, hw⟩; obtain rfl := hw.symm) | (go_at_call 48; refine (norm_any _ _ (by omega) (by omega)).mono ?_; rintro e w' ⟨rfl, hw⟩; obtain rfl := hw.symm))
  clear HC
  go_loopg [0, 26] m (fun q x i wr => ∃ (k : Nat) (z : Int), k ≤ t ∧ q = m - k ∧ x = .int .u64 z ∧ i = .int .i64 (k : Int) ∧ 0 ≤ z ∧ z ≤ 2305843009213693950 ∧ Hid (z = toldQ (nrm claim) F c D k) ∧ Hid (LRow wr ao m A L C F) ∧ Hid (PRow wr ad m D) ∧ Hid (Below w.heap.size w wr))
  case atStart => exact ⟨0, nrm claim, by omega, rfl, rfl, rfl, n0, n1, hid rfl, HL, HD, hid (Below.refl _ _)⟩
  case round =>
    clear HL HD
    obtain ⟨k, z, hk, rfl, rfl, rfl, z0, z1, HZ, HL, HD, HB⟩ := hrel
    have hlt : k < m := by omega
    obtain ⟨b, off, rfl, hr⟩ := HL.out (by omega)
    obtain ⟨bd, od, rfl, hrd⟩ := HD.out (by omega)
    have cl := (hr k hlt).1
    obtain ⟨br, or, eA, hrr⟩ := (hr k hlt).2 (by rw [HLL.out k hlt]; omega)
    rw [eA, HLL.out k hlt] at cl
    rw [HLL.out k hlt] at hrr
    have c0 := hrr 0 (by omega)
    have c1 := hrr 1 (by omega)
    have cdr := hrd k hlt
    rw [Nat.add_zero] at c0
    obtain ⟨f0, e0⟩ : ∃ y, F k 0 = y := ⟨_, rfl⟩
    obtain ⟨f1, e1⟩ : ∃ y, F k 1 = y := ⟨_, rfl⟩
    obtain ⟨dk, ed⟩ : ∃ y, D k = y := ⟨_, rfl⟩
    have b0 := HF.out k hlt 0
    have b1 := HF.out k hlt 1
    have bD := HDD.out k
    rw [e0] at c0 b0
    rw [e1] at c1 b1
    rw [ed] at cdr bD
    obtain ⟨b00, b01⟩ := b0
    obtain ⟨b10, b11⟩ := b1
    obtain ⟨bd0, bd1⟩ := bD
    have HRR := hid hrr
    have hat := fun w' (h : Row w' br or c (F k)) => at_ok br or c (C k) (F k) dk w' (by omega) (by omega) h (HF.out k hlt) bd0 bd1
    have hat2 : toldQ (nrm claim) F c D (k + 1) = atQ (F k) c dk := by rw [← ed]; rfl
    have HNX := hid hat2
    obtain ⟨a0, a1⟩ := atQ_rng (F k) c dk
    generalize atQ (F k) c dk = y at hat hat2 HNX a0 a1
    have HAT := hid hat
    have E0 := hid e0
    have E1 := hid e1
    clear hr hrd hrr hat hat2 eA e0 e1 ed
    have k0 : (0 : Int) ≤ (k : Int) := by omega
    have k1 : (k : Int) < (m : Int) := by omega
    have cc0 : (0 : Int) < (c : Int) := by omega
    have cc1 : (1 : Int) < (c : Int) := by omega
    have cn0 : 0 < c := by omega
    have cn1 : 1 < c := by omega
    have cn2 : ¬ c = 0 := by omega
    have cn3 : ¬ c ≤ 1 := by omega
    by_cases hkt : k < t
    · have hfit := HA.out k hkt
      rw [E0.out, E1.out, ← HZ.out] at hfit
      have hb : (addQ f0 f1 != z) = false := by rw [hfit]; simp
      clear hfit
      go_wp2_with fail
      go_quiet (first | (go_at_call 77; exact Calls.quiet_of_same (add_any _ _ _ (by omega) (by omega) (by omega) (by omega))))
      go_wp2_with (go_at_call 106; refine (HAT.out _ (by exact HRR.out)).mono ?_; rintro e w1 ⟨rfl, hb1⟩; have HB1 := hid hb1; clear hb1)
      go_roundg (m - (k + 1))
      case measure => go_light; omega
      case rel =>
        have HBD : Below wr.heap.size wr w1 := ⟨HB1.out.os, HB1.out.tape, HB1.out.output, HB1.out.size, HB1.out.block⟩
        exact ⟨k + 1, y, by omega, rfl, rfl, by go_num, a0, by omega, hid HNX.out.symm, hid (HL.out.kept HBD), hid (HD.out.kept HBD), hid (HB.out.trans (HBD.mono HB.out.size))⟩
    · obtain rfl : k = t := by omega
      have hne := HNO.out
      rw [E0.out, E1.out, ← HZ.out] at hne
      have hb : (addQ f0 f1 != z) = true := bne_iff_ne.2 hne
      clear hne
      go_wp2_with fail
      go_quiet (first | (go_at_call 77; exact Calls.quiet_of_same (add_any _ _ _ (by omega) (by omega) (by omega) (by omega))))
      go_wp2_with fail
      go_ret3
      exact ⟨rfl, by exact ⟨HB.out.os, HB.out.tape, HB.out.output, HB.out.size, HB.out.block⟩⟩

end Go.Proofs.YtbchbmelofojkaaGreatDoor
