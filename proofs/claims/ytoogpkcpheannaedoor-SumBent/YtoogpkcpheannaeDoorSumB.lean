/-
  Contracts of package sum's Check, Claim and Round, for every list of lists; they make new rows and write nothing that was there.
-/
import Derived.Test.YtoogpkcpheannaeDoorSumA
namespace Go.Proofs.YtoogpkcpheannaeDoor
open Go.RowKit
set_option linter.unusedVariables false
attribute [local go_sem ↓] Go.wp_at_zero Go.wp_at_succ

/-- One to three tables of like size. -/
def Facts (m : Nat) (L : Nat → Nat) (n : Nat) : Prop := 1 ≤ m ∧ m ≤ 3 ∧ n ≤ 8 ∧ ∀ i, i < m → L i = 2 ^ n

set_option maxHeartbeats 1000000 in
theorem scheck_count (ao : Option Addr) (m cap : Nat) (w : World) (h : m = 0 ∨ 3 < m) :
    Calls Tryd.prog 34 #[.slice ao m cap] w fun e w' => e = .returned (.tuple #[.int .i64 0, .int .i64 4]) ∧ w' = w := by
  by_cases h0 : m = 0
  · subst h0
    go_enter Tryd.func34, Tryd.ntmps34
    go_wp2_with fail
    go_ret2
    exact ⟨rfl, rfl⟩
  · have h1 : 3 < m := by omega
    have a1 : ¬ ((m : Int) < 1) := by omega
    have a2 : (3 : Int) < (m : Int) := by omega
    clear h
    go_enter Tryd.func34, Tryd.ntmps34
    go_wp2_with fail
    go_ret2
    exact ⟨rfl, rfl⟩

set_option maxHeartbeats 4000000 in
set_option maxRecDepth 100000 in
theorem scheck_ok (B o m cap : Nat) (bv ov cv : Nat → Nat) (F : Nat → Nat → Int) (n N : Nat) (w : World) (hm1 : 1 ≤ m) (hm : m ≤ 3) (hn : n ≤ 8) (hN : N = 2 ^ n) (ht : Tab w) (hl : Tabs w B o m bv ov cv N F) :
    Calls Tryd.prog 34 #[.slice (some ⟨B, o, none⟩) m cap] w fun e w' => e = .returned (.tuple #[.int .i64 (n : Int), .int .i64 0]) ∧ w' = w := by
  have HVA := hid (fun i => vars_ok (some ⟨bv i, ov i, none⟩) n N (cv i) w hn hN ht)
  have c0 := hl.cell 0 (by omega)
  rw [Nat.add_zero] at c0
  have HL := hid hl
  clear ht hl hN
  have m1 : (0 : Int) < (m : Int) := by omega
  have a1 : ¬ ((m : Int) < 1) := by omega
  have a2 : ¬ ((3 : Int) < (m : Int)) := by omega
  have C0 := hid c0
  clear c0
  go_enter Tryd.func34, Tryd.ntmps34
  go_wp2_with fail
  go_loopg [20] m (fun q i wr => ∃ k : Nat, k ≤ m ∧ q = m - k ∧ i = .int .i64 (k : Int) ∧ wr = w)
  case atStart => exact ⟨0, by omega, rfl, rfl, rfl⟩
  case round =>
    obtain ⟨k, hk, rfl, rfl, hw⟩ := hrel
    obtain rfl := hw.symm
    by_cases hlt : k < m
    · have c1 := HL.out.cell k hlt
      have HVK := hid (HVA.out k)
      have k0 : (0 : Int) ≤ (k : Int) := by omega
      have k1 : (k : Int) < (m : Int) := by omega
      go_wp2_with (go_at_call 36; refine (HVK.out).mono ?_; rintro e w' ⟨rfl, hw⟩; obtain rfl := hw.symm)
      go_roundg (m - (k + 1))
      case measure => go_light; omega
      case rel => exact ⟨k + 1, by omega, rfl, by go_num, rfl⟩
    · have e : k = m := by omega
      subst e
      go_wp2_with fail
      go_loopg [35] k (fun q i wr => ∃ t : Nat, t ≤ k ∧ q = k - t ∧ i = .int .i64 (t : Int) ∧ wr = w)
      case atStart => exact ⟨0, by omega, rfl, rfl, rfl⟩
      case round =>
        obtain ⟨t, ht, rfl, rfl, hw⟩ := hrel
        obtain rfl := hw.symm
        by_cases hlt2 : t < k
        · have c1 := HL.out.cell t hlt2
          have c0 := C0.out
          have k0 : (0 : Int) ≤ (t : Int) := by omega
          have k1 : (t : Int) < (k : Int) := by omega
          go_wp2_with fail
          go_roundg (k - (t + 1))
          case measure => go_light; omega
          case rel => exact ⟨t + 1, by omega, rfl, by go_num, rfl⟩
        · have e : t = k := by omega
          subst e
          have c0 := C0.out
          have HVK := hid (HVA.out 0)
          go_wp2_with (go_at_call 36; refine (HVK.out).mono ?_; rintro e w' ⟨rfl, hw⟩; obtain rfl := hw.symm)
          go_ret2
          exact ⟨rfl, rfl⟩

set_option maxHeartbeats 4000000 in
set_option maxRecDepth 100000 in
theorem scheck_bad (ao : Option Addr) (m cap : Nat) (A : Nat → Option Addr) (L C : Nat → Nat) (F : Nat → Nat → Int) (w : World) (hm1 : 1 ≤ m) (hm : m ≤ 3) (ht : Tab w) (hl : LRow w ao m A L C F) (hmax : ∀ i, i < m → L i ≤ maxLen) (hno : ∀ n, ¬ Facts m L n) :
    Calls Tryd.prog 34 #[.slice ao m cap] w fun e w' => e = .returned (.tuple #[.int .i64 0, .int .i64 4]) ∧ w' = w := by
  obtain ⟨B, o, rfl, hr⟩ := hl (by omega)
  have HVO := hid (fun i n (hn : n ≤ 8) (h : L i = 2 ^ n) => vars_ok (A i) n (L i) (C i) w hn h ht)
  have HVB := hid (fun i (hi : i < m) (h : ∀ n, n ≤ 8 → L i ≠ 2 ^ n) => vars_bad (A i) (L i) (C i) w h (hmax i hi))
  have c0 := (hr 0 (by omega)).1
  rw [Nat.add_zero] at c0
  have HR := hid hr
  have HNO := hid hno
  clear ht hl hr hmax hno
  have m1 : (0 : Int) < (m : Int) := by omega
  have a1 : ¬ ((m : Int) < 1) := by omega
  have a2 : ¬ ((3 : Int) < (m : Int)) := by omega
  have C0 := hid c0
  clear c0
  go_enter Tryd.func34, Tryd.ntmps34
  go_wp2_with fail
  go_loopg [20] m (fun q i wr => ∃ k : Nat, k ≤ m ∧ q = m - k ∧ i = .int .i64 (k : Int) ∧ wr = w ∧ Hid (∀ i, i < k → ∃ n, n ≤ 8 ∧ L i = 2 ^ n))
  case atStart => exact ⟨0, by omega, rfl, rfl, rfl, hid (fun i hi => absurd hi (by omega))⟩
  case round =>
    obtain ⟨k, hk, rfl, rfl, hw, HP⟩ := hrel
    obtain rfl := hw.symm
    by_cases hlt : k < m
    · have c1 := (HR.out k hlt).1
      have k0 : (0 : Int) ≤ (k : Int) := by omega
      have k1 : (k : Int) < (m : Int) := by omega
      by_cases hT : ∃ n, n ≤ 8 ∧ L k = 2 ^ n
      · obtain ⟨n, hn, e⟩ := hT
        have HVK := hid (HVO.out k n hn e)
        have HP2 : Hid (∀ i, i < k + 1 → ∃ n, n ≤ 8 ∧ L i = 2 ^ n) := hid (fun i hi => by
          by_cases e2 : i = k
          · subst e2; exact ⟨n, hn, e⟩
          · exact HP.out i (by omega))
        clear e
        go_wp2_with (go_at_call 36; refine (HVK.out).mono ?_; rintro e w' ⟨rfl, hw⟩; obtain rfl := hw.symm)
        go_roundg (m - (k + 1))
        case measure => go_light; omega
        case rel => exact ⟨k + 1, by omega, rfl, by go_num, rfl, HP2⟩
      · have HVK := hid (HVB.out k hlt (fun n hn e => hT ⟨n, hn, e⟩))
        clear hT
        go_wp2_with (go_at_call 36; refine (HVK.out).mono ?_; rintro e w' ⟨rfl, hw⟩; obtain rfl := hw.symm)
        go_ret2
        exact ⟨rfl, rfl⟩
    · have e : k = m := by omega
      subst e
      go_wp2_with fail
      go_loopg [35] k (fun q i wr => ∃ t : Nat, t ≤ k ∧ q = k - t ∧ i = .int .i64 (t : Int) ∧ wr = w ∧ Hid (∀ i, i < t → L i = L 0))
      case atStart => exact ⟨0, by omega, rfl, rfl, rfl, hid (fun i hi => absurd hi (by omega))⟩
      case round =>
        obtain ⟨t, ht, rfl, rfl, hw, HE⟩ := hrel
        obtain rfl := hw.symm
        by_cases hlt2 : t < k
        · have c1 := (HR.out t hlt2).1
          have c0 := C0.out
          have k0 : (0 : Int) ≤ (t : Int) := by omega
          have k1 : (t : Int) < (k : Int) := by omega
          by_cases he : L t = L 0
          · have hb : ((L t : Int) != (L 0 : Int)) = false := by rw [he]; simp
            have HE2 : Hid (∀ i, i < t + 1 → L i = L 0) := hid (fun i hi => by
              by_cases e2 : i = t
              · subst e2; exact he
              · exact HE.out i (by omega))
            clear he
            go_wp2_with fail
            go_roundg (k - (t + 1))
            case measure => go_light; omega
            case rel => exact ⟨t + 1, by omega, rfl, by go_num, rfl, HE2⟩
          · have hb : ((L t : Int) != (L 0 : Int)) = true := bne_iff_ne.2 (by omega)
            clear he
            go_wp2_with fail
            go_ret2
            exact ⟨rfl, rfl⟩
        · have e : t = k := by omega
          subst e
          obtain ⟨n, hn, e0⟩ := HP.out 0 (by omega)
          exact absurd ⟨hm1, hm, hn, fun i hi => (HE.out i hi).trans e0⟩ (HNO.out n)

/-- Lists that are no factors. -/
structure NoFacts (w : World) (ao : Option Addr) (m : Nat) (A : Nat → Option Addr) (L C : Nat → Nat) (F : Nat → Nat → Int) : Prop where
  l : LRow w ao m A L C F
  max : ∀ i, i < m → L i ≤ maxLen
  no : ∀ n, ¬ Facts m L n
theorem scheck_no (ao : Option Addr) (m cap : Nat) (A : Nat → Option Addr) (L C : Nat → Nat) (F : Nat → Nat → Int) (w : World) (ht : Tab w) (h : NoFacts w ao m A L C F) :
    Calls Tryd.prog 34 #[.slice ao m cap] w fun e w' => e = .returned (.tuple #[.int .i64 0, .int .i64 4]) ∧ w' = w := by
  by_cases h1 : m = 0 ∨ 3 < m
  · exact scheck_count ao m cap w h1
  · exact scheck_bad ao m cap A L C F w (by omega) (by omega) ht h.l h.max h.no

set_option maxHeartbeats 1000000 in
theorem sclaim_no (ao : Option Addr) (m cap : Nat) (A : Nat → Option Addr) (L C : Nat → Nat) (F : Nat → Nat → Int) (w : World) (ht : Tab w) (h : NoFacts w ao m A L C F) :
    Calls Tryd.prog 13 #[.slice ao m cap] w fun e w' => e = .returned (.tuple #[.int .u64 0, .int .i64 4]) ∧ w' = w := by
  have HC := hid (scheck_no ao m cap A L C F w ht h)
  clear ht h
  go_enter Tryd.func13, Tryd.ntmps13
  go_wp2_with (go_at_call 34; refine (HC.out).mono ?_; rintro e w' ⟨rfl, hw⟩; obtain rfl := hw.symm)
  go_ret2
  exact ⟨rfl, rfl⟩
set_option maxHeartbeats 1000000 in
theorem sclaim_ok (B o m cap : Nat) (bv ov cv : Nat → Nat) (F : Nat → Nat → Int) (n N : Nat) (w : World) (hm1 : 1 ≤ m) (hm : m ≤ 3) (hn : n ≤ 8) (hN : N = 2 ^ n) (ht : Tab w) (hl : Tabs w B o m bv ov cv N F) (hv : ∀ i, i < m → Nums (F i)) :
    Calls Tryd.prog 13 #[.slice (some ⟨B, o, none⟩) m cap] w fun e w' => e = .returned (.tuple #[.int .u64 (ofK (claimK (kF F) m N)), .int .i64 0]) ∧ w' = w := by
  have HC := hid (scheck_ok B o m cap bv ov cv F n N w hm1 hm hn hN ht hl)
  have HT := hid (total_any B o m cap bv ov cv F N w hm1 hm (by rw [hN]; exact Nat.one_le_two_pow) (by rw [hN]; exact pow_256 hn) hl hv)
  clear ht hl hv hN
  go_enter Tryd.func13, Tryd.ntmps13
  go_wp2_with (first | (go_at_call 34; refine (HC.out).mono ?_; rintro e w' ⟨rfl, hw⟩; obtain rfl := hw.symm) | (go_at_call 35; refine (HT.out).mono ?_; rintro e w' ⟨rfl, hw⟩; obtain rfl := hw.symm))
  go_ret2
  exact ⟨rfl, rfl⟩
set_option maxHeartbeats 1000000 in
theorem sRound_no (ao : Option Addr) (m cap : Nat) (A : Nat → Option Addr) (L C : Nat → Nat) (F : Nat → Nat → Int) (w : World) (ht : Tab w) (h : NoFacts w ao m A L C F) :
    Calls Tryd.prog 31 #[.slice ao m cap] w fun e w' => e = .returned (.tuple #[.slice none 0 0, .int .i64 4]) ∧ w' = w := by
  have HC := hid (scheck_no ao m cap A L C F w ht h)
  clear ht h
  go_enter Tryd.func31, Tryd.ntmps31
  go_wp2_with (go_at_call 34; refine (HC.out).mono ?_; rintro e w' ⟨rfl, hw⟩; obtain rfl := hw.symm)
  go_ret2
  exact ⟨rfl, rfl⟩
set_option maxHeartbeats 1000000 in
theorem sRound_zero (B o m cap : Nat) (bv ov cv : Nat → Nat) (F : Nat → Nat → Int) (w : World) (hm1 : 1 ≤ m) (hm : m ≤ 3) (ht : Tab w) (hl : Tabs w B o m bv ov cv 1 F) :
    Calls Tryd.prog 31 #[.slice (some ⟨B, o, none⟩) m cap] w fun e w' => e = .returned (.tuple #[.slice none 0 0, .int .i64 4]) ∧ w' = w := by
  have HC := hid (scheck_ok B o m cap bv ov cv F 0 1 w hm1 hm (by omega) rfl ht hl)
  clear ht hl
  go_enter Tryd.func31, Tryd.ntmps31
  go_wp2_with (go_at_call 34; refine (HC.out).mono ?_; rintro e w' ⟨rfl, hw⟩; obtain rfl := hw.symm)
  go_ret2
  exact ⟨rfl, rfl⟩
set_option maxHeartbeats 1000000 in
theorem sRound_ok (B o m cap : Nat) (bv ov cv : Nat → Nat) (F : Nat → Nat → Int) (n h : Nat) (w : World) (hm1 : 1 ≤ m) (hm : m ≤ 3) (hn : n + 1 ≤ 8) (hh : h = 2 ^ n) (ht : Tab w) (hl : Tabs w B o m bv ov cv (2 * h) F) (hv : ∀ i, i < m → Nums (F i)) :
    Calls Tryd.prog 31 #[.slice (some ⟨B, o, none⟩) m cap] w fun e w' => e = .returned (.tuple #[.slice (some ⟨w.heap.size, 0, none⟩) (m + 1) (m + 1), .int .i64 0]) ∧ Made w w' (m + 1) (fun j => ofK (roundK (kF F) m h (kn j))) := by
  have HC := hid (scheck_ok B o m cap bv ov cv F (n + 1) (2 * h) w hm1 hm hn (by rw [Nat.pow_succ, hh, Nat.mul_comm]) ht hl)
  have HR := hid (sround_any B o m cap bv ov cv F n h w hm1 hm hn hh ht hl hv)
  clear ht hl hv hh
  have hz : (((n + 1 : Nat) : Int) == 0) = false := beq_eq_false_iff_ne.2 (by omega)
  go_enter Tryd.func31, Tryd.ntmps31
  go_wp2_with (first | (go_at_call 34; refine (HC.out).mono ?_; rintro e w' ⟨rfl, hw⟩; obtain rfl := hw.symm) | (go_at_call 39; refine (HR.out).mono ?_; rintro e w1 ⟨rfl, hm2⟩; have HM := hid hm2; clear hm2))
  go_ret2
  exact ⟨rfl, HM.out⟩

end Go.Proofs.YtoogpkcpheannaeDoor
