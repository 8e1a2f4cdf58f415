/-
  Contracts of tallyref's In and Factors: for every list of lists of numbers; nothing is written.
-/
import Derived.Test.YtoogpkcpheannaaDoorLists
import Derived.Test.YtoogpkcpheannaaDoorRefVars
import Derived.Test.YtoogpkcpheannaaDoorRefIn
namespace Go.Proofs.YtoogpkcpheannaaDoor
open Go.RowKit
set_option linter.unusedVariables false

theorem rvars_z (ao : Option Addr) (N cap : Nat) (w : World) : Calls Tryd.prog 6 #[.slice ao N cap] w fun e w' => e = .returned (.int .i64 (varsZ N)) ∧ w' = w := by
  by_cases hT : ∃ n, n ≤ 8 ∧ N = 2 ^ n
  · obtain ⟨n, hn, rfl⟩ := hT
    rw [varsZ_pow hn]
    exact rvars_ok ao n (2 ^ n) cap w hn rfl
  · have hb : ∀ n, n ≤ 8 → N ≠ 2 ^ n := fun n hn e => hT ⟨n, hn, e⟩
    rw [varsZ_bad hb]
    exact rvars_bad ao N cap w hb
set_option maxHeartbeats 400000 in
theorem rfact_count (ao : Option Addr) (m cap : Nat) (w : World) (h : m = 0 ∨ 3 < m) :
    Calls Tryd.prog 15 #[.slice ao m cap] w fun e w' => e = .returned (.int .i64 (-1)) ∧ w' = w := by
  have hI : (decide ((1 : Int) ≤ (m : Int)) && decide ((m : Int) ≤ 3)) = false := by
    rcases h with rfl | h
    · rfl
    · simp; omega
  have HI := hid (fun w => rin_any (m : Int) 1 3 w)
  rw [hI] at HI
  clear hI h
  go_enter Tryd.func15, Tryd.ntmps15
  go_wp2_with (go_at_call 32; refine (HI.out _).mono ?_; rintro e w' ⟨rfl, hw⟩; obtain rfl := hw.symm)
  go_ret
  exact ⟨rfl, rfl⟩

set_option maxHeartbeats 1000000 in
set_option maxRecDepth 100000 in
theorem rfact_same (ao : Option Addr) (m cap : Nat) (A : Nat → Option Addr) (L C : Nat → Nat) (F : Nat → Nat → Int) (v : Int) (w : World) (hm1 : 1 ≤ m) (hm : m ≤ 3) (hl : LRow w ao m A L C F) (hv : ∀ i, i < m → varsZ (L i) = v) :
    Calls Tryd.prog 15 #[.slice ao m cap] w fun e w' => e = .returned (.int .i64 v) ∧ w' = w := by
  obtain ⟨b, off, rfl, hr⟩ := hl (by omega)
  have hI : (decide ((1 : Int) ≤ (m : Int)) && decide ((m : Int) ≤ 3)) = true := by simp; omega
  have HI := hid (fun w => rin_any (m : Int) 1 3 w)
  rw [hI] at HI
  have HV := hid (fun i (hi : i < m) w => rvars_z (A i) (L i) (C i) w)
  have HE := hid hv
  have HR := hid hr
  have c0 := (hr 0 (by omega)).1
  rw [Nat.add_zero] at c0
  have m0 : (0 : Int) < (m : Int) := by omega
  have hv0 := HV.out 0 (by omega)
  rw [hv 0 (by omega)] at hv0
  have HV0 := hid hv0
  clear hI hr hl hv hv0
  go_enter Tryd.func15, Tryd.ntmps15
  go_wp2_with (first | (go_at_call 32; refine (HI.out _).mono ?_; rintro e w' ⟨rfl, hw⟩; obtain rfl := hw.symm) | (go_at_call 6; refine (HV0.out _).mono ?_; rintro e w' ⟨rfl, hw⟩; obtain rfl := hw.symm))
  clear c0 HV0 HI
  go_loopg [4] m (fun q i wr => ∃ k : Nat, k ≤ m ∧ q = m - k ∧ i = .int .i64 (k : Int) ∧ wr = w)
  case atStart => exact ⟨0, by omega, rfl, rfl, rfl⟩
  case round =>
    obtain ⟨k, hk, rfl, rfl, hw⟩ := hrel
    obtain rfl := hw.symm
    by_cases hlt : k < m
    · have c1 := (HR.out k hlt).1
      have hvk := HV.out k hlt
      rw [HE.out k hlt] at hvk
      have HVK := hid hvk
      clear hvk
      have k0 : (0 : Int) ≤ (k : Int) := by omega
      have k1 : (k : Int) < (m : Int) := by omega
      go_wp2_with (go_at_call 6; refine (HVK.out _).mono ?_; rintro e w' ⟨rfl, hw⟩; obtain rfl := hw.symm)
      go_roundg (m - (k + 1))
      case measure => go_light; omega
      case rel => exact ⟨k + 1, by omega, rfl, by go_num, rfl⟩
    · have e : k = m := by omega
      subst e
      go_wp2_with fail
      go_ret
      exact ⟨rfl, rfl⟩
set_option maxHeartbeats 1000000 in
set_option maxRecDepth 100000 in
theorem rfact_unlike (ao : Option Addr) (m cap : Nat) (A : Nat → Option Addr) (L C : Nat → Nat) (F : Nat → Nat → Int) (t : Nat) (w : World) (hm : m ≤ 3) (hl : LRow w ao m A L C F) (ht : t < m) (hv : varsZ (L t) ≠ varsZ (L 0)) :
    Calls Tryd.prog 15 #[.slice ao m cap] w fun e w' => e = .returned (.int .i64 (-1)) ∧ w' = w := by
  obtain ⟨b, off, rfl, hr⟩ := hl (by omega)
  have hI : (decide ((1 : Int) ≤ (m : Int)) && decide ((m : Int) ≤ 3)) = true := by simp; omega
  have HI := hid (fun w => rin_any (m : Int) 1 3 w)
  rw [hI] at HI
  have HV := hid (fun i (hi : i < m) w => rvars_z (A i) (L i) (C i) w)
  have HE := hid hv
  have HR := hid hr
  have c0 := (hr 0 (by omega)).1
  rw [Nat.add_zero] at c0
  have m0 : (0 : Int) < (m : Int) := by omega
  have HV0 := hid (HV.out 0 (by omega))
  clear hI hr hl hv
  go_enter Tryd.func15, Tryd.ntmps15
  go_wp2_with (first | (go_at_call 32; refine (HI.out _).mono ?_; rintro e w' ⟨rfl, hw⟩; obtain rfl := hw.symm) | (go_at_call 6; refine (HV0.out _).mono ?_; rintro e w' ⟨rfl, hw⟩; obtain rfl := hw.symm))
  clear c0 HV0 HI
  go_loopg [4] m (fun q i wr => ∃ k : Nat, k ≤ t ∧ q = m - k ∧ i = .int .i64 (k : Int) ∧ wr = w)
  case atStart => exact ⟨0, by omega, rfl, rfl, rfl⟩
  case round =>
    obtain ⟨k, hk, rfl, rfl, hw⟩ := hrel
    obtain rfl := hw.symm
    have hlt : k < m := by omega
    have c1 := (HR.out k hlt).1
    have HVK := hid (HV.out k hlt)
    have k0 : (0 : Int) ≤ (k : Int) := by omega
    have k1 : (k : Int) < (m : Int) := by omega
    by_cases hne : varsZ (L k) = varsZ (L 0)
    · have hkt : k < t := by
        by_cases e : k = t
        · subst e; exact absurd hne HE.out
        · omega
      have hb : (varsZ (L k) != varsZ (L 0)) = false := by rw [hne]; simp
      go_wp2_with (go_at_call 6; refine (HVK.out _).mono ?_; rintro e w' ⟨rfl, hw⟩; obtain rfl := hw.symm)
      go_roundg (m - (k + 1))
      case measure => go_light; omega
      case rel => exact ⟨k + 1, by omega, rfl, by go_num, rfl⟩
    · have hb : (varsZ (L k) != varsZ (L 0)) = true := bne_iff_ne.2 hne
      go_wp2_with (go_at_call 6; refine (HVK.out _).mono ?_; rintro e w' ⟨rfl, hw⟩; obtain rfl := hw.symm)
      go_ret
      exact ⟨rfl, rfl⟩

end Go.Proofs.YtoogpkcpheannaaDoor
