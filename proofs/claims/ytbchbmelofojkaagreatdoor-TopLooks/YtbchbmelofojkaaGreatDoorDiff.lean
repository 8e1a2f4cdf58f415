/-
  Contracts of package uni's functions, each for every input: Check, stepOut and differences; what they tell is what the text Poly names, and nothing that was there is written.
-/
import Derived.Test.YtbchbmelofojkaaGreatDoorChecked
import Derived.Test.YtbchbmelofojkaaGreatDoorPoly
import Derived.Test.YtbchbmelofojkaaGreatDoorMem
import Derived.Test.YtbchbmelofojkaaGreatDoorField
import Derived.WalkKit
import Derived.Deep.RegionHeld3
import Derived.Deep.RegionWith
import Derived.Deep.OwnRows
import Derived.Deep.LoopGhost
import Derived.Deep.Light
import Derived.Deep.DrawnRows
namespace Go.Proofs.YtbchbmelofojkaaGreatDoor
open Go.RowKit
set_option linter.unusedVariables false
attribute [local go_sem ↓] Go.wp_at_zero Go.wp_at_succ

/-- As far as place k. -/
def stepTo (a : Int) (n k : Nat) (f : Nat → Int) : Nat → Int := fun j => if j < k ∧ j + 1 < n then subQ (f j) (mulQ a (f (j + 1))) else f j
theorem stepTo_zero (a : Int) (n : Nat) (f : Nat → Int) (j : Nat) : stepTo a n 0 f j = f j := by unfold stepTo; rw [if_neg (by omega)]
theorem stepTo_at (a : Int) (n k : Nat) (f : Nat → Int) (j : Nat) (h : k ≤ j) : stepTo a n k f j = f j := by unfold stepTo; rw [if_neg (by omega)]
theorem stepTo_next (a : Int) (n k : Nat) (f : Nat → Int) (hk : k + 1 < n) (j : Nat) : (if j = k then subQ (f k) (mulQ a (f (k + 1))) else stepTo a n k f j) = stepTo a n (k + 1) f j := by
  unfold stepTo
  by_cases e : j = k
  · subst e; rw [if_pos rfl, if_pos ⟨by omega, hk⟩]
  · rw [if_neg e]
    by_cases h : j < k ∧ j + 1 < n
    · rw [if_pos h, if_pos ⟨by omega, h.2⟩]
    · rw [if_neg h, if_neg (by omega)]
theorem stepTo_end (a : Int) (n k : Nat) (f : Nat → Int) (hk : n ≤ k + 1) (j : Nat) : stepTo a n k f j = stepF a 0 n f j := by
  unfold stepTo stepF
  by_cases h : j + 1 < n
  · rw [if_pos ⟨by omega, h⟩, if_pos ⟨by omega, h⟩]
  · rw [if_neg (by omega), if_neg (by omega)]

set_option maxHeartbeats 2000000 in
theorem stepOut_any (b o n cap : Nat) (f : Nat → Int) (a : Int) (w : World) (hn : 1 ≤ n) (hn8 : n ≤ 1000) (hr : Row w b o n f) (hf : Free w b o n) (hv : Nums f) (a0 : 0 ≤ a) (a1 : a ≤ 18446744073709551615) :
    Calls Tryz.prog 44 #[.slice (some ⟨b, o, none⟩) n cap, .int .u64 a] w fun e w' => e = .returned (.tuple #[]) ∧ Wrote b o n w w' ∧ Row w' b o n (stepF a 0 n f) := by
  have HR := hid hr
  have HF := hid hf
  have HV := hid hv
  clear hr hf hv
  go_enter Tryz.func44, Tryz.ntmps44
  go_wp2_with fail
  go_loopw [4] (fun i wr => ∃ k : Nat, k + 1 ≤ n ∧ i = .int .i64 k ∧ Hid (Wrote b o n w wr) ∧ Hid (Row wr b o n (stepTo a n k f))) (fun i _ => n - (intOf i).toNat)
  case atStart => exact ⟨0, hn, rfl, hid (Wrote.refl _ _ _ _), hid (HR.out.congr fun j _ => (stepTo_zero a n f j).symm)⟩
  case round =>
    obtain ⟨k, hk, rfl, HW, HRk⟩ := hrel
    by_cases hlt : k + 1 < n
    · have c1 : wr.cell? ⟨b, o + k, none⟩ = some (.int .u64 (f k)) := by rw [HRk.out k (by omega), stepTo_at a n k f k (by omega)]
      have c2 : wr.cell? ⟨b, o + (k + 1), none⟩ = some (.int .u64 (f (k + 1))) := by rw [HRk.out (k + 1) (by omega), stepTo_at a n k f (k + 1) (by omega)]
      have fr : wr.frozen? ⟨b, o + k, none⟩ = false := (HF.out.wrote HW.out) k (by omega)
      obtain ⟨x, hx⟩ : ∃ x, f k = x := ⟨_, rfl⟩
      obtain ⟨y, hy⟩ : ∃ y, f (k + 1) = y := ⟨_, rfl⟩
      have bx := HV.out k
      have bY := HV.out (k + 1)
      rw [hx] at c1 bx
      rw [hy] at c2 bY
      obtain ⟨x0, x1⟩ := bx
      obtain ⟨y0, y1⟩ := bY
      obtain ⟨m0, m1⟩ := mulQ_rng a y
      have HX := hid hx
      have HY := hid hy
      clear hx hy
      have i0 : (0 : Int) ≤ (k : Int) := by omega
      have i1 : (k : Int) < (n : Int) := by omega
      have i2 : (0 : Int) ≤ (k : Int) + 1 := by omega
      have i3 : (k : Int) + 1 < (n : Int) := by omega
      have wr1 : IntKind.i64.wrap ((k : Int) + 1) = (k : Int) + 1 := IntWalk.i64_in _ (by omega)
      go_wp2_with fail
      go_region_with (first | (go_at_call 78; refine (mul_any _ _ _ (by omega) (by omega) (by omega) (by omega)).mono ?_; rintro e w' ⟨rfl, rfl⟩) | (go_at_call 76; refine (sub_any _ _ _ (by omega) (by omega) (by omega) (by omega)).mono ?_; rintro e w' ⟨rfl, rfl⟩))
      all_goals (go_wp2_with fail)
      all_goals (refine ⟨⟨k + 1, by omega, by go_num, hid (HW.out.store (by omega) (by omega) _).drew, hid (((HRk.out.store k _ (by omega)).congr fun j _ => ?_).drew)⟩, ?_⟩)
      all_goals first | (rw [← HX.out, ← HY.out]; exact stepTo_next a n k f hlt _) | (simp [intOf]; omega)
    · go_wp2_with fail
      go_end0
      exact ⟨rfl, HW.out, HRk.out.congr fun j _ => stepTo_end a n k f (by omega) j⟩

set_option maxHeartbeats 400000 in
theorem check_ok (ao : Option Addr) (n cap : Nat) (w : World) (h1 : 1 ≤ n) (h8 : n ≤ 8) :
    Calls Tryz.prog 42 #[.slice ao n cap] w fun e w' => e = .returned (.int .i64 0) ∧ w' = w := by
  go_enter Tryz.func42, Tryz.ntmps42
  go_wp2
  go_ret
  exact ⟨rfl, rfl⟩
set_option maxHeartbeats 400000 in
theorem check_bad (ao : Option Addr) (n cap : Nat) (w : World) (h : n = 0 ∨ 8 < n) :
    Calls Tryz.prog 42 #[.slice ao n cap] w fun e w' => e = .returned (.int .i64 4) ∧ w' = w := by
  rcases h with rfl | h
  · go_enter Tryz.func42, Tryz.ntmps42
    go_wp2
    go_ret
    exact ⟨rfl, rfl⟩
  · go_enter Tryz.func42, Tryz.ntmps42
    go_wp2
    go_ret
    exact ⟨rfl, rfl⟩

theorem Tryz.infoU : (Tryz.prog.info? 31).map (fun i => (i.zero, i.size, i.bytes)) = some (some (.int .u64 0), 1, 8) := by kernel_rfl

theorem ddQ_here (v : Nat → Int) (k i : Nat) : ddQ v (k + 1) (i + 1) = mulQ (subQ (ddQ v k (i + 1)) (ddQ v k i)) (invQ ((k : Int) + 1)) := rfl
theorem diff_start (v : Nat → Int) (n j : Nat) (hj : j < n) : (if j < n then nrm (v j) else 0) = ddQ v (min 0 j) j := by
  rw [if_pos hj, Nat.zero_min]; rfl
theorem diff_in (v : Nat → Int) (n k j : Nat) (hj : j < n) : ddQ v (min k j) j = if j ≤ n - 1 then ddQ v (min k j) j else ddQ v (min (k + 1) j) j := by
  rw [if_pos (by omega)]
theorem diff_step (v : Nat → Int) (k i j : Nat) (hk : k ≤ i) (z : Int) (hz : z = ddQ v (k + 1) (i + 1)) :
    (if j = i + 1 then z else if j ≤ i + 1 then ddQ v (min k j) j else ddQ v (min (k + 1) j) j) = if j ≤ i then ddQ v (min k j) j else ddQ v (min (k + 1) j) j := by
  by_cases e : j = i + 1
  · subst e; rw [if_pos rfl, if_neg (by omega), hz, Nat.min_eq_left (by omega)]
  · rw [if_neg e]
    by_cases h : j ≤ i
    · rw [if_pos h, if_pos (by omega)]
    · rw [if_neg h, if_neg (by omega)]
theorem diff_out (v : Nat → Int) (k j : Nat) : (if j ≤ k then ddQ v (min k j) j else ddQ v (min (k + 1) j) j) = ddQ v (min (k + 1) j) j := by
  by_cases h : j ≤ k
  · rw [if_pos h, Nat.min_eq_right h, Nat.min_eq_right (by omega)]
  · rw [if_neg h]
theorem norm_step (v : Nat → Int) (k j : Nat) : (if j = k then nrm (v k) else if j < k then nrm (v j) else 0) = if j < k + 1 then nrm (v j) else 0 := by
  by_cases e : j = k
  · subst e; rw [if_pos rfl, if_pos (by omega)]
  · rw [if_neg e]
    by_cases h : j < k
    · rw [if_pos h, if_pos (by omega)]
    · rw [if_neg h, if_neg (by omega)]
theorem small_ne (k : Nat) (h : k ≤ 100) : nrm ((k : Int) + 1) ≠ 0 := by unfold nrm; rw [Q_eq]; omega

set_option maxHeartbeats 4000000 in
set_option maxRecDepth 100000 in
theorem differences_any (b off n cap : Nat) (v : Nat → Int) (w : World) (hn1 : 1 ≤ n) (hn8 : n ≤ 8) (hr : Row w b off n v) (hv : Nums v) :
    Calls Tryz.prog 43 #[.slice (some ⟨b, off, none⟩) n cap] w fun e w' => e = .returned (.slice (some ⟨w.heap.size, 0, none⟩) n n) ∧ Made w w' n (fun j => ddQ v j j) := by
  have HR := hid hr
  have HV := hid hv
  clear hr hv
  have hmk := run_make_row' (P := Tryz.prog) 22 31 (.int .u64 0) 8 Tryz.underlying22 Tryz.infoU rfl .i64 .i64 n (by omega) (by omega)
  go_enter Tryz.func43, Tryz.ntmps43
  go_wp2
  clear hmk
  go_loopg [15] n (fun g i wr => ∃ k : Nat, k ≤ n ∧ g = n - k ∧ i = .int .i64 k ∧ Hid (Made w wr n (fun j => if j < k then nrm (v j) else 0)))
  case atStart => exact ⟨0, by omega, rfl, rfl, hid ((Made.start w n 31).congr fun j _ => by rw [if_neg (by omega)])⟩
  case round =>
    obtain ⟨k, hk, rfl, rfl, HM⟩ := hrel
    by_cases hlt : k < n
    · have c1 := HM.out.old HR.out k hlt
      have c2 := HM.out.cell k hlt
      have fr := HM.out.frozen k hlt
      rw [if_neg (by omega)] at c2
      obtain ⟨x, hx⟩ : ∃ x, v k = x := ⟨_, rfl⟩
      have bx := HV.out k
      rw [hx] at c1 bx
      obtain ⟨x0, x1⟩ := bx
      have HX := hid hx
      clear hx
      go_wp2_with (go_at_call 48; refine (norm_any _ _ (by omega) (by omega)).mono ?_; rintro e w' ⟨rfl, rfl⟩)
      go_roundg (n - (k + 1))
      case measure => omega
      case rel => exact ⟨k + 1, by omega, rfl, by go_num, hid ((HM.out.store k _ hlt).congr fun j _ => by rw [← HX.out]; exact norm_step v k j)⟩
    · have hkn : k = n := by omega
      subst hkn
      have HM0 : Hid (Made w wr k (fun j => ddQ v (min 0 j) j)) := hid (HM.out.congr fun j hj => diff_start v k j hj)
      clear HM
      obtain ⟨n, hn⟩ : ∃ n, n = k := ⟨_, rfl⟩
      subst hn
      clear hlt hk
      go_wp2_with fail
      go_loopg [6] (n - 1) (fun g i wr => ∃ k : Nat, k + 1 ≤ n ∧ g = n - 1 - k ∧ i = .int .i64 ((k : Int) + 1) ∧ Hid (Made w wr n (fun j => ddQ v (min k j) j)))
      case atStart => exact ⟨0, by omega, rfl, by go_num, HM0⟩
      case round =>
        obtain ⟨k, hk, rfl, rfl, HM⟩ := hrel
        clear HM0
        by_cases hlt : k + 1 < n
        · have k8 : k ≤ 7 := by omega
          have i0 : (k : Int) + 1 < (n : Int) := by omega
          have HI := hid (fun w => inv_some ((k : Int) + 1) w (by omega) (by omega) (small_ne k (by omega)))
          obtain ⟨p, hp⟩ : ∃ p, invQ ((k : Int) + 1) = p := ⟨_, rfl⟩
          obtain ⟨p0, p1⟩ := invQ_rng ((k : Int) + 1)
          rw [hp] at HI p0 p1
          have HP := hid hp
          clear hp
          go_wp2_with (go_at_call 79; refine (HI.out _).mono ?_; rintro e w' ⟨rfl, rfl⟩)
          go_loopg [9] (n - 1 - k) (fun g i wr => ∃ t : Nat, k ≤ t ∧ t < n ∧ g = t - k ∧ i = .int .i64 (t : Int) ∧ Hid (Made w wr n (fun j => if j ≤ t then ddQ v (min k j) j else ddQ v (min (k + 1) j) j)))
          case atStart => exact ⟨n - 1, by omega, by omega, rfl, by go_num, hid (HM.out.congr fun j hj => diff_in v n k j hj)⟩
          case round =>
            obtain ⟨t, ht, htn, rfl, rfl, HT⟩ := hrel
            clear HM HI
            by_cases hkt : k < t
            · obtain ⟨i, rfl⟩ : ∃ i, t = i + 1 := ⟨t - 1, by omega⟩
              have c1 := HT.out.cell (i + 1) htn
              have c2 := HT.out.cell i (by omega)
              have fr := HT.out.frozen (i + 1) htn
              rw [if_pos (Nat.le_refl _), Nat.min_eq_left (by omega)] at c1
              rw [if_pos (by omega), Nat.min_eq_left (by omega)] at c2
              obtain ⟨x, hx⟩ : ∃ x, ddQ v k (i + 1) = x := ⟨_, rfl⟩
              obtain ⟨y, hy⟩ : ∃ y, ddQ v k i = y := ⟨_, rfl⟩
              obtain ⟨x0, x1⟩ := ddQ_rng v k (i + 1)
              obtain ⟨y0, y1⟩ := ddQ_rng v k i
              rw [hx] at c1 x0 x1
              rw [hy] at c2 y0 y1
              obtain ⟨s0, s1⟩ := subQ_rng x y
              have HX := hid hx
              have HY := hid hy
              clear hx hy
              have j0 : (0 : Int) ≤ (i : Int) := by omega
              have j1 : (i : Int) < (n : Int) := by omega
              have j2 : (0 : Int) ≤ (i : Int) + 1 := by omega
              have j3 : (i : Int) + 1 < (n : Int) := by omega
              have j4 : (k : Int) + 1 ≤ (i : Int) + 1 := by omega
              have wr1 : IntKind.i64.wrap ((i : Int) + 1 - 1) = (i : Int) := by rw [IntWalk.i64_in _ (by omega)]; omega
              have wr2 : IntKind.i64.wrap (i : Int) = (i : Int) := IntWalk.i64_in _ (by omega)
              go_wp2_with fail
              go_region_with (first | (go_at_call 78; refine (mul_any _ _ _ (by omega) (by omega) (by omega) (by omega)).mono ?_; rintro e w' ⟨rfl, rfl⟩) | (go_at_call 76; refine (sub_any _ _ _ (by omega) (by omega) (by omega) (by omega)).mono ?_; rintro e w' ⟨rfl, rfl⟩))
              all_goals (go_wp2_with fail)
              all_goals (go_roundg (i - k))
              all_goals first | (go_light; omega) | (exact ⟨i, by omega, by omega, rfl, by go_num, hid ((HT.out.store (i + 1) _ htn).congr fun j _ => diff_step v k i j (by omega) _ (by rw [ddQ_here, HP.out, HX.out, HY.out])).drew⟩)
            · have e : t = k := by omega
              subst e
              have HM : Hid (Made w wr n (fun j => ddQ v (min (t + 1) j) j)) := hid (HT.out.congr fun j _ => diff_out v t j)
              clear HT
              go_wp2_with fail
              go_roundg (n - 1 - (t + 1))
              case measure => go_light; omega
              case rel => exact ⟨t + 1, by omega, rfl, by go_num, HM⟩
        · have e : k + 1 = n := by omega
          subst e
          go_wp2_with fail
          go_ret
          exact ⟨rfl, HM.out.congr fun j hj => by rw [Nat.min_eq_right (by omega)]⟩

end Go.Proofs.YtbchbmelofojkaaGreatDoor
