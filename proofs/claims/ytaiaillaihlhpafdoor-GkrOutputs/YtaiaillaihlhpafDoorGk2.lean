/-
  Contracts of package gkr's hasForm, and of a turn's ends, between and next; they make new rows and write nothing that was there.
-/
import Derived.Test.YtaiaillaihlhpafDoorGkrM
import Derived.Test.YtaiaillaihlhpafDoorFieldA
import Derived.Test.YtaiaillaihlhpafDoorLists
import Derived.Deep.QuietTactic
import Derived.StillTailTactics
import Derived.Deep.OwnRows
import Derived.Deep.LoopGhost
import Derived.Deep.Light
import Derived.Deep.DrawnRows
import Derived.Deep.RegionHeld3
namespace Go.Proofs.YtaiaillaihlhpafDoor
open Go.RowKit
set_option linter.unusedVariables false
attribute [local go_sem ↓] Go.wp_at_zero Go.wp_at_succ

theorem Tryd.mixed : Tryd.prog.follows .mixedOrders = true := by kernel_rfl
theorem Tryd.infoU : (Tryd.prog.info? 26).map (fun i => (i.zero, i.size, i.bytes)) = some (some (.int .u64 0), 1, 8) := by kernel_rfl

/-- A part's form. -/
def formQ (rn ln k : Nat) (L : Nat → Nat) : Prop := rn = 2 * k ∧ ln = k + 1 ∧ ∀ i, i < rn → L i = 3
set_option maxHeartbeats 2000000 in
set_option maxRecDepth 100000 in
theorem hasForm_any (ra la : Option Addr) (rn rc ln lc k : Nat) (A : Nat → Option Addr) (L C : Nat → Nat) (F : Nat → Nat → Int) (w : World) (hk : k ≤ 4) (hl : LRow w ra rn A L C F) :
    Calls Tryd.prog 37 #[.agg #[.slice ra rn rc, .slice la ln lc], .int .i64 (k : Int)] w fun e w' => ∃ r : Bool, e = .returned (.bool r) ∧ (r = true ↔ formQ rn ln k L) ∧ Below w.heap.size w w' := by
  have hal := (Below.refl w.heap.size w).alloc (Nat.le_refl _) (.cells #[.slice ra rn rc, .slice la ln lc] 76)
  have HB := hid hal
  have HL := hid (hl.kept hal)
  have HBX := hid (Box2.new w (.slice ra rn rc) (.slice la ln lc) 76)
  clear hal hl
  by_cases hr1 : rn = 2 * k
  · have e2 : ((rn : Int) != 2 * (k : Int)) = false := neq_of (by omega)
    by_cases hl1 : ln = k + 1
    · have e3 : ((ln : Int) != (k : Int) + 1) = false := neq_of (by omega)
      have HRL := hid (And.intro hr1 hl1)
      have hr8 : rn ≤ 8 := by omega
      clear hr1 hl1
      go_enter Tryd.func37, Tryd.ntmps37
      go_wp2_with fail
      clear e2 e3
      generalize w.alloc (.cells #[.slice ra rn rc, .slice la ln lc] 76) = W1 at HB HL HBX ⊢
      go_loopg [24] rn (fun q i wx => ∃ u : Nat, u ≤ rn ∧ q = rn - u ∧ i = .int .i64 (u : Int) ∧ wx = W1 ∧ Hid (∀ i, i < u → L i = 3))
      case atStart => exact ⟨0, by omega, rfl, rfl, rfl, hid (fun i hi => absurd hi (by omega))⟩
      case round =>
        obtain ⟨u, hu, rfl, rfl, hwx, HU⟩ := hrel
        subst hwx
        by_cases hul : u < rn
        · obtain ⟨rb, ro, rfl, hrl⟩ := HL.out (by omega)
          have x0 := (hrl u hul).1
          obtain ⟨q1, hq1⟩ : ∃ x, A u = x := ⟨_, rfl⟩
          obtain ⟨q2, hq2⟩ : ∃ x, L u = x := ⟨_, rfl⟩
          obtain ⟨q3, hq3⟩ : ∃ x, C u = x := ⟨_, rfl⟩
          rw [hq1, hq2, hq3] at x0
          have HQ2 := hid hq2
          clear hrl hq1 hq2 hq3
          have u0 : (0 : Int) ≤ (u : Int) := by omega
          have u1 : (u : Int) < (rn : Int) := by omega
          by_cases h3 : q2 = 3
          · have e4 : ((q2 : Int) != 3) = false := by rw [h3]; rfl
            have HUN : Hid (∀ i, i < u + 1 → L i = 3) := hid (fun i hi => by
              by_cases e : i = u
              · rw [e, HQ2.out]; exact h3
              · exact HU.out i (by omega))
            go_wp2_with fail
            go_roundg (rn - (u + 1))
            case measure => go_light; omega
            case rel => exact ⟨u + 1, by omega, rfl, by go_num, rfl, HUN⟩
          · have e4 : ((q2 : Int) != 3) = true := by simp; omega
            go_wp2_with fail
            go_ret
            exact ⟨false, rfl, ⟨fun h => absurd h Bool.false_ne_true, fun h => absurd (HQ2.out.symm.trans (h.2.2 u hul)) h3⟩, HB.out⟩
        · have u2 : ¬ ((u : Int) < (rn : Int)) := by omega
          go_wp2_with fail
          go_ret
          exact .inr ⟨rfl, ⟨HRL.out.1, HRL.out.2, fun i hi => HU.out i (by omega)⟩, HB.out⟩
    · have e3 : ((ln : Int) != (k : Int) + 1) = true := by simp; omega
      have HL1 := hid hl1
      clear hr1 hl1
      go_enter Tryd.func37, Tryd.ntmps37
      go_wp2_with fail
      go_ret
      exact ⟨false, rfl, ⟨fun h => absurd h Bool.false_ne_true, fun h => absurd h.2.1 HL1.out⟩, HB.out⟩
  · have e2 : ((rn : Int) != 2 * (k : Int)) = true := by simp; omega
    have HR1 := hid hr1
    clear hr1
    go_enter Tryd.func37, Tryd.ntmps37
    go_wp2_with fail
    go_ret
    exact ⟨false, rfl, ⟨fun h => absurd h Bool.false_ne_true, fun h => absurd h.1 HR1.out⟩, HB.out⟩

set_option maxHeartbeats 2000000 in
set_option maxRecDepth 100000 in
theorem ends_any (i : Int) (az : Option Addr) (nz cz bd od k cd : Nat) (tau : Int) (w : World) (hk : k ≤ 100) (hcd : 2 * k < cd) (hcm : cd ≤ maxLen) :
    Calls Tryd.prog 53 #[turnV i az nz cz (some ⟨bd, od, none⟩) (2 * k) cd tau] w fun e w' => e = .returned (.tuple #[.slice (some ⟨bd, od, none⟩) k cd, .slice (some ⟨bd, od + k, none⟩) k (cd - k)]) ∧ Below w.heap.size w w' := by
  have HB := hid ((Below.refl w.heap.size w).alloc (Nat.le_refl _) (.cells #[.int .i64 i, .slice az nz cz, .slice (some ⟨bd, od, none⟩) (2 * k) cd, .int .u64 tau] 73))
  have hbx := Box4.new w (.int .i64 i) (.slice az nz cz) (.slice (some ⟨bd, od, none⟩) (2 * k) cd) (.int .u64 tau) 73
  obtain ⟨z0, z1, z2, z3, zl⟩ := hbx
  obtain ⟨k2, hk2⟩ : ∃ x, 2 * k = x := ⟨_, rfl⟩
  rw [hk2] at z0 z1 z2 z3 zl HB ⊢
  have d1 : (k2 : Int).tdiv 2 = (k : Int) := by rw [Int.tdiv_eq_ediv_of_nonneg (by omega)]; omega
  have d2 : (k2 : Int) / 2 = (k : Int) := by omega
  have a0 : (0 : Int) ≤ (k : Int) := by omega
  have a1 : (k : Int) ≤ (k2 : Int) := by omega
  have a2 : (k : Int) ≤ (cd : Int) := by omega
  have a3 : (k2 : Int) ≤ (cd : Int) := by omega
  have h4 : k2 - k = k := by omega
  have h5 : ¬ cd = k := by omega
  have HK := hid hk2
  clear hk2 hcd
  go_enter Tryd.func53, Tryd.ntmps53
  go_wp2_with fail
  go_quiet (fail)
  go_wp2_with fail
  go_ret2
  refine ⟨by first | rfl | (rw [h4]), ?_⟩
  exact ⟨HB.out.os, HB.out.tape, HB.out.output, HB.out.size, HB.out.block⟩

/-- What between leaves, place by place. -/
theorem bet_step (x y : Nat → Int) (s a d : Int) (k j : Nat) (ha : x k = a) (hd : y k = d) : (if j = k then addQ a (mulQ s (subQ d a)) else if j < k then linQ x y s j else 0) = if j < k + 1 then linQ x y s j else 0 := by
  by_cases e : j = k
  · subst e
    rw [if_pos rfl, if_pos (by omega), linQ, ha, hd]
  · rw [if_neg e]
    by_cases h2 : j < k
    · rw [if_pos h2, if_pos (by omega)]
    · rw [if_neg h2, if_neg (by omega)]

set_option maxHeartbeats 4000000 in
set_option maxRecDepth 100000 in
theorem between_any (i : Int) (az : Option Addr) (nz cz bd od k cd : Nat) (tau s : Int) (d : Nat → Int) (w : World) (hk : k ≤ 100) (hcd : 2 * k < cd) (hcm : cd ≤ maxLen) (hr : Row w bd od (2 * k) d) (hv : Nums d) (s0 : 0 ≤ s) (s1 : s ≤ 18446744073709551615) :
    Calls Tryd.prog 54 #[turnV i az nz cz (some ⟨bd, od, none⟩) (2 * k) cd tau, .int .u64 s] w fun e w' => ∃ B, e = .returned (.slice (some ⟨B, 0, none⟩) k k) ∧ w.heap.size ≤ B ∧ Row w' B 0 k (linQ d (fun j => d (k + j)) s) ∧ Below w.heap.size w w' := by
  have HEN := hid (fun W => ends_any i az nz cz bd od k cd tau W hk hcd hcm)
  have HS0 := hid (StT.start w (.int .i64 i) (.slice az nz cz) (.slice (some ⟨bd, od, none⟩) (2 * k) cd) (.int .u64 tau) 73)
  have HR := hid hr
  have HV := hid hv
  clear hr hv hcd hcm
  obtain ⟨k2, hk2⟩ : ∃ x, 2 * k = x := ⟨_, rfl⟩
  rw [hk2] at HEN HS0 HR ⊢
  have HK2 := hid hk2
  clear hk2
  have hmk := run_make_row' (P := Tryd.prog) 25 26 (.int .u64 0) 8 Tryd.underlying25 Tryd.infoU rfl .i64 .i64 k (by omega) (by omega)
  go_enter Tryd.func54, Tryd.ntmps54
  go_wp2_with fail
  generalize w.alloc (.cells #[.int .i64 i, .slice az nz cz, .slice (some ⟨bd, od, none⟩) k2 cd, .int .u64 tau] 73) = W1 at HS0 ⊢
  refine (HEN.out _).mono ?_
  rintro e w1 ⟨rfl, hb⟩
  have HB1 := hid (HS0.out.bel.trans (hb.mono HS0.out.bel.size))
  clear hb HS0 HEN
  go_wp2_with fail
  clear hmk
  go_loopg [19] k (fun q i wr => ∃ t : Nat, t ≤ k ∧ q = k - t ∧ i = .int .i64 (t : Int) ∧ Hid (Made w1 wr k (fun j => if j < t then linQ d (fun j => d (k + j)) s j else 0)))
  case atStart => exact ⟨0, by omega, rfl, rfl, hid ((Made.start w1 k 26).congr fun j _ => by rw [if_neg (by omega)])⟩
  case round =>
    obtain ⟨t, ht, rfl, rfl, HM⟩ := hrel
    by_cases htl : t < k
    · have hbw : Below w.heap.size w wr := HB1.out.trans (HM.out.below.mono HB1.out.size)
      have hk2 := HK2.out
      have hrw := HR.out.kept hbw (HR.out.lt (by omega))
      have c1 := hrw t (by omega)
      have c2 := hrw (k + t) (by omega)
      rw [← Nat.add_assoc] at c2
      have c3 := HM.out.cell t htl
      have f3 := HM.out.frozen t htl
      rw [if_neg (by omega)] at c3
      obtain ⟨a, ha⟩ : ∃ a, d t = a := ⟨_, rfl⟩
      obtain ⟨y, hy⟩ : ∃ a, d (k + t) = a := ⟨_, rfl⟩
      obtain ⟨a0, a1⟩ := HV.out t
      obtain ⟨y0, y1⟩ := HV.out (k + t)
      rw [ha] at c1 a0 a1
      rw [hy] at c2 y0 y1
      have HA := hid (And.intro ha hy)
      obtain ⟨q1, q2⟩ := subQ_rng y a
      obtain ⟨q3, q4⟩ := mulQ_rng s (subQ y a)
      clear ha hy hrw hbw hk2
      have t0 : (0 : Int) ≤ (t : Int) := by omega
      have t1 : (t : Int) < (k : Int) := by omega
      go_wp2_with fail
      refine wp_region_still_tail 19 Tryd.mixed (by kernel_rfl) ?_
      simp only [List.take_succ_cons, List.take_zero, List.drop_succ_cons, List.drop_zero]
      iterate 15 still_step
      still_call (sub_any y a _ (by omega) (by omega) (by omega) (by omega))
      still_call (mul_any s (subQ y a) _ (by omega) (by omega) (by omega) (by omega))
      still_call (add_any a (mulQ s (subQ y a)) _ (by omega) (by omega) (by omega) (by omega))
      still_step
      refine wpStill_nil ?_
      go_wp2_with fail
      go_roundg (k - (t + 1))
      case measure => go_light; omega
      case rel => exact ⟨t + 1, by omega, rfl, by go_num, hid ((HM.out.drew.store t _ htl).congr fun j _ => bet_step d (fun j => d (k + j)) s a y t j HA.out.1 HA.out.2)⟩
    · have e : t = k := by omega
      subst e
      go_wp2_with fail
      go_ret
      exact ⟨_, rfl, HB1.out.size, HM.out.row.congr (fun j hj => by rw [if_pos hj]), HB1.out.trans (HM.out.below.mono HB1.out.size)⟩

set_option maxHeartbeats 2000000 in
set_option maxRecDepth 100000 in
theorem next_any (i : Int) (az : Option Addr) (nz cz bd od k cd : Nat) (tau : Int) (d : Nat → Int) (w : World) (hk : k ≤ 100) (hcd : 2 * k < cd) (hcm : cd ≤ maxLen) (hr : Row w bd od (2 * k) d) (hv : Nums d) (s0 : 0 ≤ tau) (s1 : tau ≤ 18446744073709551615) (hb0 : bd < w.heap.size) :
    Calls Tryd.prog 40 #[turnV i az nz cz (some ⟨bd, od, none⟩) (2 * k) cd tau] w fun e w' => ∃ B, e = .returned (.slice (some ⟨B, 0, none⟩) k k) ∧ w.heap.size ≤ B ∧ Row w' B 0 k (linQ d (fun j => d (k + j)) tau) ∧ Below w.heap.size w w' := by
  have hal := (Below.refl w.heap.size w).alloc (Nat.le_refl _) (.cells #[.int .i64 i, .slice az nz cz, .slice (some ⟨bd, od, none⟩) (2 * k) cd, .int .u64 tau] 73)
  have HBE := hid (between_any i az nz cz bd od k cd tau tau d _ hk hcd hcm (hr.kept hal hb0) hv s0 s1)
  have HB := hid hal
  clear hr hv hcd hcm hal
  obtain ⟨k2, hk2⟩ : ∃ x, 2 * k = x := ⟨_, rfl⟩
  rw [hk2] at HBE HB ⊢
  clear hk2
  go_enter Tryd.func40, Tryd.ntmps40
  go_wp2_with fail
  refine (HBE.out).mono ?_
  rintro e w1 ⟨B, rfl, hB, hrow, hb⟩
  have HF := hid (And.intro hB (And.intro hrow hb))
  clear hB hrow hb
  go_wp2_with fail
  go_ret
  exact ⟨B, rfl, Nat.le_trans HB.out.size HF.out.1, HF.out.2.1, HB.out.trans (HF.out.2.2.mono HB.out.size)⟩

end Go.Proofs.YtaiaillaihlhpafDoor
