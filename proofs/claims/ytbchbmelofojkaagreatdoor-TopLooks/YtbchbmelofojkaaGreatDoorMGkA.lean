/-
  Several texts in one: Gk2, Gk3, GkrT, Gk4, Grid, Gk5, Gk1, Gk9, RangeK, Tun, Gk12, Gk6, RoundK; each opens with what it holds.
-/
import Derived.Test.YtbchbmelofojkaaGreatDoorGkrM
import Derived.Test.YtbchbmelofojkaaGreatDoorFieldA
import Derived.Test.YtbchbmelofojkaaGreatDoorLists
import Derived.Deep.QuietTactic
import Derived.StillTailTactics
import Derived.Deep.OwnRows
import Derived.Deep.LoopGhost
import Derived.Deep.Light
import Derived.Deep.DrawnRows
import Derived.Deep.RegionHeld3
import Derived.Test.YtbchbmelofojkaaGreatDoorMSum
import Derived.Test.YtbchbmelofojkaaGreatDoorTabs
import Derived.Deep.AppendLies
import Derived.Test.YtbchbmelofojkaaGreatDoorLayers
import Derived.Deep.DeepCutAuto
import Derived.Test.YtbchbmelofojkaaGreatDoorWirC
import Derived.Test.YtbchbmelofojkaaGreatDoorPrf
import Derived.Test.YtbchbmelofojkaaGreatDoorCircC
import Derived.RangeFuncBox
import Derived.RangeFuncLeaves
import Derived.Shelf.Abstract
import Derived.WalkKit
import Derived.OwnWalkIn
import Derived.TacticsInMore
import Derived.LoopNIn
import Derived.LoopIn
import Derived.OrdersIn
import Derived.RangeFuncCalls
/-
  Contracts of package gkr's hasForm, and of a turn's ends, between and next; they make new rows and write nothing that was there.
-/
namespace Go.Proofs.YtbchbmelofojkaaGreatDoor
open Go.RowKit
set_option linter.unusedVariables false
attribute [local go_sem ↓] Go.wp_at_zero Go.wp_at_succ

theorem Tryz.mixed : Tryz.prog.follows .mixedOrders = true := by kernel_rfl
theorem Tryz.infoU : (Tryz.prog.info? 31).map (fun i => (i.zero, i.size, i.bytes)) = some (some (.int .u64 0), 1, 8) := by kernel_rfl

/-- A part's form. -/
def formQ (rn ln k : Nat) (L : Nat → Nat) : Prop := rn = 2 * k ∧ ln = k + 1 ∧ ∀ i, i < rn → L i = 3
set_option maxHeartbeats 2000000 in
set_option maxRecDepth 100000 in
theorem hasForm_any (ra la : Option Addr) (rn rc ln lc k : Nat) (A : Nat → Option Addr) (L C : Nat → Nat) (F : Nat → Nat → Int) (w : World) (hk : k ≤ 4) (hl : LRow w ra rn A L C F) :
    Calls Tryz.prog 104 #[.agg #[.slice ra rn rc, .slice la ln lc], .int .i64 (k : Int)] w fun e w' => ∃ r : Bool, e = .returned (.bool r) ∧ (r = true ↔ formQ rn ln k L) ∧ Below w.heap.size w w' := by
  have hal := (Below.refl w.heap.size w).alloc (Nat.le_refl _) (.cells #[.slice ra rn rc, .slice la ln lc] 67)
  have HB := hid hal
  have HL := hid (hl.kept hal)
  have HBX := hid (Box2.new w (.slice ra rn rc) (.slice la ln lc) 67)
  clear hal hl
  by_cases hr1 : rn = 2 * k
  · have e2 : ((rn : Int) != 2 * (k : Int)) = false := neq_of (by omega)
    by_cases hl1 : ln = k + 1
    · have e3 : ((ln : Int) != (k : Int) + 1) = false := neq_of (by omega)
      have HRL := hid (And.intro hr1 hl1)
      have hr8 : rn ≤ 8 := by omega
      clear hr1 hl1
      go_enter Tryz.func104, Tryz.ntmps104
      go_wp2_with fail
      clear e2 e3
      generalize w.alloc (.cells #[.slice ra rn rc, .slice la ln lc] 67) = W1 at HB HL HBX ⊢
      go_loopg [24] rn (fun q i wx => ∃ u : Nat, u ≤ rn ∧ q = rn - u ∧ i = .int .i64 (u : Int) ∧ wx = W1 ∧ Hid (∀ i, i < u → L i = 3))
      case atStart => exact ⟨0, by omega, rfl, rfl, rfl, hid (fun i hi => absurd hi (by omega))⟩
      case round =>
        obtain ⟨u, hu, rfl, rfl, hwx, HU⟩ := hrel
        subst hwx
        by_cases hul : u < rn
        · obtain ⟨rb, ro, rfl, hrl⟩ := HL.out (by omega)
          have x0 := (hrl u hul).1
          obtain ⟨q1, hq1⟩ : ∃ x, A u = x := ⟨_, rfl⟩
          obtain ⟨q2, hq2⟩ : ∃ x, L u = x := ⟨_, rfl⟩
          obtain ⟨q3, hq3⟩ : ∃ x, C u = x := ⟨_, rfl⟩
          rw [hq1, hq2, hq3] at x0
          have HQ2 := hid hq2
          clear hrl hq1 hq2 hq3
          have u0 : (0 : Int) ≤ (u : Int) := by omega
          have u1 : (u : Int) < (rn : Int) := by omega
          by_cases h3 : q2 = 3
          · have e4 : ((q2 : Int) != 3) = false := by rw [h3]; rfl
            have HUN : Hid (∀ i, i < u + 1 → L i = 3) := hid (fun i hi => by
              by_cases e : i = u
              · rw [e, HQ2.out]; exact h3
              · exact HU.out i (by omega))
            go_wp2_with fail
            go_roundg (rn - (u + 1))
            case measure => go_light; omega
            case rel => exact ⟨u + 1, by omega, rfl, by go_num, rfl, HUN⟩
          · have e4 : ((q2 : Int) != 3) = true := by simp; omega
            go_wp2_with fail
            go_ret
            exact ⟨false, rfl, ⟨fun h => absurd h Bool.false_ne_true, fun h => absurd (HQ2.out.symm.trans (h.2.2 u hul)) h3⟩, HB.out⟩
        · have u2 : ¬ ((u : Int) < (rn : Int)) := by omega
          go_wp2_with fail
          go_ret
          exact .inr ⟨rfl, ⟨HRL.out.1, HRL.out.2, fun i hi => HU.out i (by omega)⟩, HB.out⟩
    · have e3 : ((ln : Int) != (k : Int) + 1) = true := by simp; omega
      have HL1 := hid hl1
      clear hr1 hl1
      go_enter Tryz.func104, Tryz.ntmps104
      go_wp2_with fail
      go_ret
      exact ⟨false, rfl, ⟨fun h => absurd h Bool.false_ne_true, fun h => absurd h.2.1 HL1.out⟩, HB.out⟩
  · have e2 : ((rn : Int) != 2 * (k : Int)) = true := by simp; omega
    have HR1 := hid hr1
    clear hr1
    go_enter Tryz.func104, Tryz.ntmps104
    go_wp2_with fail
    go_ret
    exact ⟨false, rfl, ⟨fun h => absurd h Bool.false_ne_true, fun h => absurd h.1 HR1.out⟩, HB.out⟩

set_option maxHeartbeats 2000000 in
set_option maxRecDepth 100000 in
theorem ends_any (i : Int) (az : Option Addr) (nz cz bd od k cd : Nat) (tau : Int) (w : World) (hk : k ≤ 100) (hcd : 2 * k < cd) (hcm : cd ≤ maxLen) :
    Calls Tryz.prog 92 #[turnV i az nz cz (some ⟨bd, od, none⟩) (2 * k) cd tau] w fun e w' => e = .returned (.tuple #[.slice (some ⟨bd, od, none⟩) k cd, .slice (some ⟨bd, od + k, none⟩) k (cd - k)]) ∧ Below w.heap.size w w' := by
  have HB := hid ((Below.refl w.heap.size w).alloc (Nat.le_refl _) (.cells #[.int .i64 i, .slice az nz cz, .slice (some ⟨bd, od, none⟩) (2 * k) cd, .int .u64 tau] 106))
  have hbx := Box4.new w (.int .i64 i) (.slice az nz cz) (.slice (some ⟨bd, od, none⟩) (2 * k) cd) (.int .u64 tau) 106
  obtain ⟨z0, z1, z2, z3, zl⟩ := hbx
  obtain ⟨k2, hk2⟩ : ∃ x, 2 * k = x := ⟨_, rfl⟩
  rw [hk2] at z0 z1 z2 z3 zl HB ⊢
  have d1 : (k2 : Int).tdiv 2 = (k : Int) := by rw [Int.tdiv_eq_ediv_of_nonneg (by omega)]; omega
  have d2 : (k2 : Int) / 2 = (k : Int) := by omega
  have a0 : (0 : Int) ≤ (k : Int) := by omega
  have a1 : (k : Int) ≤ (k2 : Int) := by omega
  have a2 : (k : Int) ≤ (cd : Int) := by omega
  have a3 : (k2 : Int) ≤ (cd : Int) := by omega
  have h4 : k2 - k = k := by omega
  have h5 : ¬ cd = k := by omega
  have HK := hid hk2
  clear hk2 hcd
  go_enter Tryz.func92, Tryz.ntmps92
  go_wp2_with fail
  go_quiet (fail)
  go_wp2_with fail
  go_ret2
  refine ⟨by first | rfl | (rw [h4]), ?_⟩
  exact ⟨HB.out.os, HB.out.tape, HB.out.output, HB.out.size, HB.out.block⟩

/-- What between leaves, place by place. -/
theorem bet_step (x y : Nat → Int) (s a d : Int) (k j : Nat) (ha : x k = a) (hd : y k = d) : (if j = k then addQ a (mulQ s (subQ d a)) else if j < k then linQ x y s j else 0) = if j < k + 1 then linQ x y s j else 0 := by
  by_cases e : j = k
  · subst e
    rw [if_pos rfl, if_pos (by omega), linQ, ha, hd]
  · rw [if_neg e]
    by_cases h2 : j < k
    · rw [if_pos h2, if_pos (by omega)]
    · rw [if_neg h2, if_neg (by omega)]

set_option maxHeartbeats 4000000 in
set_option maxRecDepth 100000 in
theorem between_any (i : Int) (az : Option Addr) (nz cz bd od k cd : Nat) (tau s : Int) (d : Nat → Int) (w : World) (hk : k ≤ 100) (hcd : 2 * k < cd) (hcm : cd ≤ maxLen) (hr : Row w bd od (2 * k) d) (hv : Nums d) (s0 : 0 ≤ s) (s1 : s ≤ 18446744073709551615) :
    Calls Tryz.prog 93 #[turnV i az nz cz (some ⟨bd, od, none⟩) (2 * k) cd tau, .int .u64 s] w fun e w' => ∃ B, e = .returned (.slice (some ⟨B, 0, none⟩) k k) ∧ w.heap.size ≤ B ∧ Row w' B 0 k (linQ d (fun j => d (k + j)) s) ∧ Below w.heap.size w w' := by
  have HEN := hid (fun W => ends_any i az nz cz bd od k cd tau W hk hcd hcm)
  have HS0 := hid (StT.start w (.int .i64 i) (.slice az nz cz) (.slice (some ⟨bd, od, none⟩) (2 * k) cd) (.int .u64 tau) 106)
  have HR := hid hr
  have HV := hid hv
  clear hr hv hcd hcm
  obtain ⟨k2, hk2⟩ : ∃ x, 2 * k = x := ⟨_, rfl⟩
  rw [hk2] at HEN HS0 HR ⊢
  have HK2 := hid hk2
  clear hk2
  have hmk := run_make_row' (P := Tryz.prog) 22 31 (.int .u64 0) 8 Tryz.underlying22 Tryz.infoU rfl .i64 .i64 k (by omega) (by omega)
  go_enter Tryz.func93, Tryz.ntmps93
  go_wp2_with fail
  generalize w.alloc (.cells #[.int .i64 i, .slice az nz cz, .slice (some ⟨bd, od, none⟩) k2 cd, .int .u64 tau] 106) = W1 at HS0 ⊢
  refine (HEN.out _).mono ?_
  rintro e w1 ⟨rfl, hb⟩
  have HB1 := hid (HS0.out.bel.trans (hb.mono HS0.out.bel.size))
  clear hb HS0 HEN
  go_wp2_with fail
  clear hmk
  go_loopg [19] k (fun q i wr => ∃ t : Nat, t ≤ k ∧ q = k - t ∧ i = .int .i64 (t : Int) ∧ Hid (Made w1 wr k (fun j => if j < t then linQ d (fun j => d (k + j)) s j else 0)))
  case atStart => exact ⟨0, by omega, rfl, rfl, hid ((Made.start w1 k 31).congr fun j _ => by rw [if_neg (by omega)])⟩
  case round =>
    obtain ⟨t, ht, rfl, rfl, HM⟩ := hrel
    by_cases htl : t < k
    · have hbw : Below w.heap.size w wr := HB1.out.trans (HM.out.below.mono HB1.out.size)
      have hk2 := HK2.out
      have hrw := HR.out.kept hbw (HR.out.lt (by omega))
      have c1 := hrw t (by omega)
      have c2 := hrw (k + t) (by omega)
      rw [← Nat.add_assoc] at c2
      have c3 := HM.out.cell t htl
      have f3 := HM.out.frozen t htl
      rw [if_neg (by omega)] at c3
      obtain ⟨a, ha⟩ : ∃ a, d t = a := ⟨_, rfl⟩
      obtain ⟨y, hy⟩ : ∃ a, d (k + t) = a := ⟨_, rfl⟩
      obtain ⟨a0, a1⟩ := HV.out t
      obtain ⟨y0, y1⟩ := HV.out (k + t)
      rw [ha] at c1 a0 a1
      rw [hy] at c2 y0 y1
      have HA := hid (And.intro ha hy)
      obtain ⟨q1, q2⟩ := subQ_rng y a
      obtain ⟨q3, q4⟩ := mulQ_rng s (subQ y a)
      clear ha hy hrw hbw hk2
      have t0 : (0 : Int) ≤ (t : Int) := by omega
      have t1 : (t : Int) < (k : Int) := by omega
      go_wp2_with fail
      refine wp_region_still_tail 19 Tryz.mixed (by kernel_rfl) ?_
      simp only [List.take_succ_cons, List.take_zero, List.drop_succ_cons, List.drop_zero]
      iterate 15 still_step
      still_call (sub_any y a _ (by omega) (by omega) (by omega) (by omega))
      still_call (mul_any s (subQ y a) _ (by omega) (by omega) (by omega) (by omega))
      still_call (add_any a (mulQ s (subQ y a)) _ (by omega) (by omega) (by omega) (by omega))
      still_step
      refine wpStill_nil ?_
      go_wp2_with fail
      go_roundg (k - (t + 1))
      case measure => go_light; omega
      case rel => exact ⟨t + 1, by omega, rfl, by go_num, hid ((HM.out.drew.store t _ htl).congr fun j _ => bet_step d (fun j => d (k + j)) s a y t j HA.out.1 HA.out.2)⟩
    · have e : t = k := by omega
      subst e
      go_wp2_with fail
      go_ret
      exact ⟨_, rfl, HB1.out.size, HM.out.row.congr (fun j hj => by rw [if_pos hj]), HB1.out.trans (HM.out.below.mono HB1.out.size)⟩

set_option maxHeartbeats 2000000 in
set_option maxRecDepth 100000 in
theorem next_any (i : Int) (az : Option Addr) (nz cz bd od k cd : Nat) (tau : Int) (d : Nat → Int) (w : World) (hk : k ≤ 100) (hcd : 2 * k < cd) (hcm : cd ≤ maxLen) (hr : Row w bd od (2 * k) d) (hv : Nums d) (s0 : 0 ≤ tau) (s1 : tau ≤ 18446744073709551615) (hb0 : bd < w.heap.size) :
    Calls Tryz.prog 73 #[turnV i az nz cz (some ⟨bd, od, none⟩) (2 * k) cd tau] w fun e w' => ∃ B, e = .returned (.slice (some ⟨B, 0, none⟩) k k) ∧ w.heap.size ≤ B ∧ Row w' B 0 k (linQ d (fun j => d (k + j)) tau) ∧ Below w.heap.size w w' := by
  have hal := (Below.refl w.heap.size w).alloc (Nat.le_refl _) (.cells #[.int .i64 i, .slice az nz cz, .slice (some ⟨bd, od, none⟩) (2 * k) cd, .int .u64 tau] 106)
  have HBE := hid (between_any i az nz cz bd od k cd tau tau d _ hk hcd hcm (hr.kept hal hb0) hv s0 s1)
  have HB := hid hal
  clear hr hv hcd hcm hal
  obtain ⟨k2, hk2⟩ : ∃ x, 2 * k = x := ⟨_, rfl⟩
  rw [hk2] at HBE HB ⊢
  clear hk2
  go_enter Tryz.func73, Tryz.ntmps73
  go_wp2_with fail
  refine (HBE.out).mono ?_
  rintro e w1 ⟨B, rfl, hB, hrow, hb⟩
  have HF := hid (And.intro hB (And.intro hrow hb))
  clear hB hrow hb
  go_wp2_with fail
  go_ret
  exact ⟨B, rfl, Nat.le_trans HB.out.size HF.out.1, HF.out.2.1, HB.out.trans (HF.out.2.2.mono HB.out.size)⟩

end Go.Proofs.YtbchbmelofojkaaGreatDoor

/-
  Contracts of a turn's line, and of package gkr's spread; they make new rows and write nothing that was there.
-/
namespace Go.Proofs.YtbchbmelofojkaaGreatDoor
open Go.RowKit
set_option linter.unusedVariables false
attribute [local go_sem ↓] Go.wp_at_zero Go.wp_at_succ

/-- A line's values, of draws d (x ahead, y behind). -/
def lnGk (V d : Nat → Int) (k s : Nat) : Int := ofK (evS (fun j => kk (V j)) (fun j => kk (linQ d (fun j => d (k + j)) (s : Int) j)) k)
theorem lnF_rng (V d : Nat → Int) (k s : Nat) : 0 ≤ lnGk V d k s ∧ lnGk V d k s ≤ 18446744073709551615 := ofK_u64 _
theorem ln_step (f : Nat → Int) (k j : Nat) : (if j = k then f k else if j < k then f j else 0) = if j < k + 1 then f j else 0 := by
  by_cases e : j = k
  · subst e; rw [if_pos rfl, if_pos (by omega)]
  · rw [if_neg e]
    by_cases h2 : j < k
    · rw [if_pos h2, if_pos (by omega)]
    · rw [if_neg h2, if_neg (by omega)]

set_option maxHeartbeats 4000000 in
set_option maxRecDepth 100000 in
theorem line_any (i : Int) (az : Option Addr) (nz cz bd od k cd : Nat) (tau : Int) (d : Nat → Int) (bb ob N cb : Nat) (V : Nat → Int) (w : World) (hk : k ≤ 8) (hcd : 2 * k < cd) (hcm : cd ≤ maxLen) (hN : N = 2 ^ k) (ht : Tab w) (hr : Row w bd od (2 * k) d) (hv : Nums d) (hb0 : bd < w.heap.size) (hV : Row w bb ob N V) (vV : Nums V) :
    Calls Tryz.prog 61 #[turnV i az nz cz (some ⟨bd, od, none⟩) (2 * k) cd tau, .slice (some ⟨bb, ob, none⟩) N cb] w fun e w' => ∃ B, e = .returned (.slice (some ⟨B, 0, none⟩) (k + 1) (k + 1)) ∧ w.heap.size ≤ B ∧ Row w' B 0 (k + 1) (lnGk V d k) ∧ Below w.heap.size w w' ∧ Free w' B 0 (k + 1) := by
  have hN1 : 1 ≤ N := by rw [hN]; exact Nat.one_le_two_pow
  have hbb := hV.lt hN1
  have HEN := hid (fun W => ends_any i az nz cz bd od k cd tau W (by omega) hcd hcm)
  have HS0 := hid (StT.start w (.int .i64 i) (.slice az nz cz) (.slice (some ⟨bd, od, none⟩) (2 * k) cd) (.int .u64 tau) 106)
  have HBT := hid (fun W (h : Below w.heap.size w W) (s : Int) (s0 : 0 ≤ s) (s1 : s ≤ 18446744073709551615) => between_any i az nz cz bd od k cd tau s d W (by omega) hcd hcm (hr.kept h hb0) hv s0 s1)
  have HEV := hid (fun W (h : Below w.heap.size w W) (B : Nat) (g : Nat → Int) (hp : Row W B 0 k g) (vg : Nums g) => eval_ok bb ob k N cb k (some ⟨B, 0, none⟩) V g W hk hN (ht.kept h ht.1) (hV.kept h hbb) vV (PRow.of hp) vg)
  clear hr hv hcd hcm hN ht hV vV
  obtain ⟨k2, hk2⟩ : ∃ x, 2 * k = x := ⟨_, rfl⟩
  rw [hk2] at HEN HS0 HBT ⊢
  clear hk2
  have hmk := run_make_row' (P := Tryz.prog) 22 31 (.int .u64 0) 8 Tryz.underlying22 Tryz.infoU rfl .i64 .i64 (k + 1) (by omega) (by omega)
  rw [show ((k + 1 : Nat) : Int) = (k : Int) + 1 from by omega] at hmk
  go_enter Tryz.func61, Tryz.ntmps61
  go_wp2_with fail
  obtain ⟨X, hX⟩ : ∃ X, w.heap.size = X := ⟨_, rfl⟩
  have HS1 : Hid (StT w (w.alloc (.cells #[.int .i64 i, .slice az nz cz, .slice (some ⟨bd, od, none⟩) k2 cd, .int .u64 tau] 106)) X (.int .i64 i) (.slice az nz cz) (.slice (some ⟨bd, od, none⟩) k2 cd) (.int .u64 tau)) := hid (by rw [← hX]; exact HS0.out)
  have HX := hid hX
  rw [hX]
  clear hX HS0
  generalize w.alloc (.cells #[.int .i64 i, .slice az nz cz, .slice (some ⟨bd, od, none⟩) k2 cd, .int .u64 tau] 106) = W1 at HS1 ⊢
  refine (HEN.out _).mono ?_
  rintro e w1 ⟨rfl, hb⟩
  have HS2 := hid (HS1.out.next hb)
  clear hb HS1 HEN
  go_wp2_with fail
  clear hmk
  go_loopg [20] (k + 1) (fun q i wr => ∃ t : Nat, t ≤ k + 1 ∧ q = k + 1 - t ∧ i = .int .i64 (t : Int) ∧ Hid (Made w1 wr (k + 1) (fun j => if j < t then lnGk V d k j else 0)))
  case atStart => exact ⟨0, by omega, rfl, rfl, hid ((Made.start w1 (k + 1) 31).congr fun j _ => by rw [if_neg (by omega)])⟩
  case round =>
    obtain ⟨t, ht, rfl, rfl, HM⟩ := hrel
    have HS3 := hid (HS2.out.next HM.out.below)
    by_cases htl : t < k + 1
    · obtain ⟨z0, z1, z2, z3, zl⟩ := HS3.out.box
      have t0 : (0 : Int) ≤ (t : Int) := by omega
      have t1 : (t : Int) < (k : Int) + 1 := by omega
      go_wp2_with fail
      refine (HBT.out _ HS3.out.bel (t : Int) (by omega) (by omega)).mono ?_
      rintro e w2 ⟨B, rfl, hB, hrow, hb2⟩
      have HS4 := hid (HS3.out.next hb2)
      have HM4 := hid (HM.out.keep (by omega) hb2)
      have HRW := hid hrow
      clear hB hrow hb2 z0 z1 z2 z3 zl HS3 HM
      go_wp2_with fail
      refine (HEV.out _ HS4.out.bel B _ HRW.out (fun j => by have := linQ_rng d (fun j => d (k + j)) (t : Int) j; omega)).mono ?_
      rintro e w3 ⟨rfl, hb3⟩
      have HM5 := hid (HM4.out.keep (by omega) hb3)
      have c3 := HM5.out.cell t htl
      have f3 := HM5.out.frozen t htl
      rw [if_neg (by omega)] at c3
      obtain ⟨y, hy⟩ : ∃ y, ofK (evS (fun j => kk (V j)) (fun j => kk (linQ d (fun j => d (k + j)) (t : Int) j)) k) = y := ⟨_, rfl⟩
      rw [hy]
      have HY : Hid (lnGk V d k t = y) := hid hy
      clear hb3 HS4 HM4 HRW hy
      go_wp2_with fail
      go_roundg (k + 1 - (t + 1))
      case measure => go_light; omega
      case rel => exact ⟨t + 1, by omega, rfl, by go_num, hid ((HM5.out.store t _ htl).congr fun j _ => by rw [← HY.out]; exact ln_step _ t j)⟩
    · have e : t = k + 1 := by omega
      subst e
      go_wp2_with fail
      go_ret
      exact ⟨_, rfl, HS2.out.bel.size, HM.out.row.congr (fun j hj => by rw [if_pos hj]), HS3.out.bel, HM.out.free⟩

/-- Two lists' blocks differ. -/
def Far (u v : Value) : Prop := ∀ k, u.ownBlock = some k → v.ownBlock ≠ some k
theorem Far.symm {u v : Value} (h : Far u v) : Far v u := fun k e1 e2 => h k e2 e1
theorem Far.nil (v : Value) : Far (.slice none 0 0) v := fun k e => by cases e
/-- What append to u leaves of v. -/
theorem Own.other {wr w6 : World} {E n : Nat} {u v : Value} {f : Nat → Int} {o : Obj} (h : Own wr E v n f) (hg : (wr.alloc o).grownBy w6 u.ownBlock) (hf : Far u v) : Own w6 E v n f := by
  refine (World.ownsRow.alloc h o).kept hg ?_
  cases e : v.ownBlock with
  | none => exact .inl rfl
  | some k => exact .inr fun e2 => hf k e2.symm e
theorem Far.next {wr : World} {E n g2 : Nat} {u v : Value} {f : Nat → Int} {m c : Nat} (h : Own wr E v n f) (hat : u.ownBlock = some g2 ∨ g2 = wr.heap.size + 1) (hf : Far u v) : Far (.slice (some ⟨g2, 0, none⟩) m c) v := fun k e => by
  cases e
  intro e2
  rcases hat with e1 | e1
  · exact hf g2 e1 e2
  · have := (World.ownsRow.lt h g2 e2).2; omega
/-- What append leaves, of numbers. -/
theorem osnoc {w wr w6 : World} {E g2 c2 t : Nat} {v : Value} {z : Int} {f : Nat → Int} {o : Obj} (hb : Below E w wr) (hs : E ≤ wr.heap.size) (hown : Own wr E v t f) (hz : f t = z)
    (h6 : w6.ownsRow E 31 1 (.slice (some ⟨g2, 0, none⟩) (t + 1) c2) (t + 1) (cellsOf t f ++ [.int .u64 z])) (hg : (wr.alloc o).grownBy w6 v.ownBlock) : Own w6 E (.slice (some ⟨g2, 0, none⟩) (t + 1) c2) (t + 1) f ∧ Below E w w6 := by
  refine ⟨?_, (hb.alloc hs o).grown hg (by simp; omega) fun k e => ?_⟩
  · unfold Own
    have e2 : ∀ j, j < t + 1 → f j = catF t f (fun _ => z) j := fun j hj => by
      unfold catF
      by_cases e : j < t
      · rw [if_pos e]
      · rw [if_neg e, show j = t from by omega, hz]
    have e : cellsOf (t + 1) f = cellsOf t f ++ [.int .u64 z] := by
      rw [cellsOf_snoc]
      exact cellsOf_congr e2
    rw [e]; exact h6
  · exact (World.ownsRow.lt hown k e).1
theorem onews (w : World) (x : Int) (t : TypeId) : ∀ j u, [Value.int .u64 x][j]? = some u → (w.alloc (.cells #[.int .u64 x] t)).cell? ((⟨w.heap.size, 0, none⟩ : Addr).add j) = some u := by
  intro j u hj
  match j, hj with
  | 0, hj => simp at hj; subst hj; simp [Addr.add]
theorem oone (x : Int) : ∀ u ∈ [Value.int .u64 x], u.oneCell' = true := by intro u hu; simp at hu; subst hu; rfl
/-- Three lists that are gathered. -/
structure Own3 (w W : World) (E : Nat) (u v x : Value) (l m n : Nat) (f g h : Nat → Int) : Prop where
  bel : Below E w W
  o1 : Own W E u l f
  o2 : Own W E v m g
  o3 : Own W E x n h
  f12 : Far u v
  f13 : Far u x
  f23 : Far v x
theorem Own3.rot {w W : World} {E : Nat} {u v x : Value} {l m n : Nat} {f g h : Nat → Int} (o : Own3 w W E u v x l m n f g h) : Own3 w W E v x u m n l g h f := ⟨o.bel, o.o2, o.o3, o.o1, o.f23, o.f12.symm, o.f13.symm⟩
def sprX (V : Nat → Int) (N p : Nat) : Int := V (p / N)
def sprY (V : Nat → Int) (N p : Nat) : Int := V (p % N)
def sprB (V : Nat → Int) (N p : Nat) : Int := addQ (V (p / N)) (V (p % N))
theorem spr_at {N a b : Nat} (hb : b < N) : (a * N + b) / N = a ∧ (a * N + b) % N = b :=
  ⟨by rw [Nat.mul_comm, Nat.mul_add_div (by omega), Nat.div_eq_of_lt hb, Nat.add_zero], by rw [Nat.mul_comm, Nat.mul_add_mod, Nat.mod_eq_of_lt hb]⟩

/-- One number more in the first of them. -/
theorem Own3.put {w wr w6 : World} {E l m n g2 c2 : Nat} {u v x : Value} {f g h : Nat → Int} {z : Int} {o : Obj} (ho : Own3 w wr E u v x l m n f g h) (hs : E ≤ wr.heap.size) (hz : f l = z) (h6 : w6.ownsRow E 31 1 (.slice (some ⟨g2, 0, none⟩) (l + 1) c2) (l + 1) (cellsOf l f ++ [.int .u64 z])) (hg : (wr.alloc o).grownBy w6 u.ownBlock) (hat : u.ownBlock = some g2 ∨ g2 = wr.heap.size + 1) :
    Own3 w w6 E (.slice (some ⟨g2, 0, none⟩) (l + 1) c2) v x (l + 1) m n f g h ∧ E ≤ w6.heap.size := by
  obtain ⟨h1, h2⟩ := osnoc ho.bel hs ho.o1 hz h6 hg
  exact ⟨⟨h2, h1, ho.o2.other hg ho.f12, ho.o3.other hg ho.f13, ho.f12.next ho.o2 hat, ho.f13.next ho.o3 hat, ho.f23⟩, Nat.le_trans hs (Nat.le_trans (by simp) hg.size)⟩
theorem Own.some {w : World} {E n : Nat} {v : Value} {f : Nat → Int} (h : Own w E v n f) (hn : 1 ≤ n) : ∃ g c, v = .slice (some ⟨g, 0, none⟩) n c ∧ Row w g 0 n f := by
  rcases h.2 with ⟨_, e⟩ | ⟨g, cap, cur, rfl, _⟩
  · omega
  · exact ⟨g, cap, rfl, row_own h⟩

/-- What spread tells. -/
def sprOut (V : Nat → Int) (N : Nat) (w : World) (e : Ending) (w' : World) : Prop := ∃ g1 c1 g2 c2 g3 c3, e = .returned (.tuple #[.slice (some ⟨g1, 0, none⟩) (N * N) c1, .slice (some ⟨g2, 0, none⟩) (N * N) c2, .slice (some ⟨g3, 0, none⟩) (N * N) c3]) ∧ Row w' g1 0 (N * N) (sprX V N) ∧ Row w' g2 0 (N * N) (sprY V N) ∧ Row w' g3 0 (N * N) (sprB V N) ∧ Below w.heap.size w w'
set_option maxHeartbeats 8000000 in
set_option maxRecDepth 100000 in
theorem spread_any (bb ob N cb : Nat) (V : Nat → Int) (w : World) (hN1 : 1 ≤ N) (hN : N ≤ 16) (hV : Row w bb ob N V) (vV : Nums V) :
    Calls Tryz.prog 90 #[.slice (some ⟨bb, ob, none⟩) N cb] w fun e w' => sprOut V N w e w' := by
  obtain ⟨i0, hi, hz0, hz1, hz2⟩ := info_parts Tryz.infoU
  have HI := hid (And.intro hi (And.intro hz0 (And.intro hz1 hz2)))
  clear hi hz0 hz1 hz2
  have hbb := hV.lt hN1
  obtain ⟨E, hE⟩ : ∃ E, w.heap.size = E := ⟨_, rfl⟩
  have HEE := hid hE
  have HV := hid hV
  have HVV := hid vV
  have HBB : Hid (bb < E) := hid (by rw [← hE]; exact hbb)
  have HO0 : Hid (Own3 w w E (.slice none 0 0) (.slice none 0 0) (.slice none 0 0) 0 0 0 (sprX V N) (sprY V N) (sprB V N)) := hid ⟨Below.refl _ _, Own.nil _ _ _, Own.nil _ _ _, Own.nil _ _ _, Far.nil _, Far.nil _, Far.nil _⟩
  clear hV vV hE hbb
  go_enter Tryz.func90, Tryz.ntmps90
  go_wp2_with fail
  go_loopg [2, 3, 4, 11] N (fun q l2 l3 l4 i wr => ∃ (a p : Nat) (u v x : Value), a ≤ N ∧ q = N - a ∧ l2 = u ∧ l3 = v ∧ l4 = x ∧ i = .int .i64 (a : Int) ∧ p ≤ 256 ∧ Hid (p = a * N) ∧ Hid (Own3 w wr E u v x p p p (sprX V N) (sprY V N) (sprB V N)))
  case atStart => exact ⟨0, 0, _, _, _, by omega, rfl, rfl, rfl, rfl, rfl, by omega, hid (by simp), HO0⟩
  case round =>
    clear HO0
    obtain ⟨a, p, u, v, x, ha, rfl, h2, h3, h4, rfl, hp, HP, HO⟩ := hrel
    obtain rfl := h2.symm
    obtain rfl := h3.symm
    obtain rfl := h4.symm
    by_cases hal : a < N
    · have hbw : Below E w wr := HO.out.bel
      have y0 := (HV.out.kept hbw HBB.out) a hal
      obtain ⟨vx, hvx⟩ : ∃ x, V a = x := ⟨_, rfl⟩
      obtain ⟨vx0, vx1⟩ := HVV.out a
      rw [hvx] at y0 vx0 vx1
      have HVX := hid hvx
      clear hvx hbw
      have a0 : (0 : Int) ≤ (a : Int) := by omega
      have a1 : (a : Int) < (N : Int) := by omega
      go_wp2_with fail
      clear y0
      obtain ⟨wo, rfl⟩ : ∃ x, x = wr := ⟨wr, rfl⟩
      go_loopg [2, 3, 4, 17] N (fun q l2 l3 l4 i wr => ∃ (b r : Nat) (u v x : Value), b ≤ N ∧ q = N - b ∧ l2 = u ∧ l3 = v ∧ l4 = x ∧ i = .int .i64 (b : Int) ∧ r ≤ 256 ∧ Hid (r = a * N + b) ∧ Hid (Own3 w wr E u v x r r r (sprX V N) (sprY V N) (sprB V N)))
      case atStart => exact ⟨0, p, u, v, x, by omega, rfl, rfl, rfl, rfl, rfl, hp, hid (by rw [HP.out]; omega), HO⟩
      case round =>
        clear HO HP
        obtain ⟨b, r, u, v, x, hb, rfl, h2, h3, h4, rfl, hr, HR, HO⟩ := hrel
        obtain rfl := h2.symm
        obtain rfl := h3.symm
        obtain rfl := h4.symm
        by_cases hbl : b < N
        · have hr1 : r < 256 := by
            have h1 := HR.out
            have h2 : (a + 1) * N ≤ N * N := Nat.mul_le_mul_right N (by omega)
            have h3 : N * N ≤ 16 * 16 := Nat.mul_le_mul hN hN
            rw [Nat.succ_mul] at h2
            omega
          have hbw : Below E w wr := HO.out.bel
          have y0 := (HV.out.kept hbw HBB.out) b hbl
          obtain ⟨vy, hvy⟩ : ∃ x, V b = x := ⟨_, rfl⟩
          obtain ⟨vy0, vy1⟩ := HVV.out b
          rw [hvy] at y0 vy0 vy1
          obtain ⟨d1, d2⟩ := spr_at (a := a) hbl
          rw [← HR.out] at d1 d2
          have HX : Hid (sprX V N r = vx) := hid (by unfold sprX; rw [d1, HVX.out])
          have HY : Hid (sprY V N r = vy) := hid (by unfold sprY; rw [d2, hvy])
          have HZ : Hid (sprB V N r = addQ vx vy) := hid (by unfold sprB; rw [d1, d2, HVX.out, hvy])
          have hs : E ≤ wr.heap.size := by have h1 := HO.out.bel.size; have h2 := HEE.out; omega
          clear hvy hbw d1 d2
          have b0 : (0 : Int) ≤ (b : Int) := by omega
          have b1 : (b : Int) < (N : Int) := by omega
          obtain ⟨q0, q1⟩ := addQ_rng vx vy
          go_wp2_with (at_builtin; refine wpList_append_lies _ rfl _ _ 22 rfl E 31 i0 (.int .u64 0) 1 8 Tryz.underlying22 HI.out.1 HI.out.2.1 HI.out.2.2.1 HI.out.2.2.2 rfl (by decide) u r _ rfl (World.ownsRow.alloc HO.out.o1 _) ⟨wr.heap.size, 0, none⟩ 1 1 [.int .u64 vx] rfl rfl (onews wr vx _) (oone vx) (by omega) (by unfold maxLen; omega) (by omega) (by simp; omega) (wr.heap.size + 1) (by simp) ?_)
          intro g2 c2 w6 hown2 hgrow2 hat2 hlt3
          obtain ⟨h6, hs6⟩ := HO.out.put hs HX.out hown2 hgrow2 hat2
          have HO6 := hid h6.rot
          clear hown2 hgrow2 hat2 hlt3 h6 HO hs y0
          go_wp2_with (at_builtin; refine wpList_append_lies _ rfl _ _ 22 rfl E 31 i0 (.int .u64 0) 1 8 Tryz.underlying22 HI.out.1 HI.out.2.1 HI.out.2.2.1 HI.out.2.2.2 rfl (by decide) v r _ rfl (World.ownsRow.alloc HO6.out.o1 _) ⟨w6.heap.size, 0, none⟩ 1 1 [.int .u64 vy] rfl rfl (onews w6 vy _) (oone vy) (by omega) (by unfold maxLen; omega) (by omega) (by simp; omega) (w6.heap.size + 1) (by simp) ?_)
          intro g3 c3 w7 hown2 hgrow2 hat2 hlt3
          obtain ⟨h7, hs7⟩ := HO6.out.put hs6 HY.out hown2 hgrow2 hat2
          have HO7 := hid h7.rot
          clear hown2 hgrow2 hat2 hlt3 h7 HO6 hs6
          go_wp2_with fail
          refine (add_any _ _ _ (by omega) (by omega) (by omega) (by omega)).mono ?_
          rintro e w' ⟨rfl, hw⟩
          obtain rfl := hw.symm
          clear hw
          go_wp2_with (at_builtin; refine wpList_append_lies _ rfl _ _ 22 rfl E 31 i0 (.int .u64 0) 1 8 Tryz.underlying22 HI.out.1 HI.out.2.1 HI.out.2.2.1 HI.out.2.2.2 rfl (by decide) x r _ rfl (World.ownsRow.alloc HO7.out.o1 _) ⟨w7.heap.size, 0, none⟩ 1 1 [.int .u64 (addQ vx vy)] rfl rfl (onews w7 (addQ vx vy) _) (oone (addQ vx vy)) (by omega) (by unfold maxLen; omega) (by omega) (by simp; omega) (w7.heap.size + 1) (by simp) ?_)
          intro g4 c4 w8 hown2 hgrow2 hat2 hlt3
          obtain ⟨h8, hs8⟩ := HO7.out.put hs7 HZ.out hown2 hgrow2 hat2
          have HO8 := hid h8.rot
          clear hown2 hgrow2 hat2 hlt3 h8 HO7 hs7
          go_wp2_with fail
          go_roundg (N - (b + 1))
          case measure => go_light; omega
          case rel => exact ⟨b + 1, r + 1, _, _, _, by omega, rfl, rfl, rfl, rfl, by go_num, by omega, hid (by rw [HR.out]; omega), HO8⟩
        · have e : b = N := by omega
          have HR2 : Hid (r = (a + 1) * N) := hid (by rw [HR.out, e, Nat.succ_mul])
          have b1 : ¬ ((b : Int) < (N : Int)) := by omega
          clear e
          go_wp2_with fail
          go_roundg (N - (a + 1))
          case measure => go_light; omega
          case rel => exact ⟨a + 1, r, _, _, _, by omega, rfl, rfl, rfl, rfl, by go_num, hr, HR2, HO⟩
    · have e : a = N := by omega
      have hpn : p = N * N := by rw [HP.out, e]
      have hp1 : 1 ≤ p := by rw [hpn]; exact Nat.mul_pos hN1 hN1
      obtain ⟨g1, c1, rfl, r1⟩ := HO.out.o1.some hp1
      obtain ⟨g2, c2, rfl, r2⟩ := HO.out.o2.some hp1
      obtain ⟨g3, c3, rfl, r3⟩ := HO.out.o3.some hp1
      have HF := hid (And.intro hpn (And.intro r1 (And.intro r2 (And.intro r3 HO.out.bel))))
      have a1 : ¬ ((a : Int) < (N : Int)) := by omega
      clear e hpn r1 r2 r3 HO HP
      go_wp2_with fail
      go_ret3
      refine ⟨g1, c1, g2, c2, g3, c3, ?_⟩
      rw [← HF.out.1, HEE.out]
      exact ⟨rfl, HF.out.2.1, HF.out.2.2.1, HF.out.2.2.2.1, HF.out.2.2.2.2⟩

end Go.Proofs.YtbchbmelofojkaaGreatDoor

/-
  Plain: tables over x and y: how a layer is wired, and the values below, as tables of 2k variables; that their sums of products are what a layer's rounds tell; no program in it.
-/
namespace Go.Proofs.YtbchbmelofojkaaGreatDoor
set_option linter.unusedVariables false

/-- A point's weight at a pair of places is the product of two weights. -/
theorem eqK_pair (g : Nat → K) (k n : Nat) : ∀ p, eqK g (k + n) p = eqK g k (p / 2 ^ n) * eqK (fun j => g (k + j)) n (p % 2 ^ n) := by
  induction n with
  | zero =>
    intro p
    rw [Nat.add_zero, Nat.pow_zero, Nat.div_one, eqK]
    grind
  | succ n ih =>
    intro p
    rw [← Nat.add_assoc, eqK, ih (p / 2), eqK, Nat.div_div_eq_div_mul, Nat.pow_succ, Nat.mul_comm (2 ^ n) 2]
    have e1 : p % (2 * 2 ^ n) / 2 = p / 2 % 2 ^ n := Nat.mod_mul_right_div_self p 2 (2 ^ n)
    have e2 : p % (2 * 2 ^ n) % 2 = p % 2 := Nat.mod_mul_right_mod p 2 (2 ^ n)
    rw [e1, e2]
    grind
/-- A sum over all pairs of places. -/
theorem sK_pair (h : Nat → Nat → K) (M N : Nat) (hN : 0 < N) : sK (fun p => h (p / N) (p % N)) (M * N) = sK (fun a => sK (fun b => h a b) N) M := by
  induction M with
  | zero => rw [Nat.zero_mul]; rfl
  | succ M ih =>
    rw [Nat.succ_mul, sK_split, ih]
    show _ = sK (fun a => sK (fun b => h a b) N) M + sK (fun b => h M b) N
    congr 1
    refine sK_congr N fun b hb => ?_
    have e1 : (M * N + b) / N = M := by rw [Nat.mul_comm, Nat.mul_add_div hN, Nat.div_eq_of_lt hb, Nat.add_zero]
    have e2 : (M * N + b) % N = b := by rw [Nat.mul_comm, Nat.mul_add_mod, Nat.mod_eq_of_lt hb]
    rw [e1, e2]
theorem two_pow_pair (k : Nat) : 2 ^ (k + k) = 2 ^ k * 2 ^ k := Nat.pow_add 2 k k
theorem evS_pair (f : Nat → Nat → K) (g : Nat → K) (k : Nat) : evS (fun p => f (p / 2 ^ k) (p % 2 ^ k)) g (k + k) = sK (fun a => eqK g k a * sK (fun b => f a b * eqK (fun j => g (k + j)) k b) (2 ^ k)) (2 ^ k) := by
  unfold evS
  have e : sK (fun p => f (p / 2 ^ k) (p % 2 ^ k) * eqK g (k + k) p) (2 ^ k * 2 ^ k) = sK (fun p => (fun a b => f a b * (eqK g k a * eqK (fun j => g (k + j)) k b)) (p / 2 ^ k) (p % 2 ^ k)) (2 ^ k * 2 ^ k) := sK_congr _ fun p _ => by
    show f (p / 2 ^ k) (p % 2 ^ k) * eqK g (k + k) p = f (p / 2 ^ k) (p % 2 ^ k) * (eqK g k (p / 2 ^ k) * eqK (fun j => g (k + j)) k (p % 2 ^ k))
    rw [eqK_pair g k k p]
  rw [two_pow_pair, e, sK_pair (fun a b => f a b * (eqK g k a * eqK (fun j => g (k + j)) k b)) _ _ (Nat.two_pow_pos k)]
  refine sK_congr _ fun a _ => ?_
  rw [← sK_mul]
  exact sK_congr _ fun b _ => by grind
/-- The table of the value at x, of that at y. -/
theorem evS_atX (V g : Nat → K) (k : Nat) : evS (fun p => V (p / 2 ^ k)) g (k + k) = evS V g k := by
  rw [evS_pair (fun a _ => V a) g k]
  unfold evS
  refine sK_congr _ fun a _ => ?_
  rw [sK_mul, eqK_sum]
  grind
theorem evS_atY (V g : Nat → K) (k : Nat) : evS (fun p => V (p % 2 ^ k)) g (k + k) = evS V (fun j => g (k + j)) k := by
  rw [evS_pair (fun _ b => V b) g k]
  show sK (fun a => eqK g k a * evS V (fun j => g (k + j)) k) (2 ^ k) = _
  rw [sK_congr (g := fun a => evS V (fun j => g (k + j)) k * eqK g k a) _ (fun a _ => by grind), sK_mul, eqK_sum]
  grind
theorem evS_add (f h g : Nat → K) (n : Nat) : evS (fun p => f p + h p) g n = evS f g n + evS h g n := by
  unfold evS
  rw [← sK_add]
  exact sK_congr _ fun b _ => by grind
/-- The table of how t gates of one sort are wired. -/
def wtabK (s : Bool) (M : Nat → Bool) (A B : Nat → Nat) (l k : Nat) (z : Nat → K) (t p : Nat) : K := sK (fun g => if M g = s ∧ A g * 2 ^ k + B g = p then eqK z l g else 0) t
theorem wtabK_evS (s : Bool) (M : Nat → Bool) (A B : Nat → Nat) (l k : Nat) (z g : Nat → K) (t : Nat) (hA : ∀ q, q < t → A q < 2 ^ k) (hB : ∀ q, q < t → B q < 2 ^ k) :
    evS (wtabK s M A B l k z t) g (k + k) = sK (fun q => if M q = s then eqK z l q * eqK g k (A q) * eqK (fun j => g (k + j)) k (B q) else 0) t := by
  induction t with
  | zero =>
    unfold evS
    exact sK_none _ _ fun b _ => by show (0 : K) * _ = 0; grind
  | succ t ih =>
    have e : evS (wtabK s M A B l k z (t + 1)) g (k + k) = evS (wtabK s M A B l k z t) g (k + k) + evS (fun p => if M t = s ∧ A t * 2 ^ k + B t = p then eqK z l t else 0) g (k + k) := by
      rw [← evS_add]; rfl
    rw [e, ih (fun q hq => hA q (by omega)) (fun q hq => hB q (by omega))]
    show _ = sK _ t + _
    congr 1
    have ha := hA t (by omega)
    have hb := hB t (by omega)
    show _ = if M t = s then eqK z l t * eqK g k (A t) * eqK (fun j => g (k + j)) k (B t) else 0
    by_cases h : M t = s
    · rw [if_pos h]
      have hp : A t * 2 ^ k + B t < 2 ^ (k + k) := by
        rw [two_pow_pair]
        have : (A t + 1) * 2 ^ k ≤ 2 ^ k * 2 ^ k := Nat.mul_le_mul_right _ (by omega)
        rw [Nat.succ_mul] at this
        omega
      unfold evS
      rw [sK_one _ (2 ^ (k + k)) (A t * 2 ^ k + B t) hp (fun j _ hne => by dsimp only; rw [if_neg (fun h2 => hne h2.2.symm)]; grind)]
      dsimp only
      rw [if_pos ⟨h, rfl⟩, eqK_pair g k k]
      have e1 : (A t * 2 ^ k + B t) / 2 ^ k = A t := by rw [Nat.mul_comm, Nat.mul_add_div (Nat.two_pow_pos k), Nat.div_eq_of_lt hb, Nat.add_zero]
      have e2 : (A t * 2 ^ k + B t) % 2 ^ k = B t := by rw [Nat.mul_comm, Nat.mul_add_mod, Nat.mod_eq_of_lt hb]
      rw [e1, e2]
      grind
    · rw [if_neg h]
      unfold evS
      exact sK_none _ _ fun b _ => by dsimp only; rw [if_neg (fun h2 => h h2.1)]; grind
theorem wtabK_wir (s : Bool) (M : Nat → Bool) (A B : Nat → Nat) (l k : Nat) (z g : Nat → K) (hA : ∀ q, q < 2 ^ l → A q < 2 ^ k) (hB : ∀ q, q < 2 ^ l → B q < 2 ^ k) : evS (wtabK s M A B l k z (2 ^ l)) g (k + k) = wirK s M A B l k z g (fun j => g (k + j)) := wtabK_evS s M A B l k z g (2 ^ l) hA hB
/-- What is summed is a sum of two products of tables. -/
theorem layF_tabs (M : Nat → Bool) (A B : Nat → Nat) (l k : Nat) (V z g : Nat → K) (T2 T3 : Nat → Nat → K) (hA : ∀ q, q < 2 ^ l → A q < 2 ^ k) (hB : ∀ q, q < 2 ^ l → B q < 2 ^ k)
    (a0 : ∀ p, p < 2 ^ (k + k) → T2 0 p = wtabK false M A B l k z (2 ^ l) p) (a1 : ∀ p, p < 2 ^ (k + k) → T2 1 p = V (p / 2 ^ k) + V (p % 2 ^ k))
    (b0 : ∀ p, p < 2 ^ (k + k) → T3 0 p = wtabK true M A B l k z (2 ^ l) p) (b1 : ∀ p, p < 2 ^ (k + k) → T3 1 p = V (p / 2 ^ k)) (b2 : ∀ p, p < 2 ^ (k + k) → T3 2 p = V (p % 2 ^ k)) :
    layF M A B l k V z g = prK (fun i => evS (T2 i) g (k + k)) 2 + prK (fun i => evS (T3 i) g (k + k)) 3 := by
  have e0 : evS (T2 0) g (k + k) = wirK false M A B l k z g (fun j => g (k + j)) := by rw [← wtabK_wir false M A B l k z g hA hB]; exact evS_congr _ a0 (fun _ _ => rfl)
  have e1 : evS (T2 1) g (k + k) = evS V g k + evS V (fun j => g (k + j)) k := by
    rw [← evS_atX V g k, ← evS_atY V g k, ← evS_add]; exact evS_congr _ a1 (fun _ _ => rfl)
  have f0 : evS (T3 0) g (k + k) = wirK true M A B l k z g (fun j => g (k + j)) := by rw [← wtabK_wir true M A B l k z g hA hB]; exact evS_congr _ b0 (fun _ _ => rfl)
  have f1 : evS (T3 1) g (k + k) = evS V g k := by rw [← evS_atX V g k]; exact evS_congr _ b1 (fun _ _ => rfl)
  have f2 : evS (T3 2) g (k + k) = evS V (fun j => g (k + j)) k := by rw [← evS_atY V g k]; exact evS_congr _ b2 (fun _ _ => rfl)
  show stepK M A B l k z g (fun j => g (k + j)) (evS V g k) (evS V (fun j => g (k + j)) k) = 1 * evS (T2 0) g (k + k) * evS (T2 1) g (k + k) + 1 * evS (T3 0) g (k + k) * evS (T3 1) g (k + k) * evS (T3 2) g (k + k)
  rw [e0, e1, f0, f1, f2, stepK]
  grind
/-- A layer's rounds are the rounds of both, together. -/
theorem rnd_tabs (M : Nat → Bool) (A B : Nat → Nat) (l k : Nat) (V z d : Nat → K) (T2 T3 : Nat → Nat → K) (hA : ∀ q, q < 2 ^ l → A q < 2 ^ k) (hB : ∀ q, q < 2 ^ l → B q < 2 ^ k)
    (a0 : ∀ p, p < 2 ^ (k + k) → T2 0 p = wtabK false M A B l k z (2 ^ l) p) (a1 : ∀ p, p < 2 ^ (k + k) → T2 1 p = V (p / 2 ^ k) + V (p % 2 ^ k))
    (b0 : ∀ p, p < 2 ^ (k + k) → T3 0 p = wtabK true M A B l k z (2 ^ l) p) (b1 : ∀ p, p < 2 ^ (k + k) → T3 1 p = V (p / 2 ^ k)) (b2 : ∀ p, p < 2 ^ (k + k) → T3 2 p = V (p % 2 ^ k))
    (r : Nat) (hr : r < k + k) (x : K) : rightK T2 2 (k + k) d r x + rightK T3 3 (k + k) d r x = rndK (layF M A B l k V z) (k + k) d r x := by
  have hs : k + k - r - 1 = k + k - 1 - r := by omega
  have g1 : ∀ b j, j < r → cornK (updK d r x) (r + 1) (k + k - 1 - r) b j = d j := fun b j hj => by unfold cornK updK; rw [if_neg (by omega), if_neg (by omega)]
  have g2 : ∀ b, cornK (updK d r x) (r + 1) (k + k - 1 - r) b r = x := fun b => by unfold cornK updK; rw [if_neg (by omega), if_pos rfl]
  have g3 : ∀ b j, r < j → j < k + k → cornK (updK d r x) (r + 1) (k + k - 1 - r) b j = bitK b (k + k - 1 - r) (j - (r + 1)) := fun b j h1 h2 => by unfold cornK; rw [if_pos (by omega)]
  rw [← right_sum T2 2 (k + k) d r x hr _ g1 g2 g3, ← right_sum T3 3 (k + k) d r x hr _ g1 g2 g3, ← sK_add]
  unfold rndK
  rw [cube_sum, hs]
  exact sK_congr _ fun b _ => (layF_tabs M A B l k V z _ T2 T3 hA hB a0 a1 b0 b1 b2).symm

end Go.Proofs.YtbchbmelofojkaaGreatDoor

/-
  A contract of a turn's wires; it makes new rows and writes nothing that was there.
-/
namespace Go.Proofs.YtbchbmelofojkaaGreatDoor
open Go.RowKit
set_option linter.unusedVariables false
attribute [local go_sem ↓] Go.wp_at_zero Go.wp_at_succ

theorem or_fin : ∀ k : Fin 5, ∀ a b : Fin 16, b.val < 2 ^ k.val → bits .or .i64 ((a.val * 2 ^ k.val : Nat) : Int) (b.val : Int) = ((a.val * 2 ^ k.val + b.val : Nat) : Int) := by decide +kernel
theorem or_at {k a b : Nat} (hk : k ≤ 4) (ha : a < 16) (hb : b < 2 ^ k) : bits .or .i64 ((a * 2 ^ k : Nat) : Int) (b : Int) = ((a * 2 ^ k + b : Nat) : Int) :=
  or_fin ⟨k, by omega⟩ ⟨a, ha⟩ ⟨b, by have : 2 ^ k ≤ 2 ^ 4 := Nat.pow_le_pow_right (by omega) hk; omega⟩ hb
theorem or_wrap {k a b : Nat} (hk : k ≤ 4) (ha : a < 2 ^ k) (hb : b < 2 ^ k) : bits .or .i64 (IntKind.i64.wrap ((a : Int) * 2 ^ k)) (b : Int) = ((a * 2 ^ k + b : Nat) : Int) ∧ a * 2 ^ k + b < 2 ^ (2 * k) := by
  have h16 : 2 ^ k ≤ 16 := Nat.pow_le_pow_right (j := 4) (by omega) hk
  have h1 : a * 2 ^ k ≤ 16 * 16 := Nat.mul_le_mul (by omega) h16
  have e1 : (a : Int) * 2 ^ k = ((a * 2 ^ k : Nat) : Int) := by simp
  rw [e1, IntWalk.i64_in _ (by omega), or_at hk (by omega) hb]
  refine ⟨rfl, ?_⟩
  rw [Nat.two_mul, two_pow_pair]
  have h2 : (a + 1) * 2 ^ k ≤ 2 ^ k * 2 ^ k := Nat.mul_le_mul_right _ (by omega)
  rw [Nat.succ_mul] at h2
  omega
/-- The table of how t gates of one sort are wired. -/
def wtF (s : Bool) (gs : List GQ) (l k : Nat) (z : Nat → Int) (t p : Nat) : Int := ofK (wtabK s (gM gs) (gA gs) (gB gs) l k (pK z) t p)
theorem wtF_zero (s : Bool) (gs : List GQ) (l k : Nat) (z : Nat → Int) (p : Nat) : wtF s gs l k z 0 p = 0 := rfl
theorem wtF_skip {s : Bool} {gs : List GQ} {l k t : Nat} {z : Nat → Int} {q : GQ} (hq : gs[t]? = some q) (h : q.mul ≠ s) (p : Nat) : wtF s gs l k z (t + 1) p = wtF s gs l k z t p := by
  unfold wtF wtabK
  rw [sK, gM_at hq, if_neg (fun e => h e.1)]
  congr 1; grind
theorem wtF_put {s : Bool} {gs : List GQ} {l k t at' : Nat} {z : Nat → Int} {q : GQ} {y : Int} (hq : gs[t]? = some q) (h : q.mul = s) (hat : q.a.toNat * 2 ^ k + q.b.toNat = at') (hy : wtF s gs l k z t at' = y) (p : Nat) : (if p = at' then addQ y (wgt z l t) else wtF s gs l k z t p) = wtF s gs l k z (t + 1) p := by
  by_cases e : p = at'
  · rw [if_pos e, ← hy, addQ_ofK, e]
    unfold wtF wgt wtabK
    rw [sK, gM_at hq, gA_at hq, gB_at hq, if_pos ⟨h, hat⟩, kk_ofK, kk_ofK]
    rfl
  · rw [if_neg e]
    unfold wtF wtabK
    rw [sK, gM_at hq, gA_at hq, gB_at hq, if_neg (fun e2 => e (e2.2.symm.trans hat))]
    congr 1; grind

set_option maxHeartbeats 8000000 in
set_option maxRecDepth 100000 in
theorem wires_any (i : Int) (az : Option Addr) (nz cz bd od k cd : Nat) (tau lg : Int) (ga : Option Addr) (m gc : Nat) (mul : Bool) (gs : List GQ) (z : Nat → Int) (T : Nat) (w : World) (hk : k ≤ 4) (hz4 : nz ≤ 4) (hT : T = 2 ^ (2 * k)) (hm : gs.length = m) (hmz : m = 2 ^ nz) (hgr : GRow w ga gs) (hok : ∀ q ∈ gs, gateOk ((2 ^ k : Nat) : Int) q) (hz : PRow w az nz z) (vz : Nums z) :
    Calls Tryz.prog 91 #[turnV i az nz cz (some ⟨bd, od, none⟩) (2 * k) cd tau, .agg #[.int .i64 lg, .slice ga m gc], .bool mul] w fun e w' => ∃ B, e = .returned (.slice (some ⟨B, 0, none⟩) T T) ∧ w.heap.size ≤ B ∧ Row w' B 0 T (wtF mul gs nz k z m) ∧ Below w.heap.size w w' := by
  have hT1 : 1 ≤ T := by rw [hT]; exact Nat.one_le_two_pow
  have hT2 : T ≤ 256 := by rw [hT]; exact Nat.pow_le_pow_right (j := 8) (by omega) (by omega)
  have HT := hid hT
  have HM := hid hm
  have HMZ := hid hmz
  have HG := hid hgr
  have HOK := hid hok
  have m16 : m ≤ 16 := by rw [hmz]; exact Nat.pow_le_pow_right (j := 4) (by omega) (by omega)
  have HEQ := hid (fun W (h : Below w.heap.size w W) => eqp_any az nz cz m z W (by omega) hmz (hz.kept h) vz)
  have sh := shl_pow (k := 2 * k) (by omega)
  rw [← hT] at sh
  clear hT hm hmz hgr hok hz vz
  obtain ⟨k2, hk2⟩ : ∃ x, 2 * k = x := ⟨_, rfl⟩
  rw [hk2] at sh ⊢
  have d1 : (k2 : Int).tdiv 2 = (k : Int) := by rw [Int.tdiv_eq_ediv_of_nonneg (by omega)]; omega
  have d2 : (k2 : Int) / 2 = (k : Int) := by omega
  have k28 : k2 ≤ 8 := by omega
  clear hk2
  have hmk := run_make_row' (P := Tryz.prog) 22 31 (.int .u64 0) 8 Tryz.underlying22 Tryz.infoU rfl .i64 .i64 T (by omega) (by omega)
  go_enter Tryz.func91, Tryz.ntmps91
  go_wp2_with fail
  clear hmk sh d1 d2
  obtain ⟨X, hX⟩ : ∃ X, w.heap.size = X := ⟨_, rfl⟩
  have hb1 := (Below.refl w.heap.size w).alloc (Nat.le_refl _) (.cells #[.int .i64 i, .slice az nz cz, .slice (some ⟨bd, od, none⟩) k2 cd, .int .u64 tau] 106)
  have hb2 := hb1.alloc (by simp) (.cells #[.int .i64 lg, .slice ga m gc] 96)
  have hbx := Box2.new (w.alloc (.cells #[.int .i64 i, .slice az nz cz, .slice (some ⟨bd, od, none⟩) k2 cd, .int .u64 tau] 106)) (.int .i64 lg) (.slice ga m gc) 96
  have hsz : ((w.alloc (.cells #[.int .i64 i, .slice az nz cz, .slice (some ⟨bd, od, none⟩) k2 cd, .int .u64 tau] 106)).alloc (.cells #[.int .i64 lg, .slice ga m gc] 96)).heap.size = X + 1 + 1 := by simp [hX]
  have hmd := Made.start ((w.alloc (.cells #[.int .i64 i, .slice az nz cz, .slice (some ⟨bd, od, none⟩) k2 cd, .int .u64 tau] 106)).alloc (.cells #[.int .i64 lg, .slice ga m gc] 96)) T 31
  rw [hX]
  rw [World.size_alloc, hX] at hbx
  generalize (w.alloc (.cells #[.int .i64 i, .slice az nz cz, .slice (some ⟨bd, od, none⟩) k2 cd, .int .u64 tau] 106)).alloc (.cells #[.int .i64 lg, .slice ga m gc] 96) = W2 at hb2 hbx hsz hmd ⊢
  have HB2 := hid hb2
  have HSZ := hid (And.intro hX hsz)
  have hbx3 := hbx.kept hmd.below
  have hb3 := hb2.trans (hmd.below.mono hb2.size)
  generalize hW3 : W2.alloc (.cells (madeCells #[.int .u64 0] T) 31) = W3 at hmd hbx3 hb3 ⊢
  clear hb1 hb2 hbx hX hsz hW3
  refine (HEQ.out W3 hb3).mono ?_
  rintro e w4 ⟨rfl, hmd4⟩
  obtain ⟨z0, z1, zl⟩ := hbx3.kept hmd4.below
  have HM4 : Hid (Made W2 w4 T (wtF mul gs nz k z 0)) := hid ((hmd.keep hT1 hmd4.below).congr fun j _ => (wtF_zero _ _ _ _ _ _).symm)
  have hlt : X + 1 + 1 < W3.heap.size := by rw [← HSZ.out.2]; exact hmd.row.lt hT1
  obtain ⟨Eb, hEb⟩ : ∃ E, W3.heap.size = E := ⟨_, rfl⟩
  have hrE := hmd4.row
  rw [hEb] at hrE hlt ⊢
  have HRE := hid hrE
  clear hmd4 hrE hEb hmd hb3 hbx3 HEQ
  go_wp2_with fail
  clear z0 z1 zl
  go_loopg [32] m (fun q i wr => ∃ t : Nat, t ≤ m ∧ q = m - t ∧ i = .int .i64 (t : Int) ∧ Hid (Made W2 wr T (wtF mul gs nz k z t)) ∧ Hid (Row wr Eb 0 m (wgt z nz)))
  case atStart => exact ⟨0, by omega, rfl, rfl, HM4, HRE⟩
  case round =>
    clear HM4 HRE
    obtain ⟨t, ht, rfl, rfl, HMT, HRE⟩ := hrel
    by_cases htl : t < m
    · obtain ⟨q, hq⟩ : ∃ q, gs[t]? = some q := ⟨gs[t]'(by rw [HM.out]; exact htl), by simp⟩
      have hbw : Below w.heap.size w wr := HB2.out.trans (HMT.out.below.mono HB2.out.size)
      have hgr := HG.out
      obtain ⟨gb, go, rfl, hcl⟩ := hgr (by intro e; have := HM.out; rw [e] at this; simp at this; omega)
      obtain ⟨y0, y1, y2⟩ := hcl t q hq
      have hgb : gb < w.heap.size := World.block_lt_of_cell? w _ y0
      replace y0 := (hbw.cell hgb).trans y0
      replace y1 := (hbw.cell hgb).trans y1
      replace y2 := (hbw.cell hgb).trans y2
      rw [Nat.mul_comm 3 t] at y0 y1 y2
      obtain ⟨⟨a0, a1⟩, b0, b1⟩ := HOK.out q (List.mem_of_getElem? hq)
      obtain ⟨qa, hqa⟩ : ∃ x : Nat, q.a = (x : Int) := ⟨q.a.toNat, by omega⟩
      obtain ⟨qb, hqb⟩ : ∃ x : Nat, q.b = (x : Int) := ⟨q.b.toNat, by omega⟩
      obtain ⟨qm, hqm⟩ : ∃ x, q.mul = x := ⟨_, rfl⟩
      rw [hqm] at y0
      rw [hqa] at y1 a1
      rw [hqb] at y2 b1
      have HQ := hid (And.intro hq (And.intro hqm (And.intro hqa hqb)))
      clear hcl hq hqm hqa hqb a0 b0 hbw hgr hgb
      have t0 : (0 : Int) ≤ (t : Int) := by omega
      have t1 : (t : Int) < (m : Int) := by omega
      have HM1 := hid (HMT.out.keep hT1 ((Below.refl wr.heap.size wr).alloc (Nat.le_refl _) (.cells #[.bool qm, .int .i64 (qa : Int), .int .i64 (qb : Int)] 100)))
      have HE1 := hid (HRE.out.kept ((Below.refl wr.heap.size wr).alloc (Nat.le_refl _) (.cells #[.bool qm, .int .i64 (qa : Int), .int .i64 (qb : Int)] 100)) (HRE.out.lt (by omega)))
      by_cases hqm : qm = mul
      · subst hqm
        have e1 : (qm == qm) = true := by simp
        obtain ⟨hor, hat2⟩ := or_wrap (k := k) (a := qa) (b := qb) hk (by omega) (by omega)
        rw [← HT.out] at hat2
        obtain ⟨at', hat'⟩ : ∃ x, qa * 2 ^ k + qb = x := ⟨_, rfl⟩
        rw [hat'] at hor hat2
        have HOR := hid hor
        have HAT := hid hat'
        clear hor hat' a1 b1
        have k0 : (0 : Int) ≤ (k : Int) := by omega
        go_wp2_with fail
        go_quiet (fail)
        rw [HOR.out]
        have hdn : Below (wr.alloc (.cells #[.bool qm, .int .i64 (qa : Int), .int .i64 (qb : Int)] 100)).heap.size (wr.alloc (.cells #[.bool qm, .int .i64 (qa : Int), .int .i64 (qb : Int)] 100)) ((wr.alloc (.cells #[.bool qm, .int .i64 (qa : Int), .int .i64 (qb : Int)] 100)).drewN nq) := ⟨rfl, rfl, rfl, Nat.le_refl _, fun _ _ => rfl⟩
        have HM2 := hid (HM1.out.keep hT1 hdn)
        have HE2 := hid (HE1.out.kept hdn (HE1.out.lt (by omega)))
        clear HM1 HE1 hdn HOR y0 y1 y2 HMT HRE
        generalize (wr.alloc (.cells #[.bool qm, .int .i64 (qa : Int), .int .i64 (qb : Int)] 100)).drewN nq = w5 at HM2 HE2 ⊢
        have c1 := HM2.out.cell at' hat2
        have f1 := HM2.out.frozen at' hat2
        have c2 := HE2.out t htl
        rw [HSZ.out.2] at c1 f1
        rw [Nat.zero_add] at c2
        obtain ⟨y, hy⟩ : ∃ y, wtF qm gs nz k z t at' = y := ⟨_, rfl⟩
        obtain ⟨v, hv⟩ : ∃ y, wgt z nz t = y := ⟨_, rfl⟩
        have ry : 0 ≤ y ∧ y ≤ 18446744073709551615 := by rw [← hy]; exact ofK_u64 _
        have rv : 0 ≤ v ∧ v ≤ 18446744073709551615 := by rw [← hv]; exact ofK_u64 _
        obtain ⟨ry0, ry1⟩ := ry
        obtain ⟨rv0, rv1⟩ := rv
        rw [hy] at c1
        rw [hv] at c2
        have HY := hid (And.intro hy hv)
        clear hy hv
        have s0 : (0 : Int) ≤ (at' : Int) := by omega
        have s1 : (at' : Int) < (T : Int) := by omega
        go_wp2_with fail
        refine wp_region_still_tail 12 Tryz.mixed (by kernel_rfl) ?_
        simp only [List.take_succ_cons, List.take_zero, List.drop_succ_cons, List.drop_zero]
        iterate 10 still_step
        still_call (add_any y v _ (by omega) (by omega) (by omega) (by omega))
        still_step
        refine wpStill_nil ?_
        go_wp2_with fail
        go_roundg (m - (t + 1))
        case measure => go_light; omega
        case rel =>
          have hq := HQ.out
          refine ⟨t + 1, by omega, rfl, by go_num, hid ?_, hid ?_⟩
          · have h := HM2.out.drew.store at' (addQ y v) hat2
            rw [HSZ.out.2] at h
            exact h.congr fun j _ => by rw [← HY.out.2]; exact wtF_put hq.1 hq.2.1 (by rw [hq.2.2.1, hq.2.2.2]; simpa using HAT.out) HY.out.1 j
          · exact HE2.out.drew.other ((Wrote.refl (X + 1 + 1) at' 1 w5.drew).store (Nat.le_refl _) (by omega) _) (by omega)
      · have e1 : (qm == mul) = false := beq_eq_false_iff_ne.2 hqm
        go_wp2_with fail
        go_roundg (m - (t + 1))
        case measure => go_light; omega
        case rel =>
          have hq := HQ.out
          exact ⟨t + 1, by omega, rfl, by go_num, hid (HM1.out.congr fun j _ => (wtF_skip hq.1 (by rw [hq.2.1]; exact hqm) j).symm), HE1⟩
    · have e : t = m := by omega
      subst e
      go_wp2_with fail
      go_ret
      refine ⟨X + 1 + 1, rfl, by have := HSZ.out.1; omega, ?_, HB2.out.trans (HMT.out.below.mono HB2.out.size)⟩
      have h := HMT.out.row
      rw [HSZ.out.2] at h
      exact h

end Go.Proofs.YtbchbmelofojkaaGreatDoor

/-
  A list of lists of numbers that a call has made, each in a block of its own: what stays, what a store into one of them leaves; no program in it.
-/
namespace Go.Proofs.YtbchbmelofojkaaGreatDoor
open Go.RowKit
set_option linter.unusedVariables false

/-- n lists of N numbers each, list i in block a i, the lists themselves in block R; all of them at base or behind it. -/
structure Grid (w : World) (R n N : Nat) (a : Nat → Nat) (F : Nat → Nat → Int) (base : Nat) : Prop where
  low : base ≤ R
  lt : R < w.heap.size
  cell : ∀ i, i < n → w.cell? ⟨R, i, none⟩ = some (.slice (some ⟨a i, 0, none⟩) N N)
  row : ∀ i, i < n → Row w (a i) 0 N (F i)
  may : ∀ i, i < n → Free w (a i) 0 N
  apart : ∀ i j, i < j → j < n → a i ≠ a j
  own : ∀ i, i < n → a i ≠ R
  high : ∀ i, i < n → base ≤ a i ∧ a i < w.heap.size
theorem Lays.grid {w w' : World} {n N : Nat} {a : Nat → Nat} {F : Nat → Nat → Int} (h : Lays w w' n n N a F) : Grid w' w.heap.size n N a F w.heap.size :=
  ⟨Nat.le_refl _, h.lt, h.cell, h.row, h.may, h.apart, fun i hi => by have := (h.high i hi).1; omega, fun i hi => ⟨Nat.le_of_lt (h.high i hi).1, (h.high i hi).2⟩⟩
theorem Grid.kept {w w' : World} {R n N : Nat} {a : Nat → Nat} {F : Nat → Nat → Int} {base : Nat} (h : Grid w R n N a F base) (hb : Below w.heap.size w w') : Grid w' R n N a F base :=
  ⟨h.low, Nat.lt_of_lt_of_le h.lt hb.size, fun i hi => (hb.cell h.lt).trans (h.cell i hi), fun i hi => (h.row i hi).kept hb (h.high i hi).2, fun i hi => (h.may i hi).kept hb (h.high i hi).2, h.apart, h.own, fun i hi => ⟨(h.high i hi).1, Nat.lt_of_lt_of_le (h.high i hi).2 hb.size⟩⟩
theorem Grid.drew {w : World} {R n N : Nat} {a : Nat → Nat} {F : Nat → Nat → Int} {base : Nat} (h : Grid w R n N a F base) : Grid w.drew R n N a F base := ⟨h.low, h.lt, h.cell, h.row, h.may, h.apart, h.own, h.high⟩
theorem Grid.base {w : World} {R n N : Nat} {a : Nat → Nat} {F : Nat → Nat → Int} {base b2 : Nat} (h : Grid w R n N a F base) (hb : b2 ≤ base) : Grid w R n N a F b2 := ⟨Nat.le_trans hb h.low, h.lt, h.cell, h.row, h.may, h.apart, h.own, fun i hi => ⟨Nat.le_trans hb (h.high i hi).1, (h.high i hi).2⟩⟩
theorem Grid.congr {w : World} {R n N : Nat} {a : Nat → Nat} {F G : Nat → Nat → Int} {base : Nat} (h : Grid w R n N a F base) (e : ∀ i j, i < n → j < N → F i j = G i j) : Grid w R n N a G base := ⟨h.low, h.lt, h.cell, fun i hi => (h.row i hi).congr fun j hj => e i j hi hj, h.may, h.apart, h.own, h.high⟩
theorem Grid.tabs {w : World} {R n N : Nat} {a : Nat → Nat} {F : Nat → Nat → Int} {base : Nat} (h : Grid w R n N a F base) : Tabs w R 0 n a (fun _ => 0) (fun _ => N) N F := ⟨fun i hi => by rw [Nat.zero_add]; exact h.cell i hi, h.row⟩
/-- One number of one of them is written. -/
theorem Grid.put {w : World} {R n N : Nat} {a : Nat → Nat} {F : Nat → Nat → Int} {base : Nat} (h : Grid w R n N a F base) (q s : Nat) (hq : q < n) (hs : s < N) (x : Int) : Grid (w.setCell ⟨a q, s, none⟩ (.int .u64 x)) R n N a (fun i j => if i = q ∧ j = s then x else F i j) base := by
  have hW : Wrote (a q) s 1 w (w.setCell ⟨a q, s, none⟩ (.int .u64 x)) := (Wrote.refl _ _ _ _).store (Nat.le_refl _) (by omega) _
  have ne : ∀ i, i < n → i ≠ q → a i ≠ a q := fun i hi e => by
    by_cases h1 : i < q
    · exact h.apart i q h1 hq
    · exact (h.apart q i (by omega) hi).symm
  refine ⟨h.low, by rw [World.size_setCell]; exact h.lt, fun i hi => ?_, fun i hi => ?_, fun i hi j hj => by rw [World.frozen?_setCell]; exact h.may i hi j hj, h.apart, h.own, fun i hi => by rw [World.size_setCell]; exact h.high i hi⟩
  · exact (World.cell?_of_block (w := w) (hW.block R (h.own q hq).symm)).trans (h.cell i hi)
  · by_cases e : i = q
    · subst e
      have hs2 := (h.row i hi).store s x hs
      rw [Nat.zero_add] at hs2
      exact hs2.congr fun j _ => by
        by_cases e2 : j = s
        · rw [if_pos e2, if_pos ⟨rfl, e2⟩]
        · rw [if_neg e2, if_neg (fun h => e2 h.2)]
    · exact ((h.row i hi).other hW (ne i hi e)).congr fun j _ => by rw [if_neg (fun h => e h.1)]
/-- Two, three lists in a list that is laid. -/
def two {α : Type} (x y : α) (i : Nat) : α := if i = 0 then x else y
def three {α : Type} (x y z : α) (i : Nat) : α := if i = 0 then x else if i = 1 then y else z
theorem tabs_two {w : World} {b0 b1 c0 c1 N : Nat} {F : Nat → Nat → Int} (h0 : Row w b0 0 N (F 0)) (h1 : Row w b1 0 N (F 1)) (hN : 0 < N) (t : TypeId) :
    Tabs (w.alloc (.cells #[.slice (some ⟨b0, 0, none⟩) N c0, .slice (some ⟨b1, 0, none⟩) N c1] t)) w.heap.size 0 2 (two b0 b1) (fun _ => 0) (two c0 c1) N F := by
  have hb := (Below.refl w.heap.size w).alloc (Nat.le_refl _) (.cells #[.slice (some ⟨b0, 0, none⟩) N c0, .slice (some ⟨b1, 0, none⟩) N c1] t)
  refine ⟨fun i hi => ?_, fun i hi => ?_⟩
  · match i, hi with
    | 0, _ => rw [World.cell?_alloc_new]; rfl
    | 1, _ => rw [World.cell?_alloc_new]; rfl
  · match i, hi with
    | 0, _ => exact h0.kept hb (h0.lt hN)
    | 1, _ => exact h1.kept hb (h1.lt hN)
theorem tabs_three {w : World} {b0 b1 b2 c0 c1 c2 N : Nat} {F : Nat → Nat → Int} (h0 : Row w b0 0 N (F 0)) (h1 : Row w b1 0 N (F 1)) (h2 : Row w b2 0 N (F 2)) (hN : 0 < N) (t : TypeId) :
    Tabs (w.alloc (.cells #[.slice (some ⟨b0, 0, none⟩) N c0, .slice (some ⟨b1, 0, none⟩) N c1, .slice (some ⟨b2, 0, none⟩) N c2] t)) w.heap.size 0 3 (three b0 b1 b2) (fun _ => 0) (three c0 c1 c2) N F := by
  have hb := (Below.refl w.heap.size w).alloc (Nat.le_refl _) (.cells #[.slice (some ⟨b0, 0, none⟩) N c0, .slice (some ⟨b1, 0, none⟩) N c1, .slice (some ⟨b2, 0, none⟩) N c2] t)
  refine ⟨fun i hi => ?_, fun i hi => ?_⟩
  · match i, hi with
    | 0, _ => rw [World.cell?_alloc_new]; rfl
    | 1, _ => rw [World.cell?_alloc_new]; rfl
    | 2, _ => rw [World.cell?_alloc_new]; rfl
  · match i, hi with
    | 0, _ => exact h0.kept hb (h0.lt hN)
    | 1, _ => exact h1.kept hb (h1.lt hN)
    | 2, _ => exact h2.kept hb (h2.lt hN)

end Go.Proofs.YtbchbmelofojkaaGreatDoor

/-
  A contract of a turn's rounds; it makes new rows and writes nothing that was there.
-/
namespace Go.Proofs.YtbchbmelofojkaaGreatDoor
open Go.RowKit
set_option linter.unusedVariables false
attribute [local go_sem ↓] Go.wp_at_zero Go.wp_at_succ

/-- The right values of a layer's rounds. -/
def rdQ (gs : List GQ) (l k : Nat) (V z d : Nat → Int) (r p : Nat) : Int := ofK (rndK (layF (gM gs) (gA gs) (gB gs) l k (fun j => kk (V j)) (pK z)) (k + k) (fun j => kk (d j)) r (kn p))
/-- The tables of the adding gates, of the multiplying ones. -/
def tabA (gs : List GQ) (l k : Nat) (V z : Nat → Int) : Nat → Nat → Int := two (wtF false gs l k z (2 ^ l)) (sprB V (2 ^ k))
def tabM (gs : List GQ) (l k : Nat) (V z : Nat → Int) : Nat → Nat → Int := three (wtF true gs l k z (2 ^ l)) (sprX V (2 ^ k)) (sprY V (2 ^ k))
theorem rd_sum {gs : List GQ} {l k : Nat} {V z d : Nat → Int} (hl : gs.length = 2 ^ l) (hok : ∀ q ∈ gs, gateOk ((2 ^ k : Nat) : Int) q) (r p : Nat) (hr : r < 2 * k) :
    addQ (rightF (tabA gs l k V z) 2 (2 * k) d r p) (rightF (tabM gs l k V z) 3 (2 * k) d r p) = rdQ gs l k V z d r p := by
  have hA : ∀ g, g < 2 ^ l → gA gs g < 2 ^ k ∧ gB gs g < 2 ^ k := fun g hg => by
    obtain ⟨q, hq⟩ : ∃ q, gs[g]? = some q := ⟨gs[g]'(by rw [hl]; exact hg), by simp⟩
    obtain ⟨⟨a0, a1⟩, b0, b1⟩ := hok q (List.mem_of_getElem? hq)
    rw [gA_at hq, gB_at hq]; omega
  rw [addQ_ofK]
  unfold rightF rdQ
  rw [kk_ofK, kk_ofK, Nat.two_mul, rnd_tabs (gM gs) (gA gs) (gB gs) l k (fun j => kk (V j)) (pK z) (fun j => kk (d j)) (kF (tabA gs l k V z)) (kF (tabM gs l k V z)) (fun g hg => (hA g hg).1) (fun g hg => (hA g hg).2)
    (fun p _ => by show kk (ofK _) = _; rw [kk_ofK]) (fun p _ => by show kk (addQ _ _) = _; rw [kk_addQ]) (fun p _ => by show kk (ofK _) = _; rw [kk_ofK]) (fun p _ => rfl) (fun p _ => rfl) r (by omega) (kn p)]
/-- What holds all along: the turn's box, the layer's box, and that nothing was written. -/
structure StR (w W : World) (X : Nat) (p q r s u v : Value) : Prop where
  bel : Below w.heap.size w W
  bt : Box4 W X p q r s
  bl : Box2 W (X + 1) u v
theorem StR.next {w W W' : World} {X : Nat} {p q r s u v : Value} (h : StR w W X p q r s u v) (hb : Below W.heap.size W W') : StR w W' X p q r s u v := ⟨h.bel.trans (hb.mono h.bel.size), h.bt.kept hb, h.bl.kept hb⟩
theorem StR.start (w : World) (p q r s u v : Value) (t t' : TypeId) : StR w ((w.alloc (.cells #[p, q, r, s] t)).alloc (.cells #[u, v] t')) w.heap.size p q r s u v := by
  have h1 := (Below.refl w.heap.size w).alloc (Nat.le_refl _) (.cells #[p, q, r, s] t)
  have h2 := (Below.refl (w.alloc (.cells #[p, q, r, s] t)).heap.size (w.alloc (.cells #[p, q, r, s] t))).alloc (Nat.le_refl _) (.cells #[u, v] t')
  have hb := Box2.new (w.alloc (.cells #[p, q, r, s] t)) u v t'
  rw [World.size_alloc] at hb
  exact ⟨h1.trans (h2.mono h1.size), (Box4.new w p q r s t).kept h2, hb⟩
/-- The six cells. -/
abbrev SixC (X : Nat) (p q r s u v : Value) (W : World) : Prop := W.cell? ⟨X, 0, none⟩ = some p ∧ W.cell? ⟨X, 1, none⟩ = some q ∧ W.cell? ⟨X, 2, none⟩ = some r ∧ W.cell? ⟨X, 3, none⟩ = some s ∧ W.cell? ⟨X + 1, 0, none⟩ = some u ∧ W.cell? ⟨X + 1, 1, none⟩ = some v
theorem StR.six {w W : World} {X : Nat} {p q r s u v : Value} (h : StR w W X p q r s u v) : SixC X p q r s u v W := ⟨h.bt.c0, h.bt.c1, h.bt.c2, h.bt.c3, h.bl.c0, h.bl.c1⟩
theorem StR.six2 {w W : World} {X : Nat} {p q r s u v : Value} (h : StR w W X p q r s u v) (o : Obj) : SixC X p q r s u v (W.alloc o) := (h.next ((Below.refl W.heap.size W).alloc (Nat.le_refl _) o)).six

/-- What the rounds hold while they are gathered: all of the first t, and u values of the next. -/
def gatF (F G : Nat → Nat → Int) (t u i p : Nat) : Int := if i < t ∨ (i = t ∧ p < u) then addQ (F i p) (G i p) else F i p
theorem gat_step (F G : Nat → Nat → Int) (t u i p : Nat) (x y : Int) (hx : F t u = x) (hy : G t u = y) : (if i = t ∧ p = u then addQ x y else gatF F G t u i p) = gatF F G t (u + 1) i p := by
  unfold gatF
  by_cases e : i = t ∧ p = u
  · rw [if_pos e, if_pos (by omega), e.1, e.2, hx, hy]
  · rw [if_neg e]
    by_cases e2 : i < t ∨ (i = t ∧ p < u)
    · rw [if_pos e2, if_pos (by omega)]
    · rw [if_neg e2, if_neg (by omega)]
theorem gat_next (F G : Nat → Nat → Int) (t i p : Nat) (hp : p < 3) : gatF F G t 3 i p = gatF F G (t + 1) 0 i p := by
  unfold gatF
  by_cases e : i < t ∨ (i = t ∧ p < 3)
  · rw [if_pos e, if_pos (by omega)]
  · rw [if_neg e, if_neg (by omega)]
theorem gat_at (F G : Nat → Nat → Int) (t u : Nat) : gatF F G t u t u = F t u := by unfold gatF; rw [if_neg (by omega)]

set_option maxHeartbeats 8000000 in
set_option maxRecDepth 100000 in
theorem rounds_any (i : Int) (az : Option Addr) (nz cz bd od k cd : Nat) (tau lg : Int) (ga : Option Addr) (m gc : Nat) (gs : List GQ) (z d V : Nat → Int) (bb ob N cb : Nat) (w : World) (hk : k ≤ 4) (hz4 : nz ≤ 4) (hm : gs.length = m) (hmz : m = 2 ^ nz) (hN : N = 2 ^ k) (hgr : GRow w ga gs) (hok : ∀ q ∈ gs, gateOk ((2 ^ k : Nat) : Int) q) (hz : PRow w az nz z) (vz : Nums z) (hd : Row w bd od (2 * k) d) (vd : Nums d) (hV : Row w bb ob N V) (vV : Nums V) (ht : Tab w) :
    Calls Tryz.prog 60 #[turnV i az nz cz (some ⟨bd, od, none⟩) (2 * k) cd tau, .agg #[.int .i64 lg, .slice ga m gc], .slice (some ⟨bb, ob, none⟩) N cb] w fun e w' => ∃ R a, e = .returned (.slice (some ⟨R, 0, none⟩) (2 * k) (2 * k)) ∧ Grid w' R (2 * k) 3 a (rdQ gs nz k V z d) w.heap.size ∧ Below w.heap.size w w' := by
  have hN1 : 1 ≤ N := by rw [hN]; exact Nat.one_le_two_pow
  have hN16 : N ≤ 16 := by rw [hN]; exact Nat.pow_le_pow_right (j := 4) (by omega) (by omega)
  have hbb := hV.lt hN1
  have hT : N * N = 2 ^ (2 * k) := by rw [hN, Nat.two_mul, two_pow_pair]
  obtain ⟨T, hTT⟩ : ∃ T, N * N = T := ⟨_, rfl⟩
  have hT1 : 0 < T := by rw [← hTT, hT]; exact Nat.two_pow_pos _
  have HSP := hid (fun W (h : Below w.heap.size w W) => spread_any bb ob N cb V W hN1 hN16 (hV.kept h hbb) vV)
  have HWI := hid (fun (mul : Bool) W (h : Below w.heap.size w W) => wires_any i az nz cz bd od k cd tau lg ga m gc mul gs z T W hk hz4 (by rw [← hTT]; exact hT) hm hmz (hgr.kept h) hok (hz.kept h) vz)
  have hdk : ∀ W, Below w.heap.size w W → PRow W (some ⟨bd, od, none⟩) (2 * k) d := fun W h => (PRow.of hd).kept h
  have HPA : Hid (∀ (W : World) (b0 b1 c1 : Nat), Below w.heap.size w W → Row W b0 0 T (wtF false gs nz k z m) → Row W b1 0 T (sprB V N) → Calls Tryz.prog 16 #[.slice (some ⟨W.heap.size, 0, none⟩) 2 2, .slice (some ⟨bd, od, none⟩) (2 * k) cd] (W.alloc (.cells #[.slice (some ⟨b0, 0, none⟩) T T, .slice (some ⟨b1, 0, none⟩) T c1] 22)) fun e w' => ∃ R b2 a, e = .returned (.tuple #[.slice (some ⟨R, 0, none⟩) (2 * k) (2 * k), .slice (some ⟨b2, 0, none⟩) 2 2, .int .i64 0]) ∧ Grid w' R (2 * k) 3 a (rightF (tabA gs nz k V z) 2 (2 * k) d) W.heap.size ∧ Below W.heap.size W w') := hid (fun W b0 b1 c1 h r0 r1 => by
    have hal := (Below.refl W.heap.size W).alloc (Nat.le_refl _) (.cells #[.slice (some ⟨b0, 0, none⟩) T T, .slice (some ⟨b1, 0, none⟩) T c1] 22)
    have h3 := h.trans (hal.mono h.size)
    refine (sprove_ok W.heap.size 0 2 2 (two b0 b1) (fun _ => 0) (two T c1) (tabA gs nz k V z) (2 * k) T (some ⟨bd, od, none⟩) cd d _ (by omega) (by omega) (by omega) (by rw [← hTT]; exact hT) (ht.kept h3 ht.1) (tabs_two (F := tabA gs nz k V z) (by rw [hmz] at r0; exact r0) (by rw [hN] at r1; exact r1) hT1 _) (fun j hj => ?_) (hdk _ h3) vd).mono ?_
    · match j, hj with
      | 0, _ => exact fun p => ofK_u64 _
      | 1, _ => exact fun p => by have := addQ_rng (V (p / 2 ^ k)) (V (p % 2 ^ k)); show 0 ≤ addQ (V (p / 2 ^ k)) (V (p % 2 ^ k)) ∧ addQ (V (p / 2 ^ k)) (V (p % 2 ^ k)) ≤ _; omega
    · rintro e w' ⟨b2, a, he, hl, _⟩
      exact ⟨_, b2, a, he, hl.grid.base hal.size, hal.trans (hl.below.mono hal.size)⟩)
  have HPM : Hid (∀ (W : World) (b0 b1 c1 b2 c2 : Nat), Below w.heap.size w W → Row W b0 0 T (wtF true gs nz k z m) → Row W b1 0 T (sprX V N) → Row W b2 0 T (sprY V N) → Calls Tryz.prog 16 #[.slice (some ⟨W.heap.size, 0, none⟩) 3 3, .slice (some ⟨bd, od, none⟩) (2 * k) cd] (W.alloc (.cells #[.slice (some ⟨b0, 0, none⟩) T T, .slice (some ⟨b1, 0, none⟩) T c1, .slice (some ⟨b2, 0, none⟩) T c2] 22)) fun e w' => ∃ R b2 a, e = .returned (.tuple #[.slice (some ⟨R, 0, none⟩) (2 * k) (2 * k), .slice (some ⟨b2, 0, none⟩) 3 3, .int .i64 0]) ∧ Grid w' R (2 * k) 4 a (rightF (tabM gs nz k V z) 3 (2 * k) d) W.heap.size ∧ Below W.heap.size W w') := hid (fun W b0 b1 c1 b2 c2 h r0 r1 r2 => by
    have hal := (Below.refl W.heap.size W).alloc (Nat.le_refl _) (.cells #[.slice (some ⟨b0, 0, none⟩) T T, .slice (some ⟨b1, 0, none⟩) T c1, .slice (some ⟨b2, 0, none⟩) T c2] 22)
    have h3 := h.trans (hal.mono h.size)
    refine (sprove_ok W.heap.size 0 3 3 (three b0 b1 b2) (fun _ => 0) (three T c1 c2) (tabM gs nz k V z) (2 * k) T (some ⟨bd, od, none⟩) cd d _ (by omega) (by omega) (by omega) (by rw [← hTT]; exact hT) (ht.kept h3 ht.1) (tabs_three (F := tabM gs nz k V z) (by rw [hmz] at r0; exact r0) (by rw [hN] at r1; exact r1) (by rw [hN] at r2; exact r2) hT1 _) (fun j hj => ?_) (hdk _ h3) vd).mono ?_
    · match j, hj with
      | 0, _ => exact fun p => ofK_u64 _
      | 1, _ => exact fun p => vV _
      | 2, _ => exact fun p => vV _
    · rintro e w' ⟨b2, a, he, hl, _⟩
      exact ⟨_, b2, a, he, hl.grid.base hal.size, hal.trans (hl.below.mono hal.size)⟩)
  have HRD := hid (fun r p hr => rd_sum (V := V) (z := z) (d := d) (by rw [hm]; exact hmz) hok r p hr)
  have HTT := hid hTT
  clear hgr hok hz vz hd vd hV vV ht hdk hm hmz hN hT hTT hbb
  obtain ⟨k2, hk2⟩ : ∃ x, 2 * k = x := ⟨_, rfl⟩
  rw [hk2] at HWI HPA HPM HRD ⊢
  have k28 : k2 ≤ 8 := by omega
  clear hk2
  have HS0 := hid (StR.start w (.int .i64 i) (.slice az nz cz) (.slice (some ⟨bd, od, none⟩) k2 cd) (.int .u64 tau) (.int .i64 lg) (.slice ga m gc) 106 96)
  go_enter Tryz.func60, Tryz.ntmps60
  go_wp2_with fail
  obtain ⟨X, hX⟩ : ∃ X, w.heap.size = X := ⟨_, rfl⟩
  have HX := hid hX
  rw [hX] at HS0
  rw [hX]
  clear hX
  generalize (w.alloc (.cells #[.int .i64 i, .slice az nz cz, .slice (some ⟨bd, od, none⟩) k2 cd, .int .u64 tau] 106)).alloc (.cells #[.int .i64 lg, .slice ga m gc] 96) = W1 at HS0 ⊢
  refine (HSP.out _ HS0.out.bel).mono ?_
  rintro e w1 ⟨g1, c1, g2, c2, g3, c3, rfl, r1, r2, r3, hb⟩
  rw [HTT.out] at r1 r2 r3 ⊢
  have HS1 := hid (HS0.out.next hb)
  have HRS := hid (And.intro r1 (And.intro r2 r3))
  clear hb HS0 HSP r1 r2 r3
  go_wp2_with fail
  have six := HS1.out.six
  go_region_held3 (SixC X (.int .i64 i) (.slice az nz cz) (.slice (some ⟨bd, od, none⟩) k2 cd) (.int .u64 tau) (.int .i64 lg) (.slice ga m gc)) (first | assumption | exact six2 _) (first
    | (go_at_call 91; refine (HWI.out false _ (HS1.out.bel.drew)).mono ?_; rintro e w2 ⟨B0, rfl, hB0, hr0, hb⟩; have hb2 : Below w1.heap.size w1 w2 := (Below.refl _ w1).drew.trans hb; have HS2 := hid (HS1.out.next hb2); have HR2 := hid hr0; have six1 := HS2.out.six; have six2 := HS2.out.six2; clear hb hr0 hB0)
    | (go_at_call 16; refine (HPA.out w2 B0 g3 c3 HS2.out.bel HR2.out (HRS.out.2.2.kept hb2 (HRS.out.2.2.lt hT1))).mono ?_; rintro e w3 ⟨R, b2, a, rfl, hg, hb3⟩; have HS3 := hid (HS2.out.next hb3); have HG3 := hid hg; have six3 := HS3.out.six; have hb23 := hb3; clear hb3 hg))
  have HRX : Hid (Row w3 g1 0 T (sprX V N) ∧ Row w3 g2 0 T (sprY V N)) := hid (by
    have h := hb2.trans (hb23.mono hb2.size)
    exact ⟨HRS.out.1.kept h (HRS.out.1.lt hT1), HRS.out.2.1.kept h (HRS.out.2.1.lt hT1)⟩)
  have HLB : Hid (w.heap.size ≤ w2.heap.size) := hid HS2.out.bel.size
  clear six six1 six2 six3 hb2 hb23 HS1 HS2 HR2 HRS HPA
  go_wp2_with fail
  have six := HS3.out.six
  go_region_held3 (SixC X (.int .i64 i) (.slice az nz cz) (.slice (some ⟨bd, od, none⟩) k2 cd) (.int .u64 tau) (.int .i64 lg) (.slice ga m gc)) (first | assumption | exact six2 _) (first
    | (go_at_call 91; refine (HWI.out true _ (HS3.out.bel.drew)).mono ?_; rintro e w4 ⟨B1, rfl, hB1, hr1, hb⟩; have hb4 : Below w3.heap.size w3 w4 := (Below.refl _ w3).drew.trans hb; have HS4 := hid (HS3.out.next hb4); have HR4 := hid hr1; have six1 := HS4.out.six; have six2 := HS4.out.six2; clear hb hr1 hB1)
    | (go_at_call 16; refine (HPM.out w4 B1 g1 c1 g2 c2 HS4.out.bel HR4.out (HRX.out.1.kept hb4 (HRX.out.1.lt hT1)) (HRX.out.2.kept hb4 (HRX.out.2.lt hT1))).mono ?_; rintro e w5 ⟨M, bm, am, rfl, hgm, hb5⟩; have HS5 := hid (HS4.out.next hb5); have HGM := hid hgm; have six3 := HS5.out.six; have hb45 := hb5; clear hb5 hgm))
  have HG5 := hid ((HG3.out.kept hb4).kept hb45)
  have HFAR : Hid (∀ q, q < k2 → M ≠ a q ∧ ∀ j, j < k2 → am j ≠ a q) := hid (fun q hq => by
    have h1 := (HG3.out.high q hq).2
    have h2 := hb4.size
    have h3 := HGM.out.low
    exact ⟨by omega, fun j hj => by have := (HGM.out.high j hj).1; omega⟩)
  have HMT := hid HGM.out.tabs
  have HB5 := hid HS5.out.bel
  have HG50 : Hid (Grid w5 R k2 3 a (gatF (rightF (tabA gs nz k V z) 2 k2 d) (rightF (tabM gs nz k V z) 3 k2 d) 0 0) w2.heap.size) := hid (HG5.out.congr fun i p _ _ => by unfold gatF; rw [if_neg (by omega)])
  clear six six1 six2 six3 hb4 hb45 HS3 HS4 HS5 HR4 HRX HPM HWI HG3 HGM HG5
  have HNF : Hid (∀ q p, 0 ≤ rightF (tabA gs nz k V z) 2 k2 d q p ∧ rightF (tabA gs nz k V z) 2 k2 d q p ≤ 18446744073709551615) := hid (fun q p => ofK_u64 _)
  have HNM : Hid (∀ q p, 0 ≤ rightF (tabM gs nz k V z) 3 k2 d q p ∧ rightF (tabM gs nz k V z) 3 k2 d q p ≤ 18446744073709551615) := hid (fun q p => ofK_u64 _)
  generalize rightF (tabA gs nz k V z) 2 k2 d = FA at HRD HG50 HNF
  generalize rightF (tabM gs nz k V z) 3 k2 d = FM at HRD HG50 HMT HNM
  go_wp2_with fail
  go_loopg [52] k2 (fun q i wr => ∃ t : Nat, t ≤ k2 ∧ q = k2 - t ∧ i = .int .i64 (t : Int) ∧ Hid (Grid wr R k2 3 a (gatF FA FM t 0) w2.heap.size) ∧ Hid (Tabs wr M 0 k2 am (fun _ => 0) (fun _ => 4) 4 FM) ∧ Hid (Below w.heap.size w wr))
  case atStart => exact ⟨0, by omega, rfl, rfl, HG50, HMT, HB5⟩
  case round =>
    clear HG50 HMT HB5
    obtain ⟨t, htl, rfl, rfl, HG, HM, HB⟩ := hrel
    by_cases hlt : t < k2
    · have y0 := HG.out.cell t hlt
      have t0 : (0 : Int) ≤ (t : Int) := by omega
      have t1 : (t : Int) < (k2 : Int) := by omega
      obtain ⟨aq, haq⟩ : ∃ x, a t = x := ⟨_, rfl⟩
      rw [haq] at y0
      have HAQ := hid haq
      clear haq
      go_wp2_with fail
      clear y0
      obtain ⟨wo, rfl⟩ : ∃ x, x = wr := ⟨wr, rfl⟩
      go_loopg [57] 3 (fun q i wr => ∃ u : Nat, u ≤ 3 ∧ q = 3 - u ∧ i = .int .i64 (u : Int) ∧ Hid (Grid wr R k2 3 a (gatF FA FM t u) w2.heap.size) ∧ Hid (Tabs wr M 0 k2 am (fun _ => 0) (fun _ => 4) 4 FM) ∧ Hid (Below w.heap.size w wr))
      case atStart => exact ⟨0, by omega, rfl, rfl, HG, HM, HB⟩
      case round =>
        clear HG HM HB
        obtain ⟨u, hu, rfl, rfl, HG, HM, HB⟩ := hrel
        by_cases hul : u < 3
        · have c1 := HG.out.row t hlt u hul
          have f1 := HG.out.may t hlt u hul
          have c2 := HM.out.cell t hlt
          have c3 := HM.out.row t hlt u (by omega)
          rw [gat_at, Nat.zero_add, HAQ.out] at c1
          rw [Nat.zero_add, HAQ.out] at f1
          rw [Nat.zero_add] at c2
          rw [Nat.zero_add] at c3
          obtain ⟨x, hx⟩ : ∃ x, FA t u = x := ⟨_, rfl⟩
          obtain ⟨y, hy⟩ : ∃ x, FM t u = x := ⟨_, rfl⟩
          obtain ⟨mq, hmq⟩ : ∃ x, am t = x := ⟨_, rfl⟩
          obtain ⟨x0, x1⟩ := HNF.out t u
          obtain ⟨y0, y1⟩ := HNM.out t u
          rw [hx] at c1 x0 x1
          rw [hy] at c3 y0 y1
          rw [hmq] at c2 c3
          have HXY := hid (And.intro hx hy)
          clear hx hy hmq
          have u0 : (0 : Int) ≤ (u : Int) := by omega
          have u1 : (u : Int) < 3 := by omega
          have u2 : (u : Int) < 4 := by omega
          go_wp2_with fail
          refine wp_region_still_tail 15 Tryz.mixed (by kernel_rfl) ?_
          simp only [List.take_succ_cons, List.take_zero, List.drop_succ_cons, List.drop_zero]
          iterate 13 still_step
          still_call (add_any x y _ (by omega) (by omega) (by omega) (by omega))
          still_step
          refine wpStill_nil ?_
          go_wp2_with fail
          go_roundg (3 - (u + 1))
          case measure => go_light; omega
          case rel =>
            have hf := HFAR.out t hlt
            rw [HAQ.out] at hf
            refine ⟨u + 1, by omega, rfl, by go_num, hid ?_, hid ?_, hid ?_⟩
            · have h := HG.out.drew.put t u hlt hul (addQ x y)
              rw [HAQ.out] at h
              exact h.congr fun i p _ _ => gat_step FA FM t u i p x y HXY.out.1 HXY.out.2
            · exact HM.out.drew.wrote ((Wrote.refl aq u 1 wr.drew).store (Nat.le_refl _) (by omega) _) hf.1 hf.2
            · exact HB.out.drew.setCell (p := ⟨aq, u, none⟩) (by have := (HG.out.high t hlt).1; have h2 := HLB.out; rw [HAQ.out] at this; show w.heap.size ≤ aq; omega) _
        · have e : u = 3 := by omega
          subst e
          have HG2 : Hid (Grid wr R k2 3 a (gatF FA FM (t + 1) 0) w2.heap.size) := hid (HG.out.congr fun i p _ hp => gat_next FA FM t i p hp)
          go_wp2_with fail
          go_roundg (k2 - (t + 1))
          case measure => go_light; omega
          case rel => exact ⟨t + 1, by omega, rfl, by go_num, HG2, HM, HB⟩
    · have e : t = k2 := by omega
      have t1 : ¬ ((t : Int) < (k2 : Int)) := by omega
      have HFIN : Hid (Grid wr R k2 3 a (rdQ gs nz k V z d) w.heap.size) := hid ((HG.out.base HLB.out).congr fun i p hi _ => by unfold gatF; rw [if_pos (by omega)]; exact HRD.out i p hi)
      clear e
      go_wp2_with fail
      go_ret
      exact ⟨R, rfl, ⟨a, HFIN.out⟩, HB.out⟩

end Go.Proofs.YtbchbmelofojkaaGreatDoor

/-
  Contracts of package gkr's logs, countDraws and hasEnds, of right circuits; they make new rows and write nothing that was there.
-/
namespace Go.Proofs.YtbchbmelofojkaaGreatDoor
open Go.RowKit
set_option linter.unusedVariables false
attribute [local go_sem ↓] Go.wp_at_zero Go.wp_at_succ

/-- make([]int, 1, k + 1). -/
theorem run_make_one (k : Nat) (hk : k ≤ 1000) (w : World) : (Instr.makeSlice 45 (.int .i64 1) (.int .i64 ((k : Int) + 1))).run Tryz.prog w = .ok (.slice (some ⟨w.heap.size, 0, none⟩) 1 (k + 1)) (w.alloc (.cells (madeCells #[.int .i64 0] (k + 1)) 3)) := by
  obtain ⟨i, hi, hz⟩ := Option.map_eq_some_iff.1 Tryz.infoI
  simp only [Prod.mk.injEq] at hz
  obtain ⟨h1, h2, h3⟩ := hz
  have h := run_make (P := Tryz.prog) w 45 3 i (.int .i64 0) Tryz.underlying45 hi h1 .i64 .i64 1 ((k : Int) + 1) (by omega) (by omega) (by rw [h3]; omega) (by omega)
  rw [h2, Nat.mul_one, show ((k : Int) + 1).toNat = k + 1 from by omega] at h
  exact h
/-- What append leaves, of ints. -/
theorem isnoc {w wr w6 : World} {E g2 c2 t : Nat} {v : Value} {z : Int} {f : Nat → Int} {o : Obj} (hb : Below E w wr) (hs : E ≤ wr.heap.size) (hown : OwnI wr E v t f) (hz : f t = z)
    (h6 : w6.ownsRow E 3 1 (.slice (some ⟨g2, 0, none⟩) (t + 1) c2) (t + 1) (icells t f ++ [.int .i64 z])) (hg : (wr.alloc o).grownBy w6 v.ownBlock) : OwnI w6 E (.slice (some ⟨g2, 0, none⟩) (t + 1) c2) (t + 1) f ∧ Below E w w6 := by
  refine ⟨by rw [OwnI, ← icells_snoc t f z hz]; exact h6, (hb.alloc hs o).grown hg (by simp; omega) fun k e => ?_⟩
  exact (World.ownsRow.lt hown k e).1

set_option maxHeartbeats 2000000 in
set_option maxRecDepth 100000 in
theorem logs_any (c : CQ) (g : Int) (b off n cap : Nat) (A : Nat → Option Addr) (C : Nat → Nat) (w : World) (hg : c.log = g) (hn : c.layers.length = n) (n4 : n ≤ 4) (hr : CRow w (some ⟨b, off, none⟩) c.layers A C) :
    Calls Tryz.prog 88 #[.agg #[.int .i64 g, .slice (some ⟨b, off, none⟩) n cap]] w fun e w' => ∃ L cl, e = .returned (.slice (some ⟨L, 0, none⟩) (n + 1) cl) ∧ n + 1 ≤ cl ∧ w.heap.size ≤ L ∧ IRow w' L 0 (n + 1) (belowQ c) ∧ Below w.heap.size w w' := by
  obtain ⟨i0, hi, hz0, hz1, hz2⟩ := info_parts Tryz.infoI
  have HI := hid (And.intro hi (And.intro hz0 (And.intro hz1 hz2)))
  clear hi hz0 hz1 hz2
  have HR := hid hr
  have HN := hid hn
  have hmk := run_make_one n (by omega)
  have hm0 : (madeCells #[Value.int .i64 0] (n + 1))[0]? = some (.int .i64 0) := by simp [madeCells]
  obtain ⟨E, hE⟩ : ∃ E, w.heap.size = E := ⟨_, rfl⟩
  have HEE := hid hE
  have HO0 : Hid (OwnI ((w.alloc (.cells #[.int .i64 g, .slice (some ⟨b, off, none⟩) n cap] 25)).alloc (.cells ((madeCells #[.int .i64 0] (n + 1)).setIfInBounds 0 (.int .i64 g)) 3)) E (.slice (some ⟨w.heap.size + 1, 0, none⟩) 1 (n + 1)) 1 (belowQ c)) := hid (by
    have h := OwnI.start (w.alloc (.cells #[.int .i64 g, .slice (some ⟨b, off, none⟩) n cap] 25)) E n g (belowQ c) (by simp; omega) (by unfold maxLen; omega) hg
    rwa [World.size_alloc] at h)
  have HB0 : Hid (Below E w ((w.alloc (.cells #[.int .i64 g, .slice (some ⟨b, off, none⟩) n cap] 25)).alloc (.cells ((madeCells #[.int .i64 0] (n + 1)).setIfInBounds 0 (.int .i64 g)) 3))) := hid (by
    rw [← hE]
    exact ((Below.refl _ w).alloc (Nat.le_refl _) _).alloc (by simp) _)
  clear hr hg hn hE
  go_enter Tryz.func88, Tryz.ntmps88
  go_wp2_with fail
  clear hmk hm0
  generalize (w.alloc (.cells #[.int .i64 g, .slice (some ⟨b, off, none⟩) n cap] 25)).alloc (.cells ((madeCells #[.int .i64 0] (n + 1)).setIfInBounds 0 (.int .i64 g)) 3) = W1 at HO0 HB0 ⊢
  go_loopg [3, 18] n (fun q v i wr => ∃ (t : Nat) (u : Value), t ≤ n ∧ q = n - t ∧ v = u ∧ i = .int .i64 (t : Int) ∧ Hid (OwnI wr E u (t + 1) (belowQ c)) ∧ Hid (Below E w wr))
  case atStart => exact ⟨0, _, by omega, rfl, rfl, rfl, HO0, HB0⟩
  case round =>
    clear HO0 HB0
    obtain ⟨t, v, ht, rfl, hv, rfl, HO, HB⟩ := hrel
    obtain rfl := hv.symm
    have hs : E ≤ wr.heap.size := by have h1 := HB.out.size; have h2 := HEE.out; omega
    by_cases htl : t < n
    · obtain ⟨l, hl⟩ : ∃ l, c.layers[t]? = some l := ⟨c.layers[t]'(by rw [HN.out]; exact htl), by simp⟩
      have hbw : Below w.heap.size w wr := by rw [HEE.out]; exact HB.out
      obtain ⟨b', off', eb, hc⟩ := (HR.out.kept hbw) (by intro e; have := HN.out; rw [e] at this; simp at this; omega)
      cases eb
      obtain ⟨y0, y1, _, _⟩ := hc t l hl
      rw [Nat.mul_comm 2 t] at y0 y1
      obtain ⟨lg, hlg⟩ : ∃ x, l.log = x := ⟨_, rfl⟩
      obtain ⟨m, hm⟩ : ∃ x, l.gates.length = x := ⟨_, rfl⟩
      obtain ⟨ga, hga⟩ : ∃ x, A t = x := ⟨_, rfl⟩
      obtain ⟨gc, hgc⟩ : ∃ x, C t = x := ⟨_, rfl⟩
      rw [hlg] at y0
      rw [hm, hga, hgc] at y1
      have HZ : Hid (belowQ c (t + 1) = lg) := hid (by rw [belowQ, hl]; exact hlg)
      clear hc hl hlg hm hga hgc hbw
      have t0 : (0 : Int) ≤ (t : Int) := by omega
      have t1 : (t : Int) < (n : Int) := by omega
      go_wp2_with (at_builtin; refine wpList_append_lies _ rfl _ _ 45 rfl E 3 i0 (.int .i64 0) 1 8 Tryz.underlying45 HI.out.1 HI.out.2.1 HI.out.2.2.1 HI.out.2.2.2 rfl (by decide) v (t + 1) _ rfl (World.ownsRow.alloc (World.ownsRow.alloc HO.out _) _) ⟨wr.heap.size + 1, 0, none⟩ 1 1 [.int .i64 lg] rfl rfl ?qc2 ?qc3 ?qc4 ?qc5 ?qc6 ?qc7 (wr.heap.size + 2) ?qc8 ?_)
      case qc3 => rfl
      case qc5 => unfold maxLen; omega
      case qc6 => omega
      case qc7 => omega
      intro g2 c2 w6 hown2 hgrow2 hat2 hlt3
      have HN6 := hid (isnoc (HB.out.alloc hs (.cells #[.int .i64 lg, .slice ga m gc] 96)) (by simp; omega) (HO.out.kept ((Below.refl wr.heap.size wr).alloc (Nat.le_refl _) _)) HZ.out hown2 hgrow2)
      clear hown2 hgrow2 hat2 hlt3
      go_wp2_with fail
      go_roundg (n - (t + 1))
      case measure => go_light; omega
      case rel => exact ⟨t + 1, _, by omega, rfl, rfl, by go_num, hid HN6.out.1, hid HN6.out.2⟩
    · have e : t = n := by omega
      subst e
      obtain ⟨L, cl, rfl, hcl, hL, hrow⟩ := HO.out.is
      go_wp2_with fail
      go_ret
      exact ⟨L, cl, rfl, hcl, by rw [HEE.out]; exact hL, hrow, by rw [HEE.out]; exact HB.out⟩

set_option maxHeartbeats 2000000 in
set_option maxRecDepth 100000 in
theorem cdraws_any (c : CQ) (g : Int) (b off n cap : Nat) (A : Nat → Option Addr) (C : Nat → Nat) (w : World) (hg : c.log = g) (hn : c.layers.length = n) (hr : CRow w (some ⟨b, off, none⟩) c.layers A C) (hc : c.right) :
    Calls Tryz.prog 58 #[.agg #[.int .i64 g, .slice (some ⟨b, off, none⟩) n cap]] w fun e w' => e = .returned (.int .i64 (needQ c : Int)) ∧ Below w.heap.size w w' := by
  have n4 : n ≤ 4 := by have := hc.few; omega
  have HS0 := hid (StW.start w g (.slice (some ⟨b, off, none⟩) n cap) 25)
  have HLG := hid (fun W (h : Below w.heap.size w W) => logs_any c g b off n cap A C W hg hn n4 (hr.kept h))
  have HC := hid hc
  have HN := hid hn
  clear hr hg hn hc
  go_enter Tryz.func58, Tryz.ntmps58
  go_wp2_with fail
  obtain ⟨B, hB⟩ : ∃ B, w.heap.size = B := ⟨_, rfl⟩
  have HS1 : Hid (StW w (w.alloc (.cells #[.int .i64 g, .slice (some ⟨b, off, none⟩) n cap] 25)) B g (.slice (some ⟨b, off, none⟩) n cap)) := hid (by rw [← hB]; exact HS0.out)
  rw [hB]
  clear hB HS0
  generalize w.alloc (.cells #[.int .i64 g, .slice (some ⟨b, off, none⟩) n cap] 25) = W1 at HS1 ⊢
  refine (HLG.out _ HS1.out.bel).mono ?_
  rintro e w1 ⟨L, cl, rfl, hcl, hL, hrow, hb⟩
  have HS2 := hid (HS1.out.next hb)
  clear hb HS1 HLG hL
  obtain ⟨z0, z1, zl⟩ := HS2.out.box
  obtain ⟨lz, hlz, lz4⟩ := belowQ_rng HC.out n
  have y0 := hrow n (by omega)
  rw [Nat.zero_add, hlz] at y0
  have HROW := hid hrow
  have HLZ : Hid ((partsQ c).lg 0 = lz) := hid (by
    show (belowQ c (c.layers.length - 0)).toNat = lz
    rw [HN.out, Nat.sub_zero, hlz, Int.toNat_natCast])
  have n0 : (0 : Int) ≤ (n : Int) := by omega
  have n5 : (n : Int) < (n : Int) + 1 := by omega
  have n6 : (n : Int) ≤ (cl : Int) := by omega
  clear hrow hlz
  go_wp2_with fail
  clear y0 n5 n6 z0 z1 zl
  go_loopg [5, 21] n (fun q s i wr => ∃ (t p : Nat), t ≤ n ∧ q = n - t ∧ s = .int .i64 (p : Int) ∧ i = .int .i64 (t : Int) ∧ p ≤ 4 + 9 * t ∧ Hid (p = lz + needP c t) ∧ wr = w1)
  case atStart => exact ⟨0, lz, by omega, rfl, rfl, rfl, by omega, hid rfl, rfl⟩
  case round =>
    obtain ⟨t, p, ht, rfl, rfl, rfl, hp, HP, hw⟩ := hrel
    obtain rfl := hw.symm
    by_cases htl : t < n
    · obtain ⟨bk, hbk, bk4⟩ := belowQ_rng HC.out t
      have y0 := HROW.out t (by omega)
      rw [Nat.zero_add, hbk] at y0
      have HNX : Hid (p + 2 * bk + 1 = lz + needP c (t + 1)) := hid (by rw [HP.out, needP, hbk, Int.toNat_natCast]; omega)
      have t0 : (0 : Int) ≤ (t : Int) := by omega
      have t1 : (t : Int) < (n : Int) := by omega
      clear hbk
      go_wp2_with fail
      go_roundg (n - (t + 1))
      case measure => go_light; omega
      case rel => exact ⟨t + 1, p + 2 * bk + 1, by omega, rfl, by go_num, by go_num, by omega, HNX, rfl⟩
    · have e : t = n := by omega
      have HFIN : Hid ((p : Int) = (needQ c : Int)) := hid (by rw [need_is, HLZ.out, HN.out, ← e, ← HP.out])
      have t1 : ¬ ((t : Int) < (n : Int)) := by omega
      clear e
      go_wp2_with fail
      go_ret
      exact ⟨by rw [HFIN.out]; rfl, HS2.out.bel⟩

/-- Whether a circuit's ends have as many numbers. -/
def endsQ (c : CQ) (ni no : Nat) : Prop := ni = 2 ^ (partsQ c).lg c.layers.length ∧ no = 2 ^ (partsQ c).lg 0
theorem lg_top {c : CQ} {n k : Nat} (hn : c.layers.length = n) (h : belowQ c n = (k : Int)) : (partsQ c).lg 0 = k := by
  show (belowQ c (c.layers.length - 0)).toNat = k
  rw [hn, Nat.sub_zero, h, Int.toNat_natCast]
theorem lg_of {c : CQ} {n t i bk : Nat} (hn : c.layers.length = n) (hi : i + t + 1 = n) (hb : belowQ c i = (bk : Int)) : (partsQ c).lg (t + 1) = bk := by
  show (belowQ c (c.layers.length - (t + 1))).toNat = bk
  rw [hn, show n - (t + 1) = i from by omega, hb, Int.toNat_natCast]
theorem lg_bot {c : CQ} {n k : Nat} (hn : c.layers.length = n) (h : belowQ c 0 = (k : Int)) : (partsQ c).lg n = k := by
  show (belowQ c (c.layers.length - n)).toNat = k
  rw [hn, Nat.sub_self, h, Int.toNat_natCast]

set_option maxHeartbeats 2000000 in
set_option maxRecDepth 100000 in
theorem hasEnds_any (c : CQ) (g : Int) (b off n cap : Nat) (A : Nat → Option Addr) (C : Nat → Nat) (ai ao : Option Addr) (ni ci no co : Nat) (w : World) (hg : c.log = g) (hn : c.layers.length = n) (hr : CRow w (some ⟨b, off, none⟩) c.layers A C) (hc : c.right) :
    Calls Tryz.prog 71 #[.agg #[.int .i64 g, .slice (some ⟨b, off, none⟩) n cap], .slice ai ni ci, .slice ao no co] w fun e w' => ∃ r : Bool, e = .returned (.bool r) ∧ (r = true ↔ endsQ c ni no) ∧ Below w.heap.size w w' := by
  have n4 : n ≤ 4 := by have := hc.few; omega
  have HS0 := hid (StW.start w g (.slice (some ⟨b, off, none⟩) n cap) 25)
  have HLG := hid (fun W (h : Below w.heap.size w W) => logs_any c g b off n cap A C W hg hn n4 (hr.kept h))
  obtain ⟨lz, hlz, lz4⟩ := belowQ_rng hc n
  obtain ⟨k0, hk0, k04⟩ := belowQ_rng hc 0
  have HE : Hid (endsQ c ni no ↔ ni = 2 ^ k0 ∧ no = 2 ^ lz) := hid (by unfold endsQ; rw [hn, lg_top hn hlz, lg_bot hn hk0])
  have HB := hid (And.intro hlz hk0)
  clear hr hg hn hc hlz hk0
  go_enter Tryz.func71, Tryz.ntmps71
  go_wp2_with fail
  obtain ⟨B, hB⟩ : ∃ B, w.heap.size = B := ⟨_, rfl⟩
  have HS1 : Hid (StW w (w.alloc (.cells #[.int .i64 g, .slice (some ⟨b, off, none⟩) n cap] 25)) B g (.slice (some ⟨b, off, none⟩) n cap)) := hid (by rw [← hB]; exact HS0.out)
  rw [hB]
  clear hB HS0
  generalize w.alloc (.cells #[.int .i64 g, .slice (some ⟨b, off, none⟩) n cap] 25) = W1 at HS1 ⊢
  refine (HLG.out _ HS1.out.bel).mono ?_
  rintro e w1 ⟨L, cl, rfl, hcl, hL, hrow, hb⟩
  have HS2 := hid (HS1.out.next hb)
  clear hb HS1 HLG hL
  obtain ⟨z0, z1, zl⟩ := HS2.out.box
  have y0 := hrow 0 (by omega)
  have y1 := hrow n (by omega)
  rw [Nat.zero_add, HB.out.2] at y0
  rw [Nat.zero_add, HB.out.1] at y1
  clear hrow hcl HB
  have sh0 := shl_pow (k := k0) (by omega)
  have sh1 := shl_pow (k := lz) (by omega)
  generalize 2 ^ k0 = M0 at sh0 HE
  generalize 2 ^ lz = M1 at sh1 HE
  have n0 : (0 : Int) ≤ (n : Int) := by omega
  have n5 : (n : Int) < (n : Int) + 1 := by omega
  have n6 : (0 : Int) < (n : Int) + 1 := by omega
  by_cases h1 : ni = M0
  · have e1 : ((ni : Int) == (M0 : Int)) = true := by rw [h1]; simp
    by_cases h2 : no = M1
    · have e2 : ((no : Int) == (M1 : Int)) = true := by rw [h2]; simp
      have HR : Hid (endsQ c ni no) := hid (HE.out.2 ⟨h1, h2⟩)
      clear h1 h2
      go_wp2_with fail
      go_ret
      exact ⟨true, rfl, ⟨fun _ => HR.out, fun _ => rfl⟩, HS2.out.bel⟩
    · have e2 : ((no : Int) == (M1 : Int)) = false := beq_eq_false_iff_ne.2 (by omega)
      have HR : Hid (¬ endsQ c ni no) := hid (fun h => h2 (HE.out.1 h).2)
      clear h1 h2
      go_wp2_with fail
      go_ret
      exact ⟨false, rfl, ⟨fun h => absurd h Bool.false_ne_true, fun h => absurd h HR.out⟩, HS2.out.bel⟩
  · have e1 : ((ni : Int) == (M0 : Int)) = false := beq_eq_false_iff_ne.2 (by omega)
    have HR : Hid (¬ endsQ c ni no) := hid (fun h => h1 (HE.out.1 h).1)
    clear h1
    go_wp2_with fail
    go_ret
    exact ⟨false, rfl, ⟨fun h => absurd h Bool.false_ne_true, fun h => absurd h HR.out⟩, HS2.out.bel⟩

end Go.Proofs.YtbchbmelofojkaaGreatDoor

/-
  Contracts of package gkr's Draws and Form, of every circuit and every proof; they make new rows and write nothing that was there.
-/
namespace Go.Proofs.YtbchbmelofojkaaGreatDoor
open Go.RowKit
set_option linter.unusedVariables false
attribute [local go_sem ↓] Go.wp_at_zero Go.wp_at_succ

theorem right_addr {c : CQ} (hc : c.right) {w : World} {ao : Option Addr} {A : Nat → Option Addr} {C : Nat → Nat} (hr : CRow w ao c.layers A C) : ∃ b off, ao = some ⟨b, off, none⟩ := by
  obtain ⟨b, off, e, _⟩ := hr hc.some
  exact ⟨b, off, e⟩
set_option maxHeartbeats 2000000 in
set_option maxRecDepth 100000 in
theorem draws_bad (c : CQ) (g : Int) (ao : Option Addr) (n cap : Nat) (A : Nat → Option Addr) (C : Nat → Nat) (x : Int) (w : World) (hg : c.log = g) (hn : c.layers.length = n) (hr : CRow w ao c.layers A C) (hx : checkE c x) (hx0 : x ≠ 0) :
    Calls Tryz.prog 25 #[.agg #[.int .i64 g, .slice ao n cap]] w fun e w' => e = .returned (.tuple #[.int .i64 0, .int .i64 x]) ∧ Below w.heap.size w w' := by
  have HS0 := hid (StW.start w g (.slice ao n cap) 25)
  have HC : Hid (∀ W, Below w.heap.size w W → Calls Tryz.prog 55 #[.agg #[.int .i64 g, .slice ao n cap]] W fun e w' => e = .returned (.int .i64 x) ∧ Below W.heap.size W w') := hid (fun W h => (check_any c g ao n cap A C W hg hn (hr.kept h)).mono fun e w' ⟨y, he, hy, hb⟩ => ⟨by rw [he, checkE_one hy hx], hb⟩)
  have e1 : (x != 0) = true := by simp [hx0]
  clear hr hg hn hx hx0
  go_enter Tryz.func25, Tryz.ntmps25
  go_wp2_with fail
  refine (HC.out _ HS0.out.bel).mono ?_
  rintro e w1 ⟨rfl, hb⟩
  have HB := hid (HS0.out.bel.trans (hb.mono HS0.out.bel.size))
  clear hb
  go_wp2_with fail
  go_ret2
  exact ⟨rfl, HB.out⟩
set_option maxHeartbeats 2000000 in
set_option maxRecDepth 100000 in
theorem draws_ok (c : CQ) (g : Int) (b off n cap : Nat) (A : Nat → Option Addr) (C : Nat → Nat) (w : World) (hg : c.log = g) (hn : c.layers.length = n) (hr : CRow w (some ⟨b, off, none⟩) c.layers A C) (hc : c.right) :
    Calls Tryz.prog 25 #[.agg #[.int .i64 g, .slice (some ⟨b, off, none⟩) n cap]] w fun e w' => e = .returned (.tuple #[.int .i64 (needQ c : Int), .int .i64 0]) ∧ Below w.heap.size w w' := by
  have HS0 := hid (StW.start w g (.slice (some ⟨b, off, none⟩) n cap) 25)
  have HC : Hid (∀ W, Below w.heap.size w W → Calls Tryz.prog 55 #[.agg #[.int .i64 g, .slice (some ⟨b, off, none⟩) n cap]] W fun e w' => e = .returned (.int .i64 0) ∧ Below W.heap.size W w') := hid (fun W h => (check_any c g _ n cap A C W hg hn (hr.kept h)).mono fun e w' ⟨y, he, hy, hb⟩ => ⟨by rw [he, checkE_one hy (checkE_zero.2 hc)], hb⟩)
  have HD := hid (fun W (h : Below w.heap.size w W) => cdraws_any c g b off n cap A C W hg hn (hr.kept h) hc)
  generalize needQ c = q at HD ⊢
  clear hr hg hn hc
  go_enter Tryz.func25, Tryz.ntmps25
  go_wp2_with fail
  obtain ⟨B, hB⟩ : ∃ B, w.heap.size = B := ⟨_, rfl⟩
  have HS1 : Hid (StW w (w.alloc (.cells #[.int .i64 g, .slice (some ⟨b, off, none⟩) n cap] 25)) B g (.slice (some ⟨b, off, none⟩) n cap)) := hid (by rw [← hB]; exact HS0.out)
  rw [hB]
  clear hB HS0
  generalize w.alloc (.cells #[.int .i64 g, .slice (some ⟨b, off, none⟩) n cap] 25) = W1 at HS1 ⊢
  refine (HC.out _ HS1.out.bel).mono ?_
  rintro e w1 ⟨rfl, hb⟩
  have HS2 := hid (HS1.out.next hb)
  clear hb HS1 HC
  obtain ⟨z0, z1, zl⟩ := HS2.out.box
  go_wp2_with fail
  refine (HD.out _ HS2.out.bel).mono ?_
  rintro e w2 ⟨rfl, hb⟩
  have HS3 := hid (HS2.out.next hb)
  clear hb HS2 HD z0 z1 zl
  go_wp2_with fail
  go_ret2
  exact ⟨rfl, HS3.out.bel⟩

/-- What holds all along: the circuit's box, the proof's box, and that nothing was written. -/
structure StQ (w W : World) (X : Nat) (g : Int) (v vp : Value) : Prop where
  bel : Below w.heap.size w W
  box : Box2 W X (.int .i64 g) v
  pc : W.cell? ⟨X + 1, 0, none⟩ = some vp
theorem StQ.next {w W W' : World} {X : Nat} {g : Int} {v vp : Value} (h : StQ w W X g v vp) (hb : Below W.heap.size W W') : StQ w W' X g v vp := ⟨h.bel.trans (hb.mono h.bel.size), h.box.kept hb, (hb.cell (World.block_lt_of_cell? W _ h.pc)).trans h.pc⟩
theorem StQ.start (w : World) (g : Int) (v vp : Value) (t t' : TypeId) : StQ w ((w.alloc (.cells #[.int .i64 g, v] t)).alloc (.cells #[vp] t')) w.heap.size g v vp := by
  have h1 := StW.start w g v t
  have e : (w.alloc (.cells #[.int .i64 g, v] t)).heap.size = w.heap.size + 1 := by simp
  generalize w.alloc (.cells #[.int .i64 g, v] t) = W1 at h1 e
  have hal := (Below.refl W1.heap.size W1).alloc (Nat.le_refl _) (.cells #[vp] t')
  have h2 := h1.next hal
  exact ⟨h2.bel, h2.box, by rw [← e, World.cell?_alloc_new]; rfl⟩
/-- Form's error. -/
def formE (c : CQ) (p : PQ) (x : Int) : Prop := (checkE c x ∧ x ≠ 0) ∨ (c.right ∧ shapedQ c p ∧ x = 0) ∨ (c.right ∧ ¬ shapedQ c p ∧ x = 4)

set_option maxHeartbeats 2000000 in
set_option maxRecDepth 100000 in
theorem form_bad (c : CQ) (g : Int) (ao : Option Addr) (n cap : Nat) (A : Nat → Option Addr) (C : Nat → Nat) (ap : Option Addr) (np cp : Nat) (x : Int) (w : World) (hg : c.log = g) (hn : c.layers.length = n) (hr : CRow w ao c.layers A C) (hx : checkE c x) (hx0 : x ≠ 0) :
    Calls Tryz.prog 70 #[.agg #[.int .i64 g, .slice ao n cap], .agg #[.slice ap np cp]] w fun e w' => e = .returned (.int .i64 x) ∧ Below w.heap.size w w' := by
  have HS0 := hid (StQ.start w g (.slice ao n cap) (.slice ap np cp) 25 63)
  have HC : Hid (∀ W, Below w.heap.size w W → Calls Tryz.prog 55 #[.agg #[.int .i64 g, .slice ao n cap]] W fun e w' => e = .returned (.int .i64 x) ∧ Below W.heap.size W w') := hid (fun W h => (check_any c g ao n cap A C W hg hn (hr.kept h)).mono fun e w' ⟨y, he, hy, hb⟩ => ⟨by rw [he, checkE_one hy hx], hb⟩)
  have e1 : (x != 0) = true := by simp [hx0]
  clear hr hg hn hx hx0
  go_enter Tryz.func70, Tryz.ntmps70
  go_wp2_with fail
  refine (HC.out _ HS0.out.bel).mono ?_
  rintro e w1 ⟨rfl, hb⟩
  have HB := hid (HS0.out.bel.trans (hb.mono HS0.out.bel.size))
  clear hb
  go_wp2_with fail
  go_ret
  exact ⟨rfl, HB.out⟩

set_option maxHeartbeats 4000000 in
set_option maxRecDepth 100000 in
theorem form_right (c : CQ) (g : Int) (b off n cap : Nat) (A : Nat → Option Addr) (C : Nat → Nat) (ap : Option Addr) (np cp : Nat) (p : PQ) (m : PM) (w : World) (hg : c.log = g) (hn : c.layers.length = n) (hr : CRow w (some ⟨b, off, none⟩) c.layers A C) (hc : c.right) (hp : p.n = np) (hpr : PfRow w ap p m) :
    Calls Tryz.prog 70 #[.agg #[.int .i64 g, .slice (some ⟨b, off, none⟩) n cap], .agg #[.slice ap np cp]] w fun e w' => ∃ x, e = .returned (.int .i64 x) ∧ formE c p x ∧ Below w.heap.size w w' := by
  have n4 : n ≤ 4 := by have := hc.few; omega
  have HS0 := hid (StQ.start w g (.slice (some ⟨b, off, none⟩) n cap) (.slice ap np cp) 25 63)
  have HCK : Hid (∀ W, Below w.heap.size w W → Calls Tryz.prog 55 #[.agg #[.int .i64 g, .slice (some ⟨b, off, none⟩) n cap]] W fun e w' => e = .returned (.int .i64 0) ∧ Below W.heap.size W w') := hid (fun W h => (check_any c g _ n cap A C W hg hn (hr.kept h)).mono fun e w' ⟨y, he, hy, hb⟩ => ⟨by rw [he, checkE_one hy (checkE_zero.2 hc)], hb⟩)
  have HLG := hid (fun W (h : Below w.heap.size w W) => logs_any c g b off n cap A C W hg hn n4 (hr.kept h))
  have HC := hid hc
  have HN := hid hn
  have HP := hid hp
  have HPR := hid hpr
  clear hr hg hn hc hp hpr
  go_enter Tryz.func70, Tryz.ntmps70
  go_wp2_with fail
  obtain ⟨X, hX⟩ : ∃ X, w.heap.size = X := ⟨_, rfl⟩
  rw [hX] at HS0
  rw [hX]
  clear hX
  generalize (w.alloc (.cells #[.int .i64 g, .slice (some ⟨b, off, none⟩) n cap] 25)).alloc (.cells #[.slice ap np cp] 63) = W0 at HS0 ⊢
  refine (HCK.out _ HS0.out.bel).mono ?_
  rintro e w1 ⟨rfl, hb⟩
  have HS1 := hid (HS0.out.next hb)
  clear hb HS0 HCK
  obtain ⟨z0, z1, zl⟩ := HS1.out.box
  have zp := HS1.out.pc
  by_cases hnp : np = n
  · have e1 : ((np : Int) != (n : Int)) = false := neq_of (by omega)
    go_wp2_with fail
    clear e1
    refine (HLG.out _ HS1.out.bel).mono ?_
    rintro e w2 ⟨L, cl, rfl, hcl, hL, hrow, hb⟩
    have HS2 := hid (HS1.out.next hb)
    have HROW := hid hrow
    clear hb HS1 HLG hL hrow z0 z1 zl zp
    obtain ⟨z0, z1, zl⟩ := HS2.out.box
    have zp := HS2.out.pc
    go_wp2_with fail
    clear z0 z1 zl zp
    subst hnp
    go_loopg [26] np (fun q i wr => ∃ t : Nat, t ≤ np ∧ q = np - t ∧ i = .int .i64 (t : Int) ∧ Hid (∀ j, j < t → formQ (p.rn j) (p.ln j) ((partsQ c).lg (j + 1)) (p.rl j)) ∧ Hid (StQ w wr X g (.slice (some ⟨b, off, none⟩) np cap) (.slice ap np cp)) ∧ Hid (IRow wr L 0 (np + 1) (belowQ c)))
    case atStart => exact ⟨0, by omega, rfl, rfl, hid (fun j hj => absurd hj (by omega)), HS2, HROW⟩
    case round =>
      clear HS2 HROW
      obtain ⟨t, ht, rfl, rfl, HOK, HS, HROW⟩ := hrel
      by_cases htl : t < np
      · obtain ⟨i, hi⟩ : ∃ i : Nat, i + t + 1 = np := ⟨np - 1 - t, by omega⟩
        obtain ⟨bk, hbk, bk4⟩ := belowQ_rng HC.out i
        have HLK := hid (lg_of HN.out hi hbk)
        obtain ⟨pb, po, rfl, hcl2⟩ := HPR.out.kept HS.out.bel (by rw [HP.out]; omega)
        obtain ⟨y0, y1, y2, _⟩ := hcl2 t (by rw [HP.out]; exact htl)
        rw [Nat.mul_comm 2 t] at y0 y1
        obtain ⟨ra, hra⟩ : ∃ x, m.ra t = x := ⟨_, rfl⟩
        obtain ⟨rn, hrn⟩ : ∃ x, p.rn t = x := ⟨_, rfl⟩
        obtain ⟨rc, hrc⟩ : ∃ x, m.rc t = x := ⟨_, rfl⟩
        obtain ⟨la, hla⟩ : ∃ x, m.la t = x := ⟨_, rfl⟩
        obtain ⟨ln, hln⟩ : ∃ x, p.ln t = x := ⟨_, rfl⟩
        obtain ⟨lc, hlc⟩ : ∃ x, m.lc t = x := ⟨_, rfl⟩
        rw [hra, hrn, hrc] at y0
        rw [hla, hln, hlc] at y1
        rw [hra, hrn] at y2
        have HLR := hid y2
        have HRN := hid (And.intro hrn hln)
        clear hcl2 y2 hra hrn hrc hla hln hlc
        have hal := (Below.refl wr.heap.size wr).alloc (Nat.le_refl _) (.cells #[.slice ra rn rc, .slice la ln lc] 67)
        have HS1 := hid (HS.out.next hal)
        have HR1 := hid (HROW.out.kept hal)
        have HL1 := hid (HLR.out.kept hal)
        have HB1 := hid (Box2.new wr (.slice ra rn rc) (.slice la ln lc) 67)
        have t0 : (0 : Int) ≤ (t : Int) := by omega
        have t1 : (t : Int) < (np : Int) := by omega
        clear hal HLR HROW HS
        go_wp2_with fail
        obtain ⟨PB, hPB⟩ : ∃ x, wr.heap.size = x := ⟨_, rfl⟩
        rw [hPB] at HB1
        rw [hPB]
        clear hPB y0 y1
        generalize wr.alloc (.cells #[.slice ra rn rc, .slice la ln lc] 67) = W2 at HS1 HR1 HL1 HB1 ⊢
        obtain ⟨z0, z1, zl⟩ := HS1.out.box
        obtain ⟨b0, b1, bl⟩ := HB1.out
        have x0 := HR1.out i (by omega)
        rw [Nat.zero_add, hbk] at x0
        have HF := hid (fun W (h : Below W2.heap.size W2 W) => hasForm_any ra la rn rc ln lc bk (m.A t) (p.rl t) (m.C t) (p.R t) W bk4 (HL1.out.kept h))
        have hw1 : IntKind.i64.wrap ((np : Int) - 1) = (np : Int) - 1 := IntWalk.i64_in _ (by omega)
        have hw2 : IntKind.i64.wrap ((np : Int) - 1 - (t : Int)) = (i : Int) := by rw [show (np : Int) - 1 - (t : Int) = (i : Int) from by omega]; exact IntWalk.i64_in _ (by omega)
        have i0 : (0 : Int) ≤ (i : Int) := by omega
        have i1 : (i : Int) < (np : Int) + 1 := by omega
        clear hbk
        go_region_held3 (fun W' => (W'.cell? ⟨PB, 0, none⟩ = some (.slice ra rn rc) ∧ W'.cell? ⟨PB, 1, none⟩ = some (.slice la ln lc)) ∧ W'.cell? ⟨X, 1, none⟩ = some (.slice (some ⟨b, off, none⟩) np cap) ∧ W'.cell? ⟨L, i, none⟩ = some (.int .i64 (bk : Int))) (first | assumption | exact ⟨⟨b0, b1⟩, z1, x0⟩ | exact zx) (first
          | (go_at_call 104; refine (HF.out _ (Below.refl _ W2).drew).mono ?_; rintro e w3 ⟨r, rfl, hrr, hb⟩; have hb3 : Below W2.heap.size W2 w3 := (Below.refl _ W2).drew.trans hb; have zx : (w3.cell? ⟨PB, 0, none⟩ = some (.slice ra rn rc) ∧ w3.cell? ⟨PB, 1, none⟩ = some (.slice la ln lc)) ∧ w3.cell? ⟨X, 1, none⟩ = some (.slice (some ⟨b, off, none⟩) np cap) ∧ w3.cell? ⟨L, i, none⟩ = some (.int .i64 (bk : Int)) := ⟨⟨(hb3.cell bl).trans b0, (hb3.cell bl).trans b1⟩, (hb3.cell zl).trans z1, (hb3.cell (World.block_lt_of_cell? W2 _ x0)).trans x0⟩; clear hb))
        have HS3 := hid (HS1.out.next hb3)
        have HR3 := hid (HR1.out.kept hb3)
        have HRR := hid hrr
        clear zx hb3 hrr HS1 HR1 HL1 HB1 z0 z1 zl b0 b1 bl x0 HF
        cases r with
        | false =>
          have HNO : Hid (¬ shapedQ c p) := hid (fun h => by
            obtain ⟨h1, h2, h3⟩ := h.2 t (by rw [HP.out]; exact htl)
            rw [HLK.out] at h1 h2
            rw [HRN.out.1] at h1 h3
            rw [HRN.out.2] at h2
            exact Bool.false_ne_true (HRR.out.2 ⟨h1, h2, h3⟩))
          go_wp2_with fail
          go_ret
          exact ⟨4, rfl, .inr (.inr ⟨HC.out, HNO.out, rfl⟩), HS3.out.bel⟩
        | true =>
          have HON : Hid (∀ j, j < t + 1 → formQ (p.rn j) (p.ln j) ((partsQ c).lg (j + 1)) (p.rl j)) := hid (fun j hj => by
            by_cases e : j = t
            · rw [e, HLK.out, HRN.out.1, HRN.out.2]; exact HRR.out.1 (by first | rfl | trivial)
            · exact HOK.out j (by omega))
          go_wp2_with fail
          go_roundg (np - (t + 1))
          case measure => go_light; omega
          case rel => exact ⟨t + 1, by omega, rfl, by go_num, HON, HS3, HR3⟩
      · have e : t = np := by omega
        have HYES : Hid (shapedQ c p) := hid ⟨by rw [HP.out, HN.out], fun j hj => HOK.out j (by rw [HP.out] at hj; omega)⟩
        have t1 : ¬ ((t : Int) < (np : Int)) := by omega
        clear e
        go_wp2_with fail
        go_ret
        exact ⟨0, rfl, .inr (.inl ⟨HC.out, HYES.out, rfl⟩), HS.out.bel⟩
  · have e1 : ((np : Int) != (n : Int)) = true := by simp; omega
    have HNO : Hid (¬ shapedQ c p) := hid (fun h => hnp (by rw [← HP.out, h.1, HN.out]))
    clear hnp
    go_wp2_with fail
    go_ret
    exact ⟨4, rfl, .inr (.inr ⟨HC.out, HNO.out, rfl⟩), HS1.out.bel⟩

end Go.Proofs.YtbchbmelofojkaaGreatDoor

/-
  A range over a function whose rounds are known ahead: what comes in round k is f k, and there are N rounds; the body never leaves the loop. Of every program; nothing of this one in it.
-/
namespace Go.Proofs.YtbchbmelofojkaaGreatDoor
open Go.RowKit
set_option linter.unusedVariables false

/-- What a round keeps: all that lay below n₀, and block Bs (what the iterator has captured). -/
structure KeepB (n₀ Bs : Nat) (W W' : World) : Prop where
  bel : Below n₀ W W'
  blk : W'.heap[Bs]? = W.heap[Bs]?
theorem KeepB.refl (n₀ Bs : Nat) (W : World) : KeepB n₀ Bs W W := ⟨Below.refl _ _, rfl⟩
theorem KeepB.trans {n₀ Bs : Nat} {A B C : World} (h : KeepB n₀ Bs A B) (k : KeepB n₀ Bs B C) : KeepB n₀ Bs A C := ⟨h.bel.trans k.bel, k.blk.trans h.blk⟩
theorem KeepB.below {n₀ Bs : Nat} {W W' : World} (h : Below W.heap.size W W') (hn : n₀ ≤ W.heap.size) (hB : Bs < W.heap.size) : KeepB n₀ Bs W W' := ⟨h.mono hn, h.block Bs hB⟩
theorem KeepB.put {n₀ Bs l : Nat} (W : World) (o' : Obj) (hl : n₀ ≤ l) (hs : l < W.heap.size) (hB : Bs < l) : KeepB n₀ Bs W (W.putObj l o') :=
  ⟨(Below.refl n₀ W).grown (grownBy_putObj' W l o') (by omega) (fun j e => by cases e; omega), World.putObj_heap_other (by omega)⟩
/-- The iterator gf yields f 0, .., f (N - 1), where each round goes on and keeps what lay below n₀. -/
def KnownSeq (F : Fence) (n : Nat) (P : Program) (gf : Nat) (lb : Array Value) (f : Nat → Array Value) (N n₀ Bs : Nat) (w : World) : Prop :=
  ∀ (l : Nat) (J : Nat → World → Prop) (W : World), Below w.heap.size w W →
    (∀ k W1, k < N → J k W1 → YieldAt F (n - 1) P l (f k) W1 fun e W' => e = .returned (.bool true) ∧ J (k + 1) W' ∧ KeepB n₀ Bs W1 W') →
    J 0 W → CallsIn F n P gf (#[.func (.yield l) #[] #[]] ++ lb) W fun e W' => (∃ v, e = .returned v) ∧ J N W'
/-- The body is left by its end alone. -/
def knownPost (B n₀ Bs : Nat) (I : Nat → World → Prop) (k : Nat) (W : World) : Exit → Act → World → Prop
  | .normal, _, W' => KeepsFrom B W W' ∧ KeepB n₀ Bs W W' ∧ I k W'
  | .ret, _, _ => False
  | .exit _, _, _ => False
  | .goto _, _, _ => False
  | .panic _, _, _ => False
  | .outgrown, _, _ => False

theorem range_known {F : Fence} {n : Nat} {P : Program} {g : Operand} {ps : Array Tmp} {assign body : Code} {Q : Exit → Act → World → Prop} {a : Act} {w : World} (hro : F.round = none) (h1 : 1 ≤ n)
    {gf : Nat} {lb : Array Value} (hg : a.eval g = .func (.func gf) #[] lb) (hFg : F.fn gf) (eg : ∀ args w, (callFunc gf args).run P w = .ok (.enter gf args) w)
    {f : Nat → Array Value} {N n₀ Bs : Nat} (hn₀ : n₀ ≤ w.heap.size) (hBs : Bs < w.heap.size) (hseq : KnownSeq F (n - 1) P gf lb f N n₀ Bs w) (hps : ∀ k, (f k).size = ps.size)
    (I : Nat → World → Prop) (hI : OwnFrom w.heap.size I) (h0 : I 0 w) (a₁ : Nat → Act)
    (hassign : ∀ (l k : Nat) (W : World) (K : Act → World → Prop), K (a₁ k) W →
      assign.wpIn (F.inRound l) (n - 1 - 1) P (Exit.then K (fun _ _ _ => False)) { tmps := (ps.zip (f k)).foldl (fun t (p, v) => t.setIfInBounds p v) a.tmps, defers := [] } W)
    (hbody : ∀ (l k : Nat) (W : World), k < N → I k W → body.wpIn (F.inRound l) (n - 1 - 1) P (knownPost w.heap.size n₀ Bs I (k + 1) W) (a₁ k) W)
    (hdone : ∀ (D : Nat) (W : World), w.heap.size ≤ D → I N W → W.heap[D]? = some (.deferred (some [])) → Q .normal { a with defers := { target := .collected D, args := #[] } :: a.defers } W) :
    (Code.rangeFunc g ps assign body).wpIn F n P Q a w := by
  refine wpIn_rangeFunc fun fn hfn => ?_
  obtain ⟨L, hL⟩ : ∃ L : LoopState → Loop, L = fun st => { state := st, pending := none, fn, tmps := a.tmps, params := ps, assign, body, defers := w.heap.size } := ⟨_, rfl⟩
  obtain ⟨B, hB⟩ : ∃ B, w.heap.size = B := ⟨_, rfl⟩
  obtain ⟨W0, hW0⟩ : ∃ W0, (w.alloc (.deferred (some []))).alloc (.loop (L .ready)) = W0 := ⟨_, rfl⟩
  have s0 : w.heap.size < (w.alloc (.deferred (some []))).heap.size := by simp
  have c1 : W0.heap[B + 1]? = some (.loop (L .ready)) := by
    rw [← hW0, ← hB, ← World.size_alloc w (.deferred (some []))]; exact World.alloc_heap_new _ _
  have c2 : W0.heap[B]? = some (.deferred (some [])) := by
    rw [← hW0, ← hB, Below.heap_alloc _ _ _ s0]; exact World.alloc_heap_new w _
  have c3 : I 0 W0 := by rw [← hW0]; exact hI.alloc _ (hI.alloc _ h0)
  have c4 : Below w.heap.size w W0 := by rw [← hW0]; exact ((Below.refl _ w).alloc (Nat.le_refl _) _).alloc (by omega) _
  rw [hB] at hI hbody hdone hn₀ hBs
  have keep : ∀ {k : Nat} {W : World} {o : Obj} (l : Nat) (o' : Obj), I k W → B ≤ l → W.heap[l]? = some o → o.isCells = false → I k (W.putObj l o') := fun l o' hi hl ho hc => hI.putObj o' hi hl ho hc
  refine ⟨B + 1, [{ target := .collected B, args := #[] }], W0, { target := .fn (.func gf) lb, args := #[.func (.yield (B + 1)) #[] #[]] }, W0, gf, #[.func (.yield (B + 1)) #[] #[]] ++ lb, W0, ?_, ?_, ?_, ?_, fun _ => h1, ?_⟩
  · rw [hro, ← hW0, hL, ← hB]; exact run_enterLoop_outer _ _ _ _ _
  · simp only [resolve, hg]
    simp [go_sem]
  · intro f' hf'
    simp [Target.leads] at hf'
    subst hf'
    exact hFg
  · simp [invoke, go_sem, eg]
  · refine (hseq (B + 1) (fun k W => I k W ∧ W.heap[B + 1]? = some (.loop (L .ready)) ∧ W.heap[B]? = some (.deferred (some []))) W0 c4 ?_ ⟨c3, c1, c2⟩).mono ?_
    · rintro k W hk ⟨hi, hl, hd⟩
      have hlt : B + 1 < W.heap.size := (Array.getElem?_eq_some_iff.1 hl).1
      have hy := run_yield (P := P) (args := f k) hl (by rw [hL]; exact hps k)
      have hbeg := run_beginRound (P := P) hl (by rw [hL])
      obtain ⟨X, hX⟩ : ∃ X, W.putObj (B + 1) (.loop { L .ready with state := .busy }) = X := ⟨_, rfl⟩
      rw [hX] at hbeg
      have x1 : X.heap[B + 1]? = some (.loop { L .ready with state := .busy }) := by rw [← hX]; exact World.putObj_heap_same hlt
      have x2 : X.heap[B]? = some (.deferred (some [])) := by rw [← hX]; exact (World.putObj_heap_other (by omega)).trans hd
      have x3 : I k X := by rw [← hX]; exact keep _ _ hi (by omega) hl rfl
      have x4 : KeepB n₀ Bs W X := by rw [← hX]; exact KeepB.put W _ (by omega) hlt (by omega)
      rw [hL] at hy
      refine ⟨fn, _, assign, body, hy, roundIn_of_wpIn hfn (hassign _ k W _ ⟨X, hbeg, wpIn_mono (hbody _ k X hk x3) ?_⟩)⟩
      intro e a3 W3 hp
      cases e with
      | normal =>
        obtain ⟨p1, p2, p3⟩ := hp
        have y1 := p1.same _ _ (by omega) x1 rfl
        have y2 := p1.same _ _ (Nat.le_refl _) x2 rfl
        have hlt3 : B + 1 < W3.heap.size := (Array.getElem?_eq_some_iff.1 y1).1
        have hend := run_endRound (P := P) none y1
        refine ⟨_, _, hend, rfl, ⟨keep _ _ p3 (by omega) y1 rfl, ?_, (World.putObj_heap_other (by omega)).trans y2⟩, x4.trans (p2.trans (KeepB.put W3 _ (by omega) hlt3 (by omega)))⟩
        rw [World.putObj_heap_same hlt3, hL]
        rfl
      | ret => exact hp.elim
      | exit id => exact hp.elim
      | goto t => exact hp.elim
      | panic ch => exact hp.elim
      | outgrown => exact hp.elim
    · rintro e W2 ⟨⟨v, rfl⟩, hi, hl, hd⟩
      have hend := run_endLoop (P := P) hl (by rw [hL]; simp)
      rw [show (L .ready).pending = none from by rw [hL]] at hend
      refine ⟨none, _, hend, hdone B _ (Nat.le_refl _) (keep _ _ hi (by omega) hl rfl) ((World.putObj_heap_other (by omega)).trans hd)⟩

/-- A piece of code that ends in one frame and one world. -/
def midPost (A : Act) (W : World) : Exit → Act → World → Prop
  | .normal, a, w => a = A ∧ w = W
  | .ret, _, _ => False
  | .exit _, _, _ => False
  | .goto _, _, _ => False
  | .panic _, _, _ => False
  | .outgrown, _, _ => False
theorem mid_in {F : Fence} {n : Nat} {P : Program} {c : Code} {Q : Exit → Act → World → Prop} {a A : Act} {w W : World} (h : c.wpIn F n P (midPost A W) a w) (hQ : Q .normal A W) : c.wpIn F n P Q a w := by
  refine wpIn_mono h fun e a' w' hp => ?_
  cases e with
  | normal => obtain ⟨rfl, rfl⟩ := hp; exact hQ
  | ret => exact hp.elim
  | exit id => exact hp.elim
  | goto t => exact hp.elim
  | panic ch => exact hp.elim
  | outgrown => exact hp.elim

end Go.Proofs.YtbchbmelofojkaaGreatDoor

/-
  The turns of a proof in memory: what lies there while they are gathered; what stays; no program in it but types' numbers.
-/
namespace Go.Proofs.YtbchbmelofojkaaGreatDoor
open Go.RowKit
set_option linter.unusedVariables false

theorem keepsFrom_below {B : Nat} {W W' : World} (h : Below W.heap.size W W') : KeepsFrom B W W' := ⟨h.size, fun k o _ hk _ => (h.block k (Array.getElem?_eq_some_iff.1 hk).1).trans hk⟩
theorem KeepB.set {n₀ Bs : Nat} (W : World) (b : Nat) (v : Value) (hn : n₀ ≤ b) (hB : Bs ≠ b) : KeepB n₀ Bs W (W.setCell ⟨b, 0, none⟩ v) := ⟨(Below.refl n₀ W).setCell (p := ⟨b, 0, none⟩) hn _, Below.heap_setCell _ _ _ _ hB⟩
theorem KeepB.grown {n₀ Bs R : Nat} {W W' : World} (h : W.grownBy W' (some R)) (hn : n₀ ≤ R) (hs : n₀ ≤ W.heap.size) (hB : Bs < W.heap.size) (hR : Bs ≠ R) : KeepB n₀ Bs W W' := ⟨(Below.refl n₀ W).grown h hs (fun j e => by cases e; exact hn), h.block Bs hB (fun e => hR (by cases e; rfl))⟩
/-- The four cells of turn j. -/
def tvals (c : CQ) (bd od cd : Nat) (D : Nat → Int) (Z : Nat → Option Addr) (CZ : Nat → Nat) (j : Nat) : List Value :=
  [.int .i64 ((c.layers.length : Int) - 1 - (j : Int)), .slice (Z j) ((partsQ c).lg j) (CZ j), .slice (some ⟨bd, od + (partsQ c).at j, none⟩) (2 * (partsQ c).lg (j + 1)) (cd - (partsQ c).at j), .int .u64 ((partsQ c).tau D j)]
def tcells (c : CQ) (bd od cd : Nat) (D : Nat → Int) (Z : Nat → Option Addr) (CZ : Nat → Nat) (m : Nat) : List Value := (List.range m).flatMap (tvals c bd od cd D Z CZ)
theorem tcells_succ (c : CQ) (bd od cd : Nat) (D : Nat → Int) (Z : Nat → Option Addr) (CZ : Nat → Nat) (m : Nat) : tcells c bd od cd D Z CZ (m + 1) = tcells c bd od cd D Z CZ m ++ tvals c bd od cd D Z CZ m := by
  simp [tcells, List.range_succ]
theorem tcells_len (c : CQ) (bd od cd : Nat) (D : Nat → Int) (Z : Nat → Option Addr) (CZ : Nat → Nat) (m : Nat) : (tcells c bd od cd D Z CZ m).length = m * 4 := by
  induction m with
  | zero => rfl
  | succ m ih => rw [tcells_succ, List.length_append, ih]; simp [tvals]; omega
theorem tcells_at (c : CQ) (bd od cd : Nat) (D : Nat → Int) (Z : Nat → Option Addr) (CZ : Nat → Nat) (m j r : Nat) (hj : j < m) (hr : r < 4) : (tcells c bd od cd D Z CZ m)[j * 4 + r]? = (tvals c bd od cd D Z CZ j)[r]? := by
  induction m with
  | zero => omega
  | succ m ih =>
    rw [tcells_succ]
    by_cases e : j < m
    · rw [List.getElem?_append_left (by rw [tcells_len]; omega), ih e]
    · have e2 : j = m := by omega
      subst e2
      rw [List.getElem?_append_right (by rw [tcells_len]; omega), tcells_len, show j * 4 + r - j * 4 = r from by omega]
theorem tcells_congr (c : CQ) (bd od cd : Nat) (D : Nat → Int) {Z Z' : Nat → Option Addr} {CZ CZ' : Nat → Nat} (m : Nat) (h1 : ∀ j, j < m → Z j = Z' j) (h2 : ∀ j, j < m → CZ j = CZ' j) : tcells c bd od cd D Z CZ m = tcells c bd od cd D Z' CZ' m := by
  induction m with
  | zero => rfl
  | succ m ih =>
    rw [tcells_succ, tcells_succ, ih (fun j hj => h1 j (by omega)) (fun j hj => h2 j (by omega))]
    unfold tvals
    rw [h1 m (by omega), h2 m (by omega)]
/-- n turns lie in block T. -/
structure TuRow (w : World) (T : Nat) (c : CQ) (bd od cd : Nat) (D : Nat → Int) (Z : Nat → Option Addr) (CZ : Nat → Nat) (n : Nat) : Prop where
  c0 : ∀ j, j < n → w.cell? ⟨T, j * 4, none⟩ = some (.int .i64 ((c.layers.length : Int) - 1 - (j : Int)))
  c1 : ∀ j, j < n → w.cell? ⟨T, j * 4 + 1, none⟩ = some (.slice (Z j) ((partsQ c).lg j) (CZ j))
  c2 : ∀ j, j < n → w.cell? ⟨T, j * 4 + 2, none⟩ = some (.slice (some ⟨bd, od + (partsQ c).at j, none⟩) (2 * (partsQ c).lg (j + 1)) (cd - (partsQ c).at j))
  c3 : ∀ j, j < n → w.cell? ⟨T, j * 4 + 3, none⟩ = some (.int .u64 ((partsQ c).tau D j))
  zrow : ∀ j, j < n → PRow w (Z j) ((partsQ c).lg j) (zQ (partsQ c) D j)
theorem TuRow.kept {w w' : World} {T : Nat} {c : CQ} {bd od cd : Nat} {D : Nat → Int} {Z : Nat → Option Addr} {CZ : Nat → Nat} {n : Nat} (h : TuRow w T c bd od cd D Z CZ n) (hb : Below w.heap.size w w') : TuRow w' T c bd od cd D Z CZ n :=
  ⟨fun j hj => (hb.cell (World.block_lt_of_cell? w _ (h.c0 j hj))).trans (h.c0 j hj), fun j hj => (hb.cell (World.block_lt_of_cell? w _ (h.c1 j hj))).trans (h.c1 j hj), fun j hj => (hb.cell (World.block_lt_of_cell? w _ (h.c2 j hj))).trans (h.c2 j hj), fun j hj => (hb.cell (World.block_lt_of_cell? w _ (h.c3 j hj))).trans (h.c3 j hj), fun j hj => (h.zrow j hj).kept hb⟩
theorem TuRow.of {w : World} {base T ct : Nat} {c : CQ} {bd od cd : Nat} {D : Nat → Int} {Z : Nat → Option Addr} {CZ : Nat → Nat} {n : Nat} {e : TypeId} (h : w.ownsRow base e 4 (.slice (some ⟨T, 0, none⟩) n ct) n (tcells c bd od cd D Z CZ n)) (hz : ∀ j, j < n → PRow w (Z j) ((partsQ c).lg j) (zQ (partsQ c) D j)) : TuRow w T c bd od cd D Z CZ n :=
  ⟨fun j hj => by have := h.cellAt (j * 4) (by omega); rw [this]; exact tcells_at c bd od cd D Z CZ n j 0 hj (by omega), fun j hj => by rw [h.cellAt (j * 4 + 1) (by omega)]; exact tcells_at c bd od cd D Z CZ n j 1 hj (by omega), fun j hj => by rw [h.cellAt (j * 4 + 2) (by omega)]; exact tcells_at c bd od cd D Z CZ n j 2 hj (by omega), fun j hj => by rw [h.cellAt (j * 4 + 3) (by omega)]; exact tcells_at c bd od cd D Z CZ n j 3 hj (by omega), hz⟩

/-- Cells of numbers don't lie in a box that holds a list. -/
theorem box_ne {W : World} {B b o : Nat} {t : TypeId} {a : Option Addr} {n c : Nat} {q : IntKind} {x : Int} (h : Boxed W B t (.slice a n c)) (hc : W.cell? ⟨b, o, none⟩ = some (.int q x)) : b ≠ B := by
  intro e
  subst e
  have h1 : W.heap[b]? = some (.cells #[.slice a n c] t (0, 0)) := h
  simp only [World.cell?, h1] at hc
  cases o with
  | zero => simp at hc
  | succ o => simp at hc
theorem box_set_cell {W : World} {B b o : Nat} {t : TypeId} {a : Option Addr} {n c : Nat} {q : IntKind} {x : Int} {v : Value} (h : Boxed W B t (.slice a n c)) (hc : W.cell? ⟨b, o, none⟩ = some (.int q x)) : (W.setCell ⟨B, 0, none⟩ v).cell? ⟨b, o, none⟩ = some (.int q x) :=
  (World.cell?_of_block (w := W) (a := ⟨b, o, none⟩) (Below.heap_setCell _ _ _ _ (box_ne h hc))).trans hc
/-- What holds while turns are gathered, k of them being there: the boxes of draws, logs, z and the list; the points so far. -/
structure TuI (c : CQ) (n bd od nd cd : Nat) (D : Nat → Int) (w : World) (X L cl Lb Zb Ab R0 : Nat) (k : Nat) (W : World) (Z : Nat → Option Addr) (CZ : Nat → Nat) (a : Option Addr) : Prop where
  bel : Below w.heap.size w W
  dbox : Boxed W (X + 1) 22 (.slice a (nd - (partsQ c).at k) (cd - (partsQ c).at k))
  deq : (partsQ c).at k < cd → a = some ⟨bd, od + (partsQ c).at k, none⟩
  lbox : Boxed W Lb 45 (.slice (some ⟨L, 0, none⟩) (n + 1) cl)
  lrow : IRow W L 0 (n + 1) (belowQ c)
  zbox : Boxed W Zb 22 (.slice (Z k) ((partsQ c).lg k) (CZ k))
  zrow : ∀ j, j ≤ k → PRow W (Z j) ((partsQ c).lg j) (zQ (partsQ c) D j)
  abox : Boxed W Ab 103 (.slice (some ⟨R0, 0, none⟩) k n)
  arow : W.ownsRow w.heap.size 106 4 (.slice (some ⟨R0, 0, none⟩) k n) k (tcells c bd od cd D Z CZ k)
  lfar : L ≠ R0
  big : Ab + 2 ≤ W.heap.size
  zfar : ∀ j, j ≤ k → ∀ x, Z j = some x → x.block ≠ R0
def TuIn (c : CQ) (n bd od nd cd : Nat) (D : Nat → Int) (w : World) (X L cl Lb Zb Ab R0 : Nat) (k : Nat) (W : World) : Prop := ∃ Z CZ a, TuI c n bd od nd cd D w X L cl Lb Zb Ab R0 k W Z CZ a
/-- It abides the turn of blocks that hold no cells. -/
theorem TuIn.own {c : CQ} {n bd od nd cd : Nat} {D : Nat → Int} {w : World} {X L cl Lb Zb Ab R0 B0 : Nat} (hB : w.heap.size ≤ B0) : OwnFrom B0 (TuIn c n bd od nd cd D w X L cl Lb Zb Ab R0) := by
  rintro k A B row ⟨Z, CZ, a, h⟩ hg hr
  have hr2 : ∀ r, row = some r → ∃ o : Obj, A.heap[r]? = some o ∧ o.isCells = false := fun r e => (hr r e).2
  have bx : ∀ {Bx t v}, Boxed A Bx t v → Boxed B Bx t v := fun {Bx t v} hb => hb.kept hg (fun e => by
    obtain ⟨o, ho, hc⟩ := hr2 Bx e.symm
    rw [show A.heap[Bx]? = _ from hb] at ho; cases ho; cases hc)
  refine ⟨Z, CZ, a, h.bel.grown hg h.bel.size (fun r e => Nat.le_trans hB (hr r e).1), bx h.dbox, h.deq, bx h.lbox, fun j hj => cell_kept (h.lrow j hj) hg hr2, bx h.zbox, fun j hj hn => ?_, bx h.abox, h.arow.kept hg ?_, h.lfar, Nat.le_trans h.big hg.size, h.zfar⟩
  · obtain ⟨b, o, e, hrow⟩ := h.zrow j hj hn
    exact ⟨b, o, e, fun i hi => cell_kept (hrow i hi) hg hr2⟩
  · rcases h.arow.2 with ⟨e, _⟩ | ⟨g, cap, cur, e, _, hgb, _⟩
    · cases e
    · refine .inr fun e' => ?_
      cases e
      obtain ⟨o, ho, hc⟩ := hr2 R0 (by simpa [Value.ownBlock] using e'.symm)
      rw [hgb] at ho; cases ho; cases hc
/-- New blocks change nothing of it. -/
theorem TuI.kept {c : CQ} {n bd od nd cd : Nat} {D : Nat → Int} {w : World} {X L cl Lb Zb Ab R0 k : Nat} {W W' : World} {Z : Nat → Option Addr} {CZ : Nat → Nat} {a : Option Addr} (h : TuI c n bd od nd cd D w X L cl Lb Zb Ab R0 k W Z CZ a) (hb : Below W.heap.size W W') : TuI c n bd od nd cd D w X L cl Lb Zb Ab R0 k W' Z CZ a := by
  have bx : ∀ {Bx t v}, Boxed W Bx t v → Boxed W' Bx t v := fun {Bx t v} hx => (hb.block Bx hx.lt).trans hx
  refine ⟨h.bel.trans (hb.mono h.bel.size), bx h.dbox, h.deq, bx h.lbox, h.lrow.kept hb, bx h.zbox, fun j hj => (h.zrow j hj).kept hb, bx h.abox, ⟨h.arow.1, ?_⟩, h.lfar, Nat.le_trans h.big hb.size, h.zfar⟩
  rcases h.arow.2 with ⟨e, _⟩ | ⟨g, cap, cur, e, hbs, hgb, r⟩
  · cases e
  · exact .inr ⟨g, cap, cur, e, hbs, (hb.block g (Array.getElem?_eq_some_iff.1 hgb).1).trans hgb, r⟩
/-- A turn is appended, and the list is stored. -/
theorem TuI.put {c : CQ} {n bd od nd cd : Nat} {D : Nat → Int} {w : World} {X L cl Lb Zb Ab R0 k : Nat} {W w6 : World} {Z : Nat → Option Addr} {CZ : Nat → Nat} {a : Option Addr} {o : Obj} (h : TuI c n bd od nd cd D w X L cl Lb Zb Ab R0 k W Z CZ a) (hA : w.heap.size ≤ Ab)
    (hown : w6.ownsRow w.heap.size 106 4 (.slice (some ⟨R0, 0, none⟩) (k + 1) n) (k + 1) (tcells c bd od cd D Z CZ k ++ tvals c bd od cd D Z CZ k)) (hg : (W.alloc o).grownBy w6 (some R0)) :
    (w6.cell? ⟨Ab, 0, none⟩ = some (.slice (some ⟨R0, 0, none⟩) k n) ∧ w6.frozen? ⟨Ab, 0, none⟩ = false) ∧
    Below w.heap.size w (w6.setCell ⟨Ab, 0, none⟩ (.slice (some ⟨R0, 0, none⟩) (k + 1) n)) ∧
    Boxed (w6.setCell ⟨Ab, 0, none⟩ (.slice (some ⟨R0, 0, none⟩) (k + 1) n)) (X + 1) 22 (.slice a (nd - (partsQ c).at k) (cd - (partsQ c).at k)) ∧
    Boxed (w6.setCell ⟨Ab, 0, none⟩ (.slice (some ⟨R0, 0, none⟩) (k + 1) n)) Lb 45 (.slice (some ⟨L, 0, none⟩) (n + 1) cl) ∧
    IRow (w6.setCell ⟨Ab, 0, none⟩ (.slice (some ⟨R0, 0, none⟩) (k + 1) n)) L 0 (n + 1) (belowQ c) ∧
    Boxed (w6.setCell ⟨Ab, 0, none⟩ (.slice (some ⟨R0, 0, none⟩) (k + 1) n)) Zb 22 (.slice (Z k) ((partsQ c).lg k) (CZ k)) ∧
    (∀ j, j ≤ k → PRow (w6.setCell ⟨Ab, 0, none⟩ (.slice (some ⟨R0, 0, none⟩) (k + 1) n)) (Z j) ((partsQ c).lg j) (zQ (partsQ c) D j)) ∧
    Boxed (w6.setCell ⟨Ab, 0, none⟩ (.slice (some ⟨R0, 0, none⟩) (k + 1) n)) Ab 103 (.slice (some ⟨R0, 0, none⟩) (k + 1) n) ∧
    (w6.setCell ⟨Ab, 0, none⟩ (.slice (some ⟨R0, 0, none⟩) (k + 1) n)).ownsRow w.heap.size 106 4 (.slice (some ⟨R0, 0, none⟩) (k + 1) n) (k + 1) (tcells c bd od cd D Z CZ (k + 1)) := by
  have hR : ∀ {Bx t v}, Boxed W Bx t v → t ≠ 106 → Bx ≠ R0 := fun {Bx t v} hx ht e => hx.not_row ht h.arow (by rw [e]; rfl)
  have bx6 : ∀ {Bx t v}, Boxed W Bx t v → t ≠ 106 → Boxed w6 Bx t v := fun {Bx t v} hx ht => (hx.alloc o).kept hg (fun e => hR hx ht (by cases e; rfl))
  have a6 := bx6 h.abox (by decide)
  have hRs : w.heap.size ≤ R0 := ((h.arow.lt) R0 rfl).1
  have b6 : Below w.heap.size w w6 := (h.bel.alloc h.bel.size o).grown hg (by have := h.bel.size; simp; omega) (fun j e => by cases e; exact hRs)
  have c6 : ∀ {q : IntKind} {x : Int} (p : Addr), p.block ≠ R0 → W.cell? p = some (.int q x) → w6.cell? p = some (.int q x) := fun {q x} p hp hc => by
    have h1 : (W.alloc o).cell? p = some (.int q x) := by rw [World.cell?_alloc_old _ _ _ (Nat.ne_of_lt (World.block_lt_of_cell? W _ hc))]; exact hc
    exact hg.cell h1 (fun e => hp (by cases e; rfl))
  have ne : ∀ {Bx t v}, Boxed W Bx t v → t ≠ 103 → Bx ≠ Ab := fun {Bx t v} hx ht e => by
    subst e
    have := (show W.heap[Bx]? = _ from hx).symm.trans h.abox
    simp at this
    exact ht this.2
  have st : ∀ {Bx t v}, Boxed W Bx t v → t ≠ 106 → t ≠ 103 → Boxed (w6.setCell ⟨Ab, 0, none⟩ (.slice (some ⟨R0, 0, none⟩) (k + 1) n)) Bx t v := fun {Bx t v} hx h1 h2 => (Below.heap_setCell _ _ _ _ (ne hx h2)).trans (bx6 hx h1)
  refine ⟨⟨a6.cell, a6.frozen⟩, b6.setCell (p := ⟨Ab, 0, none⟩) hA _, st h.dbox (by decide) (by decide), st h.lbox (by decide) (by decide), fun j hj => box_set_cell a6 (c6 ⟨L, 0 + j, none⟩ h.lfar (h.lrow j hj)), st h.zbox (by decide) (by decide), fun j hj hn => ?_, a6.set _, ?_⟩
  · obtain ⟨b, off, e, hrow⟩ := h.zrow j hj hn
    exact ⟨b, off, e, fun i hi => box_set_cell a6 (c6 ⟨b, off + i, none⟩ (show b ≠ R0 from h.zfar j hj _ e) (hrow i hi))⟩
  · rw [tcells_succ]
    exact hown.kept (grownBy_setCell' w6 Ab _) (.inr (fun e => hR h.abox (by decide) (by cases e; rfl)))
/-- The next point is stored, and the draws that are left. -/
theorem TuI.next {c : CQ} {n bd od nd cd : Nat} {D : Nat → Int} {w : World} {X L cl Y k : Nat} {w5 w7 : World} {Z : Nat → Option Addr} {CZ : Nat → Nat} {at' bk k2 rd rc B lk : Nat} {tau : Int} {dv : Value}
    (hput : Below w.heap.size w w5 ∧
      Boxed w5 (X + 1) 22 dv ∧
      Boxed w5 Y 45 (.slice (some ⟨L, 0, none⟩) (n + 1) cl) ∧
      IRow w5 L 0 (n + 1) (belowQ c) ∧
      Boxed w5 (Y + 1) 22 (.slice (Z k) ((partsQ c).lg k) (CZ k)) ∧
      (∀ j, j ≤ k → PRow w5 (Z j) ((partsQ c).lg j) (zQ (partsQ c) D j)) ∧
      Boxed w5 (Y + 1 + 1 + 1) 103 (.slice (some ⟨Y + 1 + 1, 0, none⟩) (k + 1) n) ∧
      w5.ownsRow w.heap.size 106 4 (.slice (some ⟨Y + 1 + 1, 0, none⟩) (k + 1) n) (k + 1) (tcells c bd od cd D Z CZ (k + 1)))
    (hat : (partsQ c).at k = at') (hlk : (partsQ c).lg (k + 1) = bk) (hk2 : 2 * bk = k2) (hrd : nd - at' = rd) (hrc : cd - at' = rc) (htau : D (at' + 2 * bk) = tau) (hX : w.heap.size = X) (hXY : X + 1 < Y)
    (hdv : ∃ a m q, dv = .slice a m q) (hbig : Y + 1 + 1 + 1 + 2 ≤ w5.heap.size) (hL : L ≠ Y + 1 + 1) (hzf : ∀ j, j ≤ k → ∀ x, Z j = some x → x.block ≠ Y + 1 + 1)
    (hB : w5.heap.size ≤ B) (hrow : Row w7 B 0 bk (linQ (fun j => D (at' + j)) (fun j => D (at' + (bk + j))) tau)) (hb7 : Below w5.heap.size w5 w7) :
    TuIn c n bd od nd cd D w X L cl Y (Y + 1) (Y + 1 + 1 + 1) (Y + 1 + 1) (k + 1) ((w7.setCell ⟨Y + 1, 0, none⟩ (.slice (some ⟨B, 0, none⟩) bk bk)).setCell ⟨X + 1, 0, none⟩ (.slice (if rc = k2 + 1 then some ⟨bd, od + at', none⟩ else some ⟨bd, od + at' + (k2 + 1), none⟩) (rd - (k2 + 1)) (rc - (k2 + 1)))) := by
  obtain ⟨p1, p2, p3, p4, p5, p6, p7, p8⟩ := hput
  obtain ⟨da, dm, dq, rfl⟩ := hdv
  have bx : ∀ {Bx t v}, Boxed w5 Bx t v → Boxed w7 Bx t v := fun {Bx t v} hx => (hb7.block Bx hx.lt).trans hx
  have q5 := bx p5
  obtain ⟨w8, hw8⟩ : ∃ x, w7.setCell ⟨Y + 1, 0, none⟩ (.slice (some ⟨B, 0, none⟩) bk bk) = x := ⟨_, rfl⟩
  have st8 : ∀ {Bx t v}, Boxed w7 Bx t v → Bx ≠ Y + 1 → Boxed w8 Bx t v := fun {Bx t v} hx hne => by rw [← hw8]; exact (Below.heap_setCell _ _ _ _ hne).trans hx
  have z8 : Boxed w8 (Y + 1) 22 (.slice (some ⟨B, 0, none⟩) bk bk) := by rw [← hw8]; exact q5.set _
  have d8 : Boxed w8 (X + 1) 22 (.slice da dm dq) := st8 (bx p2) (by omega)
  have c8 : ∀ {b o : Nat} {q : IntKind} {x : Int}, w7.cell? ⟨b, o, none⟩ = some (.int q x) → w8.cell? ⟨b, o, none⟩ = some (.int q x) := fun {b o q x} h => by rw [← hw8]; exact box_set_cell q5 h
  have hs8 : w8.heap.size = w7.heap.size := by rw [← hw8, World.size_setCell]
  have b8 : Below w.heap.size w w8 := by rw [← hw8]; exact (p1.trans (hb7.mono p1.size)).setCell (p := ⟨Y + 1, 0, none⟩) (by show w.heap.size ≤ Y + 1; omega) _
  rw [hw8]
  have hnx : (partsQ c).at (k + 1) = at' + k2 + 1 := by
    show (partsQ c).at k + 2 * (partsQ c).lg (k + 1) + 1 = _
    rw [hat, hlk, hk2]
  have st9 : ∀ {Bx t v} (u : Value), Boxed w8 Bx t v → Bx ≠ X + 1 → Boxed (w8.setCell ⟨X + 1, 0, none⟩ u) Bx t v := fun {Bx t v} u hx hne => (Below.heap_setCell _ _ _ _ hne).trans hx
  have R : ∀ {ao m f} (u : Value), PRow w7 ao m f → PRow (w8.setCell ⟨X + 1, 0, none⟩ u) ao m f := fun {ao m f} u hp hm => by
    obtain ⟨b, o, e, hr⟩ := hp hm
    exact ⟨b, o, e, fun i hi => box_set_cell d8 (c8 (hr i hi))⟩
  refine ⟨fun j => if j = k + 1 then some ⟨B, 0, none⟩ else Z j, fun j => if j = k + 1 then bk else CZ j, if rc = k2 + 1 then some ⟨bd, od + at', none⟩ else some ⟨bd, od + at' + (k2 + 1), none⟩, b8.setCell (p := ⟨X + 1, 0, none⟩) (by show w.heap.size ≤ X + 1; omega) _, ?_, ?_, st9 _ (st8 (bx p3) (by omega)) (by omega), fun j hj => box_set_cell d8 (c8 ((p4.kept hb7) j hj)), ?_, ?_, st9 _ (st8 (bx p7) (by omega)) (by omega), ?_, hL, ?_, ?_⟩
  · rw [hnx, show nd - (at' + k2 + 1) = rd - (k2 + 1) from by omega, show cd - (at' + k2 + 1) = rc - (k2 + 1) from by omega]
    exact d8.set _
  · intro h
    rw [hnx] at h ⊢
    rw [if_neg (by omega), show od + (at' + k2 + 1) = od + at' + (k2 + 1) from by omega]
  · rw [if_pos rfl, if_pos rfl, hlk]
    exact st9 _ z8 (by omega)
  · intro j hj
    by_cases e : j = k + 1
    · subst e
      rw [if_pos rfl, hlk]
      refine R _ ((PRow.of hrow).congr fun i _ => ?_)
      show _ = linQ (fun i => D ((partsQ c).at k + i)) (fun i => D ((partsQ c).at k + (partsQ c).lg (k + 1) + i)) ((partsQ c).tau D k) i
      unfold linQ Parts.tau
      dsimp only
      rw [hat, hlk, htau, Nat.add_assoc]
    · rw [if_neg e]
      exact R _ ((p6 j (by omega)).kept hb7)
  · have e1 : tcells c bd od cd D (fun j => if j = k + 1 then some ⟨B, 0, none⟩ else Z j) (fun j => if j = k + 1 then bk else CZ j) (k + 1) = tcells c bd od cd D Z CZ (k + 1) := tcells_congr c bd od cd D (k + 1) (fun j hj => if_neg (by omega)) (fun j hj => if_neg (by omega))
    rw [e1]
    refine ⟨p8.1, ?_⟩
    rcases p8.2 with ⟨e, _⟩ | ⟨g, cap, cur, e, hbs, hgb, r⟩
    · cases e
    · refine .inr ⟨g, cap, cur, e, hbs, ?_, r⟩
      have hg : g = Y + 1 + 1 := by cases e; rfl
      rw [Below.heap_setCell _ _ _ _ (show g ≠ X + 1 by omega), ← hw8, Below.heap_setCell _ _ _ _ (show g ≠ Y + 1 by omega)]
      exact (hb7.block g (Array.getElem?_eq_some_iff.1 hgb).1).trans hgb
  · rw [World.size_setCell, hs8]; exact Nat.le_trans hbig hb7.size
  · intro j hj x hx
    by_cases e : j = k + 1
    · rw [if_pos e] at hx
      cases hx
      show B ≠ Y + 1 + 1
      omega
    · rw [if_neg e] at hx
      exact hzf j (by omega) x hx

end Go.Proofs.YtbchbmelofojkaaGreatDoor

/-
  The right proof, as it is told, and as it is made in memory: parts that are stored one by one; what stays; no program in it but types' numbers.
-/
namespace Go.Proofs.YtbchbmelofojkaaGreatDoor
open Go.RowKit
set_option linter.unusedVariables false

/-- The right proof. -/
def rightP (c : CQ) (f D : Nat → Int) : PQ where
  n := c.layers.length
  rn := fun j => 2 * (partsQ c).lg (j + 1)
  ln := fun j => (partsQ c).lg (j + 1) + 1
  rl := fun _ _ => 3
  R := ((partsQ c).right (valsK c f) D).R
  L := ((partsQ c).right (valsK c f) D).L
theorem rightP_told (c : CQ) (f D : Nat → Int) : (rightP c f D).told = (partsQ c).right (valsK c f) D := rfl
theorem rightP_shaped (c : CQ) (f D : Nat → Int) : shapedQ c (rightP c f D) := ⟨rfl, fun j _ => ⟨rfl, rfl, fun _ _ => rfl⟩⟩
theorem rightP_nums (c : CQ) (f D : Nat → Int) : (rightP c f D).nums := fun j _ => ⟨fun i _ k => ofK_u64 _, fun k => ofK_u64 _⟩
theorem rd_right {c : CQ} {n i t lk bk : Nat} {l : LQ} (hn : c.layers.length = n) (hi : i + t + 1 = n) (hl : c.layers[i]? = some l) (h1 : (partsQ c).lg t = lk) (h2 : (partsQ c).lg (t + 1) = bk) (f D : Nat → Int) (r p : Nat) :
    rdQ l.gates lk bk (valsQ c f i) (zQ (partsQ c) D t) (fun j => D ((partsQ c).at t + j)) r p = (rightP c f D).R t r p := by
  have hg : gatesQ c (c.layers.length - 1 - t) = l.gates := by rw [hn, show n - 1 - t = i from by omega]; exact gatesQ_at hl
  show _ = ofK (rndK (layF (gM (gatesQ c (c.layers.length - 1 - t))) (gA (gatesQ c (c.layers.length - 1 - t))) (gB (gatesQ c (c.layers.length - 1 - t))) ((partsQ c).lg t) ((partsQ c).lg (t + 1)) (valsK c f (t + 1)) ((partsQ c).z D t)) ((partsQ c).lg (t + 1) + (partsQ c).lg (t + 1)) ((partsQ c).d D t) r (kn p))
  have hv : valsK c f (t + 1) = fun j => kk (valsQ c f i j) := by
    funext g
    unfold valsK
    rw [hn, show n - (t + 1) = i from by omega]
  have hz : (partsQ c).z D t = pK (zQ (partsQ c) D t) := by
    funext j
    exact (kk_zQ (partsQ c) D t j).symm
  rw [hg, h1, h2, hv, hz]
  rfl
theorem ln_right {c : CQ} {n i t bk : Nat} (hn : c.layers.length = n) (hi : i + t + 1 = n) (h2 : (partsQ c).lg (t + 1) = bk) (f D : Nat → Int) (s : Nat) :
    lnGk (valsQ c f i) (fun j => D ((partsQ c).at t + j)) bk s = (rightP c f D).L t s := by
  show _ = ofK (evS (valsK c f (t + 1)) (lineK ((partsQ c).d D t) (fun i => (partsQ c).d D t ((partsQ c).lg (t + 1) + i)) (kn s)) ((partsQ c).lg (t + 1)))
  have hv : valsK c f (t + 1) = fun j => kk (valsQ c f i j) := by
    funext g
    unfold valsK
    rw [hn, show n - (t + 1) = i from by omega]
  rw [h2, hv]
  unfold lnGk
  congr 1
  exact evS_congr _ (fun _ _ => rfl) (fun j _ => by rw [kk_linQ]; rfl)

/-- make([]Part, n). -/
theorem Tryz.infoPt : (Tryz.prog.info? 67).map (fun i => (i.zero, i.size, i.bytes)) = some (some (.agg #[.slice none 0 0, .slice none 0 0]), 2, 48) := by kernel_rfl
theorem run_make_parts (n : Nat) (hn : n ≤ 1000) (w : World) : (Instr.makeSlice 61 (.int .i64 (n : Int)) (.int .i64 (n : Int))).run Tryz.prog w = .ok (.slice (some ⟨w.heap.size, 0, none⟩) n n) (w.alloc (.cells (madeCells #[.slice none 0 0, .slice none 0 0] (n * 2)) 67)) := by
  obtain ⟨i, hi, hz⟩ := Option.map_eq_some_iff.1 Tryz.infoPt
  simp only [Prod.mk.injEq] at hz
  obtain ⟨h1, h2, h3⟩ := hz
  have h := run_make (P := Tryz.prog) w 61 67 i _ Tryz.underlying61 hi h1 .i64 .i64 (n : Int) (n : Int) (by omega) (by omega) (by rw [h3]; omega) (by omega)
  rw [h2] at h
  exact h
theorem made_two (m o : Nat) : (madeCells #[.slice none 0 0, .slice none 0 0] m)[o]? = if o < m then some (.slice none 0 0) else none := by
  by_cases h : o < m
  · rw [if_pos h]
    have : o % 2 = 0 ∨ o % 2 = 1 := by omega
    rcases this with e | e <;> simp [madeCells, h, e]
  · rw [if_neg h]
    simp [madeCells, h]
/-- Prove's own cells: the circuit's, the result's; what was there. -/
structure StV (w W : World) (X : Nat) (g : Int) (v : Value) : Prop where
  st : StQ w W X g v (.slice none 0 0)
  free : W.frozen? ⟨X + 1, 0, none⟩ = false
  low : w.heap.size ≤ X
theorem StV.lt {w W : World} {X : Nat} {g : Int} {v : Value} (h : StV w W X g v) : X + 1 < W.heap.size := World.block_lt_of_cell? W _ h.st.pc
theorem StV.next {w W W' : World} {X : Nat} {g : Int} {v : Value} (h : StV w W X g v) (hb : Below W.heap.size W W') : StV w W' X g v := ⟨h.st.next hb, (hb.frozen h.lt).trans h.free, h.low⟩
theorem StV.start (w : World) (g : Int) (v : Value) (t t' : TypeId) : StV w ((w.alloc (.cells #[.int .i64 g, v] t)).alloc (.cells #[.slice none 0 0] t')) w.heap.size g v := by
  refine ⟨StQ.start w g v _ t t', ?_, Nat.le_refl _⟩
  have e : (w.alloc (.cells #[.int .i64 g, v] t)).heap.size = w.heap.size + 1 := by simp
  rw [← e, World.frozen?_alloc_new]
/-- s1 parts' rounds and s2 parts' lines are stored in block PB, which was made at the end of W1; W is what the turns left. -/
structure PvS (W1 W wr : World) (PB n s1 s2 : Nat) (k R L : Nat → Nat) (a : Nat → Nat → Nat) (F : Nat → Nat → Nat → Int) (G : Nat → Nat → Int) : Prop where
  bel : Below PB W1 wr
  but : ∀ q, q < W.heap.size → q ≠ PB → wr.heap[q]? = W.heap[q]?
  size : W.heap.size ≤ wr.heap.size
  lt : PB < W.heap.size
  c0 : ∀ j, j < n → wr.cell? ⟨PB, j * 2, none⟩ = some (if j < s1 then .slice (some ⟨R j, 0, none⟩) (2 * k j) (2 * k j) else .slice none 0 0)
  c1 : ∀ j, j < n → wr.cell? ⟨PB, j * 2 + 1, none⟩ = some (if j < s2 then .slice (some ⟨L j, 0, none⟩) (k j + 1) (k j + 1) else .slice none 0 0)
  free : ∀ j, wr.frozen? ⟨PB, j, none⟩ = false
  rows : ∀ j, j < s1 → Grid wr (R j) (2 * k j) 3 (a j) (F j) (PB + 1)
  line : ∀ j, j < s2 → Row wr (L j) 0 (k j + 1) (G j) ∧ PB < L j ∧ L j < wr.heap.size ∧ Free wr (L j) 0 (k j + 1)
/-- The parts' block as it was made. -/
def PB0 (W : World) (PB n : Nat) : Prop := ∃ t, W.heap[PB]? = some (.cells (madeCells #[.slice none 0 0, .slice none 0 0] (n * 2)) t (0, 0))
theorem PB0.not {W : World} {PB n b o : Nat} {q : IntKind} {x : Int} (h : PB0 W PB n) (hc : W.cell? ⟨b, o, none⟩ = some (.int q x)) : b ≠ PB := by
  intro e
  subst e
  obtain ⟨t, h1⟩ := h
  simp only [World.cell?, h1, made_two] at hc
  split at hc <;> simp at hc
theorem PvS.start {W1 W : World} {n : Nat} {t : TypeId} (hb : Below (W1.alloc (.cells (madeCells #[.slice none 0 0, .slice none 0 0] (n * 2)) t)).heap.size (W1.alloc (.cells (madeCells #[.slice none 0 0, .slice none 0 0] (n * 2)) t)) W) (k R L : Nat → Nat) (a : Nat → Nat → Nat) (F : Nat → Nat → Nat → Int) (G : Nat → Nat → Int) :
    PvS W1 W W W1.heap.size n 0 0 k R L a F G ∧ PB0 W W1.heap.size n := by
  have hlt : W1.heap.size < (W1.alloc (.cells (madeCells #[.slice none 0 0, .slice none 0 0] (n * 2)) t)).heap.size := by simp
  have hal := (Below.refl W1.heap.size W1).alloc (Nat.le_refl _) (.cells (madeCells #[.slice none 0 0, .slice none 0 0] (n * 2)) t)
  have hc : ∀ o, o < n * 2 → W.cell? ⟨W1.heap.size, o, none⟩ = some (.slice none 0 0) := fun o ho => by
    rw [hb.cell hlt, World.cell?_alloc_new, made_two, if_pos ho]
  refine ⟨⟨hal.trans (hb.mono hal.size), fun q _ _ => rfl, Nat.le_refl _, Nat.lt_of_lt_of_le hlt hb.size, fun j hj => ?_, fun j hj => ?_, fun j => ?_, fun j hj => absurd hj (by omega), fun j hj => absurd hj (by omega)⟩, t, ?_⟩
  · rw [hc _ (by omega), if_neg (by omega)]
  · rw [hc _ (by omega), if_neg (by omega)]
  · rw [hb.frozen hlt, World.frozen?_alloc_new]
  · rw [hb.block _ hlt]
    exact World.alloc_heap_new W1 _
theorem PvS.kept {W1 W wr wr' : World} {PB n s1 s2 : Nat} {k R L : Nat → Nat} {a : Nat → Nat → Nat} {F : Nat → Nat → Nat → Int} {G : Nat → Nat → Int} (h : PvS W1 W wr PB n s1 s2 k R L a F G) (hb : Below wr.heap.size wr wr') : PvS W1 W wr' PB n s1 s2 k R L a F G := by
  have hlt := Nat.lt_of_lt_of_le h.lt h.size
  exact ⟨h.bel.trans (hb.mono (Nat.le_of_lt hlt)), fun q h1 h2 => (hb.block q (Nat.lt_of_lt_of_le h1 h.size)).trans (h.but q h1 h2), Nat.le_trans h.size hb.size, h.lt, fun j hj => (hb.cell hlt).trans (h.c0 j hj), fun j hj => (hb.cell hlt).trans (h.c1 j hj), fun j => (hb.frozen hlt).trans (h.free j), fun j hj => (h.rows j hj).kept hb, fun j hj => ⟨(h.line j hj).1.kept hb (h.line j hj).2.2.1, (h.line j hj).2.1, Nat.lt_of_lt_of_le (h.line j hj).2.2.1 hb.size, (h.line j hj).2.2.2.kept hb (h.line j hj).2.2.1⟩⟩
/-- A store into the parts' block leaves lists of lists elsewhere. -/
theorem Grid.far {w : World} {R n N : Nat} {a : Nat → Nat} {F : Nat → Nat → Int} {base : Nat} (h : Grid w R n N a F base) {PB o : Nat} (v : Value) (hb : PB < base) : Grid (w.setCell ⟨PB, o, none⟩ v) R n N a F base := by
  have far : ∀ (b : Nat), b ≠ PB → (w.setCell ⟨PB, o, none⟩ v).heap[b]? = w.heap[b]? := fun b hb => Below.heap_setCell _ _ _ _ hb
  refine ⟨h.low, by rw [World.size_setCell]; exact h.lt, fun i hi => ?_, fun i hi j hj => ?_, fun i hi j hj => by rw [World.frozen?_setCell]; exact h.may i hi j hj, h.apart, h.own, fun i hi => by rw [World.size_setCell]; exact h.high i hi⟩
  · exact (World.cell?_of_block (w := w) (far R (by have := h.low; omega))).trans (h.cell i hi)
  · exact (World.cell?_of_block (w := w) (far (a i) (by have := (h.high i hi).1; omega))).trans (h.row i hi j hj)
theorem PvS.put0 {W1 W wr : World} {PB n s1 s2 : Nat} {k R L : Nat → Nat} {a : Nat → Nat → Nat} {F : Nat → Nat → Nat → Int} {G : Nat → Nat → Int} (h : PvS W1 W wr PB n s1 s2 k R L a F G) (hs : s1 < n) {R' : Nat} {a' : Nat → Nat} {base : Nat} (hg : Grid wr R' (2 * k s1) 3 a' (F s1) base) (hbase : PB < base) :
    PvS W1 W (wr.setCell ⟨PB, s1 * 2, none⟩ (.slice (some ⟨R', 0, none⟩) (2 * k s1) (2 * k s1))) PB n (s1 + 1) s2 k (fun j => if j = s1 then R' else R j) L (fun j => if j = s1 then a' else a j) F G := by
  have far : ∀ (b : Nat), b ≠ PB → (wr.setCell ⟨PB, s1 * 2, none⟩ (.slice (some ⟨R', 0, none⟩) (2 * k s1) (2 * k s1))).heap[b]? = wr.heap[b]? := fun b hb => Below.heap_setCell _ _ _ _ hb
  refine ⟨h.bel.setCell (Nat.le_refl _) _, fun q h1 h2 => (far q h2).trans (h.but q h1 h2), by rw [World.size_setCell]; exact h.size, h.lt, fun j hj => ?_, fun j hj => ?_, fun j => by rw [World.frozen?_setCell]; exact h.free j, fun j hj => ?_, fun j hj => ?_⟩
  · by_cases e : j = s1
    · subst e
      rw [World.cell?_setCell_same _ _ _ (h.c0 j hj)]
      rw [if_pos (by omega), if_pos rfl]
    · rw [World.cell?_setCell_other _ _ _ _ (by intro e2; simp only [Addr.mk.injEq] at e2; omega), h.c0 j hj]
      rw [if_neg e]
      by_cases e3 : j < s1
      · rw [if_pos e3, if_pos (by omega)]
      · rw [if_neg e3, if_neg (by omega)]
  · rw [World.cell?_setCell_other _ _ _ _ (by intro e2; simp only [Addr.mk.injEq] at e2; omega), h.c1 j hj]
  · by_cases e : j = s1
    · subst e
      rw [if_pos rfl, if_pos rfl]
      exact (hg.base (b2 := PB + 1) hbase).far _ (by omega)
    · rw [if_neg e, if_neg e]
      exact (h.rows j (by omega)).far _ (by omega)
  · obtain ⟨h1, h2, h3, h4⟩ := h.line j hj
    exact ⟨fun q hq => (World.cell?_of_block (w := wr) (far (L j) (by omega))).trans (h1 q hq), h2, by rw [World.size_setCell]; exact h3, fun q hq => by rw [World.frozen?_setCell]; exact h4 q hq⟩
theorem PvS.put1 {W1 W wr : World} {PB n s1 s2 : Nat} {k R L : Nat → Nat} {a : Nat → Nat → Nat} {F : Nat → Nat → Nat → Int} {G : Nat → Nat → Int} (h : PvS W1 W wr PB n s1 s2 k R L a F G) (hs : s2 < n) {L' : Nat} (hr : Row wr L' 0 (k s2 + 1) (G s2)) (hl : PB < L') (hl2 : L' < wr.heap.size) (hf : Free wr L' 0 (k s2 + 1)) :
    PvS W1 W (wr.setCell ⟨PB, s2 * 2 + 1, none⟩ (.slice (some ⟨L', 0, none⟩) (k s2 + 1) (k s2 + 1))) PB n s1 (s2 + 1) k R (fun j => if j = s2 then L' else L j) a F G := by
  have far : ∀ (b : Nat), b ≠ PB → (wr.setCell ⟨PB, s2 * 2 + 1, none⟩ (.slice (some ⟨L', 0, none⟩) (k s2 + 1) (k s2 + 1))).heap[b]? = wr.heap[b]? := fun b hb => Below.heap_setCell _ _ _ _ hb
  refine ⟨h.bel.setCell (Nat.le_refl _) _, fun q h1 h2 => (far q h2).trans (h.but q h1 h2), by rw [World.size_setCell]; exact h.size, h.lt, fun j hj => ?_, fun j hj => ?_, fun j => by rw [World.frozen?_setCell]; exact h.free j, fun j hj => (h.rows j hj).far _ (by omega), fun j hj => ?_⟩
  · rw [World.cell?_setCell_other _ _ _ _ (by intro e2; simp only [Addr.mk.injEq] at e2; omega), h.c0 j hj]
  · by_cases e : j = s2
    · subst e
      rw [World.cell?_setCell_same _ _ _ (h.c1 j hj)]
      rw [if_pos (by omega), if_pos rfl]
    · rw [World.cell?_setCell_other _ _ _ _ (by intro e2; simp only [Addr.mk.injEq] at e2; omega), h.c1 j hj]
      rw [if_neg e]
      by_cases e3 : j < s2
      · rw [if_pos e3, if_pos (by omega)]
      · rw [if_neg e3, if_neg (by omega)]
  · by_cases e : j = s2
    · subst e
      rw [if_pos rfl]
      exact ⟨fun q hq => (World.cell?_of_block (w := wr) (far L' (by omega))).trans (hr q hq), hl, by rw [World.size_setCell]; exact hl2, fun q hq => by rw [World.frozen?_setCell]; exact hf q hq⟩
    · rw [if_neg e]
      obtain ⟨h1, h2, h3, h4⟩ := h.line j (by omega)
      exact ⟨fun q hq => (World.cell?_of_block (w := wr) (far (L j) (by omega))).trans (h1 q hq), h2, by rw [World.size_setCell]; exact h3, fun q hq => by rw [World.frozen?_setCell]; exact h4 q hq⟩
/-- The turns lie where they lay. -/
theorem PvS.turns {W1 W wr : World} {PB n s1 s2 : Nat} {k R L : Nat → Nat} {a : Nat → Nat → Nat} {F : Nat → Nat → Nat → Int} {G : Nat → Nat → Int} (h : PvS W1 W wr PB n s1 s2 k R L a F G) {T : Nat} {c : CQ} {bd od cd : Nat} {D : Nat → Int} {Z : Nat → Option Addr} {CZ : Nat → Nat} (hp : PB0 W PB n) (ht : TuRow W T c bd od cd D Z CZ n) : TuRow wr T c bd od cd D Z CZ n := by
  have cell : ∀ (b o : Nat) (v : Value), b ≠ PB → W.cell? ⟨b, o, none⟩ = some v → wr.cell? ⟨b, o, none⟩ = some v := fun b o v hb hc => (World.cell?_of_block (w := W) (h.but b (World.block_lt_of_cell? W _ hc) hb)).trans hc
  refine ⟨fun j hj => cell _ _ _ (hp.not (ht.c0 j hj)) (ht.c0 j hj), fun j hj => cell _ _ _ (hp.not (ht.c0 j hj)) (ht.c1 j hj), fun j hj => cell _ _ _ (hp.not (ht.c0 j hj)) (ht.c2 j hj), fun j hj => cell _ _ _ (hp.not (ht.c0 j hj)) (ht.c3 j hj), fun j hj hn => ?_⟩
  obtain ⟨b, o, e, hr⟩ := ht.zrow j hj hn
  exact ⟨b, o, e, fun i hi => cell _ _ _ (hp.not (hr i hi)) (hr i hi)⟩
/-- All of its lists were made behind B. -/
def PM.fresh (m : PM) (p : PQ) (B : Nat) : Prop := ∀ j, j < p.n → (∃ q, m.ra j = some ⟨q, 0, none⟩ ∧ B ≤ q) ∧ (∃ q, m.la j = some ⟨q, 0, none⟩ ∧ B ≤ q) ∧ ∀ i, i < p.rn j → ∃ q, m.A j i = some ⟨q, 0, none⟩ ∧ B ≤ q
/-- All of its lists may be written, up to their caps. -/
def PM.may (m : PM) (p : PQ) (W : World) : Prop := ∀ j, j < p.n → (m.lc j = p.ln j ∧ ∀ q, m.la j = some ⟨q, 0, none⟩ → Free W q 0 (p.ln j)) ∧ m.rc j = p.rn j ∧ ∀ i, i < p.rn j → m.C j i = p.rl j i ∧ ∀ q, m.A j i = some ⟨q, 0, none⟩ → Free W q 0 (p.rl j i)
/-- All are stored, and the result told: a proof lies there. -/
theorem PvS.done {W1 W wr : World} {PB n : Nat} {R L : Nat → Nat} {a : Nat → Nat → Nat} {c : CQ} {f D : Nat → Int} (hn : c.layers.length = n) (h : PvS W1 W wr PB n n n (fun j => (partsQ c).lg (j + 1)) R L a (rightP c f D).R (rightP c f D).L) {Q : Nat} (hQ : Q < PB) (v : Value) :
    ∃ m, PfRow (wr.setCell ⟨Q, 0, none⟩ v) (some ⟨PB, 0, none⟩) (rightP c f D) m ∧ m.fresh (rightP c f D) PB ∧ m.may (rightP c f D) (wr.setCell ⟨Q, 0, none⟩ v) := by
  refine ⟨⟨fun j => some ⟨R j, 0, none⟩, fun j => some ⟨L j, 0, none⟩, fun j => 2 * (partsQ c).lg (j + 1), fun j => (partsQ c).lg (j + 1) + 1, fun j i => some ⟨a j i, 0, none⟩, fun _ _ => 3⟩, fun _ => ⟨PB, 0, rfl, fun j hj => ?_⟩, fun j hj => ?_, fun j hj => ?_⟩
  rotate_left
  · have hj' : j < n := by rw [← hn]; exact hj
    have hg := h.rows j hj'
    exact ⟨⟨R j, rfl, by have := hg.low; omega⟩, ⟨L j, rfl, by have := (h.line j hj').2.1; omega⟩, fun i hi => ⟨a j i, rfl, by have := (hg.high i hi).1; omega⟩⟩
  · have hj' : j < n := by rw [← hn]; exact hj
    refine ⟨⟨rfl, fun q e => ?_⟩, rfl, fun i hi => ⟨rfl, fun q e => ?_⟩⟩
    · cases e
      exact fun q hq => by rw [World.frozen?_setCell]; exact (h.line j hj').2.2.2 q hq
    · cases e
      exact fun q hq => by rw [World.frozen?_setCell]; exact (h.rows j hj').may i hi q hq
  have far : ∀ (b : Nat), b ≠ Q → (wr.setCell ⟨Q, 0, none⟩ v).heap[b]? = wr.heap[b]? := fun b hb => Below.heap_setCell _ _ _ _ hb
  have hj' : j < n := by rw [← hn]; exact hj
  have h0 := h.c0 j hj'
  have h1 := h.c1 j hj'
  have hg := (h.rows j hj').far (PB := Q) (o := 0) v (by omega)
  obtain ⟨l1, l2, l3, _⟩ := h.line j hj'
  rw [if_pos hj'] at h0 h1
  rw [Nat.zero_add, Nat.mul_comm 2 j]
  refine ⟨(World.cell?_of_block (w := wr) (far PB (by omega))).trans h0, (World.cell?_of_block (w := wr) (far PB (by omega))).trans h1, fun _ => ⟨R j, 0, rfl, fun i hi => ⟨?_, PRow.of (hg.row i hi)⟩⟩, PRow.of (n := (partsQ c).lg (j + 1) + 1) fun q hq => (World.cell?_of_block (w := wr) (far (L j) (by omega))).trans (l1 q hq)⟩
  rw [Nat.zero_add]
  exact hg.cell i hi

/-- What Prove tells of right things. -/
def proveOut (c : CQ) (f D : Nat → Int) (n : Nat) (w : World) (e : Ending) (w' : World) : Prop := ∃ PB m, e = .returned (.tuple #[.agg #[.slice (some ⟨PB, 0, none⟩) n n], .int .i64 0]) ∧ PfRow w' (some ⟨PB, 0, none⟩) (rightP c f D) m ∧ (w.heap.size ≤ PB ∧ m.fresh (rightP c f D) PB) ∧ Below w.heap.size w w'
/-- And where it may be written. -/
def proveOwn (c : CQ) (f D : Nat → Int) (n : Nat) (w : World) (e : Ending) (w' : World) : Prop := ∃ PB m, e = .returned (.tuple #[.agg #[.slice (some ⟨PB, 0, none⟩) n n], .int .i64 0]) ∧ PfRow w' (some ⟨PB, 0, none⟩) (rightP c f D) m ∧ (w.heap.size ≤ PB ∧ m.fresh (rightP c f D) PB) ∧ m.may (rightP c f D) w' ∧ Below w.heap.size w w'
theorem load_prf {w : World} {b : Nat} {x0 : Value} (c0 : w.cell? ⟨b, 0, none⟩ = some x0) : (loadVar 63 ⟨b, 0, none⟩).run Tryz.prog w = .ok (.agg #[x0]) w := by
  go_simp
theorem results_prf {fn : Func} {p u : Tmp} (h : fn.results = #[.cell p 63, .tmp u]) {tmps : Array Value} {w : World} {b : Nat} {x0 : Value} (hp : tmps.getD p undef = .pointer (some ⟨b, 0, none⟩)) (c0 : w.cell? ⟨b, 0, none⟩ = some x0) :
    (results fn tmps).run Tryz.prog w = .ok (.tuple #[.agg #[x0], tmps.getD u undef]) w := by
  rw [results_cell_tmp h, hp]
  simp [asAddr, Result.andThen, load_prf c0]
/-- The eight cells that the rounds' call reads. -/
abbrev EightC (TB X b o : Nat) (p q r s u v x y : Value) (W : World) : Prop := (W.cell? ⟨TB, 0, none⟩ = some p ∧ W.cell? ⟨TB, 1, none⟩ = some q ∧ W.cell? ⟨TB, 2, none⟩ = some r ∧ W.cell? ⟨TB, 3, none⟩ = some s) ∧ (W.cell? ⟨X, 0, none⟩ = some u ∧ W.cell? ⟨X, 1, none⟩ = some v) ∧ W.cell? ⟨b, o, none⟩ = some x ∧ W.cell? ⟨b, o + 1, none⟩ = some y
theorem EightC.kept {TB X b o : Nat} {p q r s u v x y : Value} {W W' : World} (h : EightC TB X b o p q r s u v x y W) (hb : Below W.heap.size W W') : EightC TB X b o p q r s u v x y W' := by
  have k : ∀ (a : Addr) (z : Value), W.cell? a = some z → W'.cell? a = some z := fun a z hz => (hb.cell (World.block_lt_of_cell? W _ hz)).trans hz
  exact ⟨⟨k _ _ h.1.1, k _ _ h.1.2.1, k _ _ h.1.2.2.1, k _ _ h.1.2.2.2⟩, ⟨k _ _ h.2.1.1, k _ _ h.2.1.2⟩, k _ _ h.2.2.1, k _ _ h.2.2.2⟩
theorem EightC.set {TB X b o : Nat} {p q r s u v x y : Value} {W : World} (h : EightC TB X b o p q r s u v x y W) {PB o' : Nat} (h1 : TB ≠ PB) (h2 : X ≠ PB) (h3 : b ≠ PB) (z : Value) : EightC TB X b o p q r s u v x y (W.setCell ⟨PB, o', none⟩ z) := by
  have k : ∀ (d e : Nat) (y : Value), d ≠ PB → W.cell? ⟨d, e, none⟩ = some y → (W.setCell ⟨PB, o', none⟩ z).cell? ⟨d, e, none⟩ = some y := fun d e y hd hy => by
    rw [World.cell?_setCell_other _ _ _ _ (by intro e2; simp only [Addr.mk.injEq] at e2; omega)]
    exact hy
  exact ⟨⟨k _ _ _ h1 h.1.1, k _ _ _ h1 h.1.2.1, k _ _ _ h1 h.1.2.2.1, k _ _ _ h1 h.1.2.2.2⟩, ⟨k _ _ _ h2 h.2.1.1, k _ _ _ h2 h.2.1.2⟩, k _ _ _ h3 h.2.2.1, k _ _ _ h3 h.2.2.2⟩

end Go.Proofs.YtbchbmelofojkaaGreatDoor

/-
  slices.Backward over a circuit's layers: what its closure yields, round by round; it reads alone.
-/
namespace Go.Proofs.YtbchbmelofojkaaGreatDoor
open Go.RowKit Go.Shelf
set_option linter.unusedVariables false
attribute [local go_sem] Oper.semAt_some

/-- What comes in round k: the place from the end on, and the layer there. -/
def backV (ls : List LQ) (A : Nat → Option Addr) (C : Nat → Nat) (n k : Nat) : Array Value :=
  #[.int .i64 ((n : Int) - 1 - (k : Int)), .agg #[.int .i64 (((ls[n - 1 - k]?).map LQ.log).getD 0), .slice (A (n - 1 - k)) (((ls[n - 1 - k]?).map fun l => l.gates.length).getD 0) (C (n - 1 - k))]]

set_option maxRecDepth 100000 in
set_option maxHeartbeats 2000000 in
theorem back1_in (n1 l Bs n₀ b off n cap : Nat) (ls : List LQ) (A : Nat → Option Addr) (C : Nat → Nat) (hn1 : 1 ≤ n1) (hn : ls.length = n) (n4 : n ≤ 1000) (hb : b < n₀) (J : Nat → World → Prop) (W : World)
    (hY : ∀ k W1, k < n → J k W1 → YieldAt Fence.wide (n1 - 1) Tryz.prog l (backV ls A C n k) W1 fun e W' => e = .returned (.bool true) ∧ J (k + 1) W' ∧ KeepB n₀ Bs W1 W')
    (hBs : W.cell? ⟨Bs, 0, none⟩ = some (.slice (some ⟨b, off, none⟩) n cap)) (hr : CRow W (some ⟨b, off, none⟩) ls A C) (h0 : J 0 W) :
    CallsIn Fence.wide n1 Tryz.prog 116 #[.func (.yield l) #[] #[], .pointer (some ⟨Bs, 0, none⟩)] W fun e W' => (∃ v, e = .returned v) ∧ J n W' := by
  refine callsIn_of_wp Tryz.func116 rfl trivial ?_ rfl
  simp only [Tryz.ntmps116, List.size_toArray, List.length_cons, List.length_nil, Nat.reduceAdd, Nat.reduceSub, Array.replicate_succ, Array.replicate_zero, List.push_toArray, List.append_toArray, List.nil_append, List.cons_append]
  gi_wp2
  gi_loopw [3] (fun i wr => ∃ (k : Nat) (x : Int), k ≤ n ∧ i = .int .i64 x ∧ Hid (x = (n : Int) - 1 - (k : Int)) ∧ Hid (J k wr) ∧ Hid (KeepB n₀ Bs W wr)) (fun i _ => (intOf i + 1).toNat)
  case atStart => exact ⟨0, _, Nat.zero_le _, rfl, hid (by omega), hid h0, hid (KeepB.refl _ _ _)⟩
  case round =>
    obtain ⟨k, x, hk, rfl, HX, HJ, HK⟩ := hrel
    by_cases hlt : k < n
    · obtain ⟨j, hj⟩ : ∃ j : Nat, x = (j : Int) := ⟨n - 1 - k, by rw [HX.out]; omega⟩
      subst hj
      have hjn : n - 1 - k = j := by have := HX.out; omega
      obtain ⟨fn, tmps, assign, body, hy, hR⟩ := hY k wr hlt HJ.out
      obtain ⟨q, hq⟩ : ∃ q, ls[j]? = some q := ⟨ls[j]'(by omega), by simp⟩
      obtain ⟨b', off', eb, hc⟩ := hr (by intro e; rw [e] at hn; simp at hn; omega)
      cases eb
      obtain ⟨y0, y1, _, _⟩ := hc j q hq
      rw [Nat.mul_comm 2 j] at y0 y1
      replace y0 := (HK.out.bel.cell (p := ⟨b, off + j * 2, none⟩) hb).trans y0
      replace y1 := (HK.out.bel.cell (p := ⟨b, off + j * 2 + 1, none⟩) hb).trans y1
      have y2 : wr.cell? ⟨Bs, 0, none⟩ = some (.slice (some ⟨b, off, none⟩) n cap) := (World.cell?_of_block (w := W) (a := ⟨Bs, 0, none⟩) HK.out.blk).trans hBs
      unfold backV at hy
      rw [hjn, hq, ← HX.out] at hy
      dsimp only [Option.map_some, Option.getD_some] at hy
      have j0 : (0 : Int) ≤ (j : Int) := by omega
      have j1 : (j : Int) < (n : Int) := by omega
      clear hc hq hjn
      gi_wp2
      refine hR.mono ?_
      rintro e W3 ⟨rfl, hJ3, hk3⟩
      have HJ3 := hid hJ3
      have HK3 := hid (HK.out.trans hk3)
      clear hJ3 hk3 y0 y1 y2
      gi_wp2
      go_roundw
      case rel => exact ⟨k + 1, _, by omega, rfl, hid (by have := HX.out; omega), HJ3, HK3⟩
      case measure => simp [intOf]
    · have e : k = n := by omega
      have hx : x = -1 := by rw [HX.out]; omega
      subst e
      subst hx
      gi_wp2
      go_end0
      exact ⟨⟨_, rfl⟩, HJ.out⟩

/-- The closure, as the law of such loops takes it. -/
theorem back_seq (n1 Bs n₀ b off n cap : Nat) (ls : List LQ) (A : Nat → Option Addr) (C : Nat → Nat) (w : World) (hn1 : 1 ≤ n1) (hn : ls.length = n) (n4 : n ≤ 1000) (hb : b < n₀) (hbw : b < w.heap.size)
    (hBs : w.cell? ⟨Bs, 0, none⟩ = some (.slice (some ⟨b, off, none⟩) n cap)) (hr : CRow w (some ⟨b, off, none⟩) ls A C) :
    KnownSeq Fence.wide n1 Tryz.prog 116 #[.pointer (some ⟨Bs, 0, none⟩)] (backV ls A C n) n n₀ Bs w := fun l J W hW hY h0 =>
  back1_in n1 l Bs n₀ b off n cap ls A C hn1 hn n4 hb J W hY ((hW.cell (World.block_lt_of_cell? w _ hBs)).trans hBs) (hr.kept hW) h0

set_option maxHeartbeats 1000000 in
/-- slices.Backward: the list is boxed; the function captures the box. -/
theorem back_any (a : Option Addr) (n cap : Nat) (w : World) :
    Calls Tryz.prog 89 #[.slice a n cap] w fun e w' => e = .returned (.func (.func 116) #[] #[.pointer (some ⟨w.heap.size, 0, none⟩)]) ∧ w' = w.alloc (.cells #[.slice a n cap] 23) := by
  go_enter Tryz.func89, Tryz.ntmps89
  go_wp2_with fail
  go_ret
  exact ⟨rfl, rfl⟩

end Go.Proofs.YtbchbmelofojkaaGreatDoor

/-
  A region that draws its order, in a round of a loop over a function: what holds of it outside a round holds in it, where none of its operations defers. Of every program; nothing of this one in it.
-/
namespace Go.Proofs.YtbchbmelofojkaaGreatDoor
open Go.RowKit
set_option linter.unusedVariables false

/-- None of the operations defers. -/
def plainB (ops : Array Oper) : Bool := ops.all fun o => match o.op with | .defer _ => false | _ => true
theorem plainB_at {ops : Array Oper} (h : plainB ops = true) {i : Nat} {o : Oper} (ho : ops[i]? = some o) : ∀ c, o.op ≠ .defer c := by
  intro c e
  obtain ⟨hi, ho2⟩ := Array.getElem?_eq_some_iff.1 ho
  have := Array.all_eq_true.1 h i hi
  rw [ho2] at this
  simp only [e] at this
  cases this
theorem oper_round {P : Program} {o : Oper} {a : Act} {w : World} {K : Act → World → Prop} {Q : Exit → Act → World → Prop} (l n : Nat) (hd : ∀ c, o.op ≠ .defer c) (h : o.wp P a w K Q) : o.wpIn (Fence.wide.inRound l) n P a w K Q := by
  unfold Oper.wp at h
  unfold Oper.wpIn
  refine ⟨fun _ _ => trivial, ?_⟩
  rw [Oper.semAt_plain (Fence.wide.inRound l) _ _ hd]
  generalize (execOp a.eval o).run P w = r at h ⊢
  cases r with
  | ok x w' =>
    cases x with
    | enter f args => exact ⟨fun e => (by cases e), CallsIn.inRound l (callsIn_wide.2 h)⟩
    | row row args => exact ⟨fun e => (by cases e), fun c cs _ => let ⟨v, w', r, s⟩ := h c cs; ⟨v, w', r, stepsIn_wide.2 s⟩⟩
    | round l' f tmps assign body => exact h.elim
    | _ => exact h
  | halt x w' => cases x <;> exact h
theorem op_round {P : Program} {ops : Array Oper} {Q : Exit → Act → World → Prop} (l n : Nat) (hp : plainB ops = true) (hQ : ¬ LetsOut Q) {i : Nat} {a : Act} {w : World} {K K' : Act → World → Prop} (hK : ∀ a w, K a w → K' a w) (h : wpOp P ops Q i K a w) : wpOpIn (Fence.wide.inRound l) n P ops Q i K' a w := by
  unfold wpOp at h
  unfold wpOpIn
  cases ho : ops[i]? with
  | none => rw [ho] at h; exact hK _ _ h
  | some o =>
    rw [ho] at h
    dsimp only at h ⊢
    by_cases hw : Region.wanted o (yielded ops a.tmps) = true
    · rw [if_pos hw] at h ⊢
      rcases h with h | h
      · exact Oper.wpIn_mono hK (oper_round l n (plainB_at hp ho) h)
      · exact absurd h.2 hQ
    · rw [if_neg hw] at h ⊢
      exact ⟨fun _ _ => trivial, hK _ _ h⟩
theorem any_round {P : Program} {md : Region.Mode} {ops : Array Oper} {Q : Exit → Act → World → Prop} (l n : Nat) (hp : plainB ops = true) (hQ : ¬ LetsOut Q) : ∀ (fuel : Nat) (listed : Array Bool) (a : Act) (w : World), wpAny P md ops Q fuel listed a w → wpAnyIn (Fence.wide.inRound l) n P md ops Q fuel listed a w := by
  intro fuel
  induction fuel with
  | zero => exact fun listed a w h => h
  | succ fuel ih => exact fun listed a w h => ⟨h.1, fun i hi => op_round l n hp hQ (fun a w h => ih _ a w h) (h.2 i hi)⟩
theorem held_round {P : Program} {id l n : Nat} {ops : Array Oper} {Q : Exit → Act → World → Prop} {a : Act} {w : World} (S : World → Prop) (hm : P.follows .mixedOrders = true) (hp : plainB ops = true) (hQ : ¬ LetsOut Q) (hS : S w.drew) (h : S w.drew → wpAnyH P .any ops Q S ops.size (Array.replicate ops.size false) a w.drew) : (Code.region id ops true).wpIn (Fence.wide.inRound l) n P Q a w :=
  wpIn_region_any hm (any_round l n hp hQ _ _ _ _ (wpAny_of_held _ _ _ _ (h hS)))
theorem mid_no (A : Act) (W : World) : ¬ LetsOut (midPost A W) := fun ⟨_, _, h⟩ => h
theorem mid_round {P : Program} {id l n : Nat} {ops : Array Oper} {Q : Exit → Act → World → Prop} {a A : Act} {w W : World} (S : World → Prop) (hm : P.follows .mixedOrders = true) (hp : plainB ops = true) (hS : S w.drew) (h : S w.drew → wpAnyH P .any ops (midPost A W) S ops.size (Array.replicate ops.size false) a w.drew) (hQ : Q .normal A W) : (Code.region id ops true).wpIn (Fence.wide.inRound l) n P Q a w :=
  mid_in (held_round S hm hp (mid_no A W) hS h) hQ

end Go.Proofs.YtbchbmelofojkaaGreatDoor
