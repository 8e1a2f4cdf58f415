/-
  Contracts of package sponge's functions, each for every input: they answer what the functions of the text Spong tell; a method turns the sponge's own block, New and Pair write nothing that was there.
-/
import Derived.Test.YtmjpcmeinlkfbaaDoorChecked
import Derived.Test.YtmjpcmeinlkfbaaDoorSpong
import Derived.Test.YtmjpcmeinlkfbaaDoorOwn
import Derived.Test.YtmjpcmeinlkfbaaDoorField
import Derived.WalkKit
import Derived.Deep.LoopGhost
import Derived.Deep.Light
import Derived.Deep.OwnRows
import Derived.Deep.DrawnRows
namespace Go.Proofs.YtmjpcmeinlkfbaaDoor
open Go.RowKit
set_option linter.unusedVariables false
attribute [local go_sem ↓] Go.wp_at_zero Go.wp_at_succ

theorem pow17_any (a : Int) (w : World) (h0 : 0 ≤ a) (h1 : a ≤ 18446744073709551615) :
    Calls Tryd.prog 108 #[.int .u64 a, .int .u64 17] w fun e w' => e = .returned (.int .u64 (ofK (p17 (kk a)))) ∧ w' = w := by
  have h := pow_any a 17 w h0 h1 (by omega) (by omega)
  rw [show (17 : Int).toNat = 17 from rfl, p17_powQ] at h
  exact h
/-- Three stores, one behind the other. -/
theorem row3 {w : World} {b : Nat} {f : Nat → Int} (hr : Row w b 0 3 f) (hf : Free w b 0 3) (x y z : Int) :
    Turned b w (((w.setCell ⟨b, 0, none⟩ (.int .u64 x)).setCell ⟨b, 1, none⟩ (.int .u64 y)).setCell ⟨b, 2, none⟩ (.int .u64 z)) ∧
    Row (((w.setCell ⟨b, 0, none⟩ (.int .u64 x)).setCell ⟨b, 1, none⟩ (.int .u64 y)).setCell ⟨b, 2, none⟩ (.int .u64 z)) b 0 3 (set3 x y z) ∧
    Free (((w.setCell ⟨b, 0, none⟩ (.int .u64 x)).setCell ⟨b, 1, none⟩ (.int .u64 y)).setCell ⟨b, 2, none⟩ (.int .u64 z)) b 0 3 := by
  have h0 := hr.store 0 x (by omega)
  have h1 := h0.store 1 y (by omega)
  have h2 := h1.store 2 z (by omega)
  rw [Nat.zero_add] at h0 h1 h2
  rw [Nat.zero_add] at h1 h2
  rw [Nat.zero_add] at h2
  refine ⟨(((Turned.refl b w).setCell _ _).setCell _ _).setCell _ _, h2.congr fun j hj => ?_, fun j hj => by rw [World.frozen?_setCell, World.frozen?_setCell, World.frozen?_setCell]; exact hf j hj⟩
  match j, hj with
  | 0, _ => rfl
  | 1, _ => rfl
  | 2, _ => rfl
theorem pow_val (f : Nat → Int) (i j m : Nat) (hm : m = i * (j + 1)) : p17 (kk (addQ (f j) (m : Int))) = powK i (fun k => kk (f k)) j := by
  unfold powK; rw [kk_addQ, hm]; rfl
theorem turn_vals (i : Nat) (g : Nat → K) (j : Nat) (hj : j < 3) : set3 (addQ (addQ (addQ (ofK (powK i g 0)) (ofK (powK i g 1))) (ofK (powK i g 2))) (ofK (powK i g 0))) (addQ (addQ (addQ (ofK (powK i g 0)) (ofK (powK i g 1))) (ofK (powK i g 2))) (ofK (powK i g 1))) (addQ (addQ (addQ (ofK (powK i g 0)) (ofK (powK i g 1))) (ofK (powK i g 2))) (ofK (powK i g 2))) j = numsK (turnK i g) j := by
  unfold numsK turnK
  match j, hj with
  | 0, _ => show addQ _ _ = _; rw [addQ_ofK, kk_addQ, kk_addQ, kk_ofK, kk_ofK, kk_ofK]; congr 1; grind
  | 1, _ => show addQ _ _ = _; rw [addQ_ofK, kk_addQ, kk_addQ, kk_ofK, kk_ofK, kk_ofK]; congr 1; grind
  | 2, _ => show addQ _ _ = _; rw [addQ_ofK, kk_addQ, kk_addQ, kk_ofK, kk_ofK, kk_ofK]; congr 1; grind

set_option maxHeartbeats 400000 in
set_option maxRecDepth 100000 in
theorem turn_any (b i : Nat) (f : Nat → Int) (w : World) (hi : i ≤ 8) (hr : Row w b 0 3 f) (hf : Free w b 0 3) (hv : Nums f) :
    Calls Tryd.prog 103 #[.pointer (some ⟨b, 0, none⟩), .int .u64 (i : Int)] w fun e w' => e = .returned (.tuple #[]) ∧ Turned b w w' ∧ Row w' b 0 3 (numsK (turnK i fun k => kk (f k))) ∧ Free w' b 0 3 := by
  have c0 := hr 0 (by omega)
  have c1 := hr 1 (by omega)
  have c2 := hr 2 (by omega)
  have f0 := hf 0 (by omega)
  have f1 := hf 1 (by omega)
  have f2 := hf 2 (by omega)
  rw [Nat.zero_add] at c0 c1 c2 f0 f1 f2
  have HP0 := hid (pow_val f i 0 i (by omega))
  have HP1 := hid (pow_val f i 1 (2 * i) (by omega))
  have HP2 := hid (pow_val f i 2 (3 * i) (by omega))
  have v0 := hv 0
  have v1 := hv 1
  have v2 := hv 2
  have HR := hid (fun x y z => row3 hr hf x y z)
  have HT := hid (turn_vals i (fun k => kk (f k)))
  have hp0 := HP0.out
  have hp1 := HP1.out
  have hp2 := HP2.out
  have r0 := ofK_rng (powK i (fun k => kk (f k)) 0)
  have r1 := ofK_rng (powK i (fun k => kk (f k)) 1)
  have r2 := ofK_rng (powK i (fun k => kk (f k)) 2)
  obtain ⟨q0, hq0⟩ : ∃ q, powK i (fun k => kk (f k)) 0 = q := ⟨_, rfl⟩
  obtain ⟨q1, hq1⟩ : ∃ q, powK i (fun k => kk (f k)) 1 = q := ⟨_, rfl⟩
  obtain ⟨q2, hq2⟩ : ∃ q, powK i (fun k => kk (f k)) 2 = q := ⟨_, rfl⟩
  rw [hq0] at hp0 r0
  rw [hq1] at hp1 r1
  rw [hq2] at hp2 r2
  have HQ := hid (And.intro hq0 (And.intro hq1 hq2))
  obtain ⟨s0, e0⟩ : ∃ s, f 0 = s := ⟨_, rfl⟩
  obtain ⟨s1, e1⟩ : ∃ s, f 1 = s := ⟨_, rfl⟩
  obtain ⟨s2, e2⟩ : ∃ s, f 2 = s := ⟨_, rfl⟩
  rw [e0] at c0 hp0 v0
  rw [e1] at c1 hp1 v1
  rw [e2] at c2 hp2 v2
  obtain ⟨v00, v01⟩ := v0
  obtain ⟨v10, v11⟩ := v1
  obtain ⟨v20, v21⟩ := v2
  obtain ⟨r00, r01⟩ := r0
  obtain ⟨r10, r11⟩ := r1
  obtain ⟨r20, r21⟩ := r2
  rw [show ((2 * i : Nat) : Int) = 2 * (i : Int) from by omega] at hp1
  rw [show ((3 * i : Nat) : Int) = 3 * (i : Int) from by omega] at hp2
  have HX0 := hid (show ∃ x, addQ s0 (i : Int) = x ∧ 0 ≤ x ∧ x ≤ 2305843009213693950 ∧ p17 (kk x) = q0 from ⟨_, rfl, (addQ_rng _ _).1, (addQ_rng _ _).2, hp0⟩)
  have HX1 := hid (show ∃ x, addQ s1 (2 * (i : Int)) = x ∧ 0 ≤ x ∧ x ≤ 2305843009213693950 ∧ p17 (kk x) = q1 from ⟨_, rfl, (addQ_rng _ _).1, (addQ_rng _ _).2, hp1⟩)
  have HX2 := hid (show ∃ x, addQ s2 (3 * (i : Int)) = x ∧ 0 ≤ x ∧ x ≤ 2305843009213693950 ∧ p17 (kk x) = q2 from ⟨_, rfl, (addQ_rng _ _).1, (addQ_rng _ _).2, hp2⟩)
  clear hr hf hv hp0 hp1 hp2 hq0 hq1 hq2 e0 e1 e2 HP0 HP1 HP2
  obtain ⟨x0, hx0, x00, x01, hk0⟩ := HX0.out
  obtain ⟨x1, hx1, x10, x11, hk1⟩ := HX1.out
  obtain ⟨x2, hx2, x20, x21, hk2⟩ := HX2.out
  have hA0 := fun W => add_any s0 (i : Int) W (by omega) (by omega) (by omega) (by omega)
  have hA1 := fun W => add_any s1 (2 * (i : Int)) W (by omega) (by omega) (by omega) (by omega)
  have hA2 := fun W => add_any s2 (3 * (i : Int)) W (by omega) (by omega) (by omega) (by omega)
  have hB0 := fun W => pow17_any x0 W (by omega) (by omega)
  have hB1 := fun W => pow17_any x1 W (by omega) (by omega)
  have hB2 := fun W => pow17_any x2 W (by omega) (by omega)
  rw [hx0] at hA0
  rw [hx1] at hA1
  rw [hx2] at hA2
  rw [hk0] at hB0
  rw [hk1] at hB1
  rw [hk2] at hB2
  obtain ⟨y0, hy0⟩ : ∃ y, ofK q0 = y := ⟨_, rfl⟩
  obtain ⟨y1, hy1⟩ : ∃ y, ofK q1 = y := ⟨_, rfl⟩
  obtain ⟨y2, hy2⟩ : ∃ y, ofK q2 = y := ⟨_, rfl⟩
  rw [hy0] at hB0 r00 r01
  rw [hy1] at hB1 r10 r11
  rw [hy2] at hB2 r20 r21
  have HA0 := hid hA0
  have HA1 := hid hA1
  have HA2 := hid hA2
  have HB0 := hid hB0
  have HB1 := hid hB1
  have HB2 := hid hB2
  have HY := hid (And.intro hy0 (And.intro hy1 hy2))
  clear HX0 HX1 HX2 hA0 hA1 hA2 hB0 hB1 hB2 hx0 hx1 hx2 hk0 hk1 hk2 hy0 hy1 hy2
  obtain ⟨t0, t1⟩ := addQ_rng y0 y1
  obtain ⟨t2, t3⟩ := addQ_rng (addQ y0 y1) y2
  go_enter Tryd.func103, Tryd.ntmps103
  go_wp2_with fail
  refine (HA0.out _).mono ?_
  rintro e w' ⟨rfl, hw⟩
  obtain rfl := hw.symm
  go_wp2_with fail
  refine (HB0.out _).mono ?_
  rintro e w' ⟨rfl, hw⟩
  obtain rfl := hw.symm
  go_wp2_with fail
  refine (HA1.out _).mono ?_
  rintro e w' ⟨rfl, hw⟩
  obtain rfl := hw.symm
  go_wp2_with fail
  refine (HB1.out _).mono ?_
  rintro e w' ⟨rfl, hw⟩
  obtain rfl := hw.symm
  go_wp2_with fail
  refine (HA2.out _).mono ?_
  rintro e w' ⟨rfl, hw⟩
  obtain rfl := hw.symm
  go_wp2_with fail
  refine (HB2.out _).mono ?_
  rintro e w' ⟨rfl, hw⟩
  obtain rfl := hw.symm
  go_wp2_with (go_at_call 72; refine (add_any _ _ _ (by omega) (by omega) (by omega) (by omega)).mono ?_; rintro e w' ⟨rfl, hw⟩; obtain rfl := hw.symm)
  go_end0
  obtain ⟨rfl, rfl, rfl⟩ := HY.out
  obtain ⟨ht, hr, hf⟩ := HR.out (addQ (addQ (addQ (ofK q0) (ofK q1)) (ofK q2)) (ofK q0)) (addQ (addQ (addQ (ofK q0) (ofK q1)) (ofK q2)) (ofK q1)) (addQ (addQ (addQ (ofK q0) (ofK q1)) (ofK q2)) (ofK q2))
  obtain ⟨rfl, rfl, rfl⟩ := HQ.out
  exact ⟨rfl, ht, hr.congr fun j hj => HT.out j hj, hf⟩

end Go.Proofs.YtmjpcmeinlkfbaaDoor
