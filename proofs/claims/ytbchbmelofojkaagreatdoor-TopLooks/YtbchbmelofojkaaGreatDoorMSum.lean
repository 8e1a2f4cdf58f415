/-
  Several texts in one: MleEv, MleEqC, WirV, SumA, SumB, SumP, CircR, CircR2; each opens with what it holds.
-/
import Derived.Test.YtbchbmelofojkaaGreatDoorMle
import Derived.Test.YtbchbmelofojkaaGreatDoorChecked
import Derived.Test.YtbchbmelofojkaaGreatDoorMulti
import Derived.Test.YtbchbmelofojkaaGreatDoorMem
import Derived.Test.YtbchbmelofojkaaGreatDoorFieldA
import Derived.WalkKit
import Derived.Deep.RegionHeld3
import Derived.Deep.RegionWith
import Derived.Deep.OwnRows
import Derived.Deep.LoopGhost
import Derived.Deep.Light
import Derived.Deep.DrawnRows
import Derived.Test.YtbchbmelofojkaaGreatDoorWirC
import Derived.Deep.QuietTactic
import Derived.Test.YtbchbmelofojkaaGreatDoorOwnL
import Derived.Test.YtbchbmelofojkaaGreatDoorSums
import Derived.Test.YtbchbmelofojkaaGreatDoorCircC
import Derived.Test.YtbchbmelofojkaaGreatDoorTabs
import Derived.Test.YtbchbmelofojkaaGreatDoorCircL
import Derived.Test.YtbchbmelofojkaaGreatDoorOwn
/-
  Contracts of package mle's Fix and Eval, each for every input; they make new rows and write nothing that was there.
-/
namespace Go.Proofs.YtbchbmelofojkaaGreatDoor
open Go.RowKit
set_option linter.unusedVariables false
attribute [local go_sem ↓] Go.wp_at_zero Go.wp_at_succ

set_option maxHeartbeats 1000000 in
theorem fix_ok (b off n h cap : Nat) (f : Nat → Int) (x : Int) (w : World) (hn : n + 1 ≤ 8) (hh : h = 2 ^ n) (ht : Tab w) (hr : Row w b off (2 * h) f) (hv : Nums f) (x0 : 0 ≤ x) (x1 : x ≤ 18446744073709551615) :
    Calls Tryz.prog 13 #[.slice (some ⟨b, off, none⟩) (2 * h) cap, .int .u64 x] w fun e w' => e = .returned (.tuple #[.slice (some ⟨w.heap.size, 0, none⟩) h h, .int .i64 0]) ∧ Made w w' h (fldF f h x) := by
  have h1 : 1 ≤ h := by rw [hh]; exact Nat.one_le_two_pow
  have h2 : h ≤ 1000 := by have := pow_256 (n := n) (by omega); omega
  have HV := hid (vars_ok (some ⟨b, off, none⟩) (n + 1) (2 * h) cap w hn (by rw [Nat.pow_succ, hh, Nat.mul_comm]) ht)
  have HF := hid (fold_any b off h cap f x w h1 h2 hr hv x0 x1)
  clear ht hr hv hh
  have hz : (((n + 1 : Nat) : Int) == 0) = false := beq_eq_false_iff_ne.2 (by omega)
  go_enter Tryz.func13, Tryz.ntmps13
  go_wp2_with (first | (go_at_call 39; refine (HV.out).mono ?_; rintro e w' ⟨rfl, hw⟩; obtain rfl := hw.symm) | (go_at_call 40; refine (HF.out).mono ?_; rintro e w1 ⟨rfl, hm⟩; have HM := hid hm; clear hm))
  go_ret2
  exact ⟨rfl, HM.out⟩

/-- What stands behind k folds. -/
def Folded (f g : Nat → Int) (n k M : Nat) (h : Nat → Int) : Prop := M = 2 ^ (n - k) ∧ Nums h ∧ ∀ j, j < M → kk (h j) = folds (fun j => kk (f j)) n (fun j => kk (g j)) k j
theorem Folded.start {f g : Nat → Int} {n N : Nat} (hN : N = 2 ^ n) (hv : Nums f) : Folded f g n 0 N f := ⟨hN, hv, fun j _ => rfl⟩
theorem Folded.next {f g h : Nat → Int} {n k H : Nat} {x : Int} (hk : k < n) (hf : Folded f g n k (2 * H) h) (hx : g k = x) : Folded f g n (k + 1) H (fldF h H x) := by
  obtain ⟨e, hv, hj⟩ := hf
  have e2 : H = 2 ^ (n - 1 - k) := by
    rw [show n - k = (n - 1 - k) + 1 from by omega, Nat.pow_succ] at e
    omega
  refine ⟨by rw [e2]; congr 1; omega, Nums_fld h H x, fun j hj2 => ?_⟩
  rw [kk_fldF, folds, ← e2, hx]
  unfold foldK
  dsimp only
  rw [hj j (by omega), hj (H + j) (by omega)]
theorem Folded.done {f g h : Nat → Int} {n M : Nat} (hf : Folded f g n n M h) : nrm (h 0) = ofK (evS (fun j => kk (f j)) (fun j => kk (g j)) n) := by
  obtain ⟨e, hv, hj⟩ := hf
  rw [nrm_ofK, hj 0 (by rw [e]; exact Nat.two_pow_pos _), ← evS_end]
theorem half_of {n k M : Nat} (hk : k < n) (h : M = 2 ^ (n - k)) : ∃ H, M = 2 * H ∧ 1 ≤ H := ⟨2 ^ (n - 1 - k), by rw [h, show n - k = (n - 1 - k) + 1 from by omega, Nat.pow_succ]; omega, Nat.one_le_two_pow⟩

set_option maxHeartbeats 4000000 in
set_option maxRecDepth 100000 in
theorem eval_ok (b off n N cap cap2 : Nat) (ao : Option Addr) (f g : Nat → Int) (w : World) (hn : n ≤ 8) (hN : N = 2 ^ n) (ht : Tab w) (hr : Row w b off N f) (hv : Nums f) (hp : PRow w ao n g) (hg : Nums g) :
    Calls Tryz.prog 36 #[.slice (some ⟨b, off, none⟩) N cap, .slice ao n cap2] w fun e w' => e = .returned (.tuple #[.int .u64 (ofK (evS (fun j => kk (f j)) (fun j => kk (g j)) n)), .int .i64 0]) ∧ Below w.heap.size w w' := by
  have hN1 : 1 ≤ N := by rw [hN]; exact Nat.one_le_two_pow
  have hN2 : N ≤ 256 := by rw [hN]; exact pow_256 hn
  have HVA := hid (vars_ok (some ⟨b, off, none⟩) n N cap w hn hN ht)
  have HR := hid hr
  have HG := hid hg
  have HP := hid hp
  have HF0 := hid (Folded.start (g := g) hN hv)
  have HLT := hid (hr.lt hN1)
  clear ht hr hv hp hg hN
  go_enter Tryz.func36, Tryz.ntmps36
  go_wp2_with (go_at_call 39; refine (HVA.out).mono ?_; rintro e w' ⟨rfl, hw⟩; obtain rfl := hw.symm)
  clear HVA
  go_loopg [0, 24] n (fun q t i wr => ∃ (k M bk ok ck : Nat) (h : Nat → Int), k ≤ n ∧ q = n - k ∧ i = .int .i64 (k : Int) ∧ t = .slice (some ⟨bk, ok, none⟩) M ck ∧ 1 ≤ M ∧ M ≤ 256 ∧ Hid (Folded f g n k M h) ∧ Hid (Row wr bk ok M h) ∧ Hid (Below w.heap.size w wr))
  case atStart => exact ⟨0, N, b, off, cap, f, by omega, rfl, rfl, rfl, hN1, hN2, HF0, HR, hid (Below.refl _ _)⟩
  case round =>
    clear HR HF0
    obtain ⟨k, M, bk, ok, ck, h, hk, rfl, rfl, rfl, hM1, hM2, HF, HRk, HB⟩ := hrel
    by_cases hlt : k < n
    · obtain ⟨b2, off2, rfl, hr2⟩ := HP.out (by omega)
      obtain ⟨H, rfl, hH1⟩ := half_of hlt HF.out.1
      have c1 := (hr2.kept HB.out (hr2.lt (by omega))) k hlt
      clear hr2
      obtain ⟨x, hx⟩ : ∃ x, g k = x := ⟨_, rfl⟩
      have bx := HG.out k
      rw [hx] at c1 bx
      obtain ⟨x0, x1⟩ := bx
      have HX := hid hx
      clear hx
      have HFO := hid (fold_any bk ok H ck h x wr hH1 (by omega) HRk.out HF.out.2.1 x0 x1)
      have k0 : (0 : Int) ≤ (k : Int) := by omega
      have k1 : (k : Int) < (n : Int) := by omega
      go_wp2_with (go_at_call 40; refine (HFO.out).mono ?_; rintro e w1 ⟨rfl, hm⟩; have HM := hid hm; clear hm)
      go_roundg (n - (k + 1))
      case measure => go_light; omega
      case rel => exact ⟨k + 1, H, wr.heap.size, 0, H, _, by omega, rfl, by go_num, rfl, hH1, by omega, hid (HF.out.next hlt HX.out), hid HM.out.row, hid (HB.out.trans (HM.out.below.mono HB.out.size))⟩
    · have e : k = n := by omega
      subst e
      have c1 := HRk.out 0 (by omega)
      rw [Nat.add_zero] at c1
      obtain ⟨y, hy⟩ : ∃ y, h 0 = y := ⟨_, rfl⟩
      have by1 := HF.out.2.1 0
      have hd := HF.out.done
      rw [hy] at c1 by1 hd
      obtain ⟨y0, y1⟩ := by1
      have HD := hid hd
      clear hy hd
      have m1 : (0 : Int) < (M : Int) := by omega
      go_wp2_with (go_at_call 48; refine (norm_any _ _ (by omega) (by omega)).mono ?_; rintro e w' ⟨rfl, hw⟩; obtain rfl := hw.symm)
      go_ret2
      exact ⟨by rw [← HD.out]; rfl, HB.out⟩

end Go.Proofs.YtbchbmelofojkaaGreatDoor

/-
  Contracts of package mle's split and Eq, each for every input: the table of a point's weights; nothing that was there is written but the row that split is handed.
-/
namespace Go.Proofs.YtbchbmelofojkaaGreatDoor
open Go.RowKit
set_option linter.unusedVariables false
attribute [local go_sem ↓] Go.wp_at_zero Go.wp_at_succ

/-- What split leaves at c. -/
def splF (f : Nat → Int) (x : Int) (c : Nat) : Int := if c % 2 = 1 then mulQ (f (c / 2)) x else subQ (f (c / 2)) (mulQ (f (c / 2)) x)
/-- The row behind k rounds of split, from the end down. -/
def splM (f : Nat → Int) (x : Int) (m k : Nat) (c : Nat) : Int := if 2 * (m - k) ≤ c then splF f x c else f c
theorem spl_step (f : Nat → Int) (x a : Int) (m k q c : Nat) (hq : q + k + 1 = m) (ha : f q = a) : (if c = 2 * q then subQ a (mulQ a x) else if c = 2 * q + 1 then mulQ a x else splM f x m k c) = splM f x m (k + 1) c := by
  unfold splM splF
  by_cases e : c = 2 * q
  · subst e
    rw [if_pos rfl, if_pos (by omega), if_neg (by omega), show 2 * q / 2 = q from by omega, ha]
  · rw [if_neg e]
    by_cases e2 : c = 2 * q + 1
    · subst e2
      rw [if_pos rfl, if_pos (by omega), if_pos (by omega), show (2 * q + 1) / 2 = q from by omega, ha]
    · rw [if_neg e2]
      by_cases h : 2 * (m - k) ≤ c
      · have h' : 2 * (m - (k + 1)) ≤ c := by omega
        rw [if_pos h, if_pos h']
      · have h' : ¬2 * (m - (k + 1)) ≤ c := by omega
        rw [if_neg h, if_neg h']
theorem splM_end (f : Nat → Int) (x : Int) (m c : Nat) : splM f x m m c = splF f x c := by
  unfold splM; rw [if_pos (by omega)]

set_option maxHeartbeats 2000000 in
set_option maxRecDepth 100000 in
theorem split_any (b off m cap : Nat) (f : Nat → Int) (x : Int) (w : World) (hm : m ≤ 1000) (hr : Row w b off (2 * m) f) (hf : Free w b off (2 * m)) (hv : Nums f) (x0 : 0 ≤ x) (x1 : x ≤ 18446744073709551615) :
    Calls Tryz.prog 41 #[.slice (some ⟨b, off, none⟩) (2 * m) cap, .int .u64 x] w fun e w' => e = .returned (.tuple #[]) ∧ Wrote b off (2 * m) w w' ∧ Row w' b off (2 * m) (splF f x) := by
  have HR := hid hr
  have HF := hid hf
  have HV := hid hv
  clear hr hf hv
  go_enter Tryz.func41, Tryz.ntmps41
  have hd : ((2 * m : Nat) : Int) / 2 = (m : Int) := by omega
  go_wp2_with fail
  go_loopg [4] m (fun g i wr => ∃ (k : Nat) (t : Int), k ≤ m ∧ g = m - k ∧ i = .int .i64 t ∧ Hid (t = (m : Int) - 1 - k) ∧ Hid (Wrote b off (2 * m) w wr) ∧ Hid (Row wr b off (2 * m) (splM f x m k)))
  case atStart => exact ⟨0, _, by omega, rfl, rfl, hid (by omega), hid (Wrote.refl _ _ _ _), hid (HR.out.congr fun j hj => by unfold splM; rw [if_neg (by omega)])⟩
  case round =>
    obtain ⟨k, t, hk, rfl, rfl, HT, HW, HM⟩ := hrel
    by_cases hlt : k < m
    · obtain ⟨q, hq⟩ : ∃ q : Nat, q + k + 1 = m := ⟨m - 1 - k, by omega⟩
      have ht : t = (q : Int) := by have := HT.out; omega
      subst ht
      have HQ := hid hq
      have hqm : q < m := by omega
      have q0 : (0 : Int) ≤ (q : Int) := by omega
      have q1 : (q : Int) < (m : Int) := by omega
      have c1 := HM.out q (by omega)
      have e1 : splM f x m k q = f q := by unfold splM; rw [if_neg (by omega)]
      rw [e1] at c1
      clear hq e1
      obtain ⟨a, ha⟩ : ∃ a, f q = a := ⟨_, rfl⟩
      have ba := HV.out q
      rw [ha] at c1 ba
      obtain ⟨a0, a1⟩ := ba
      have HA := hid ha
      clear ha
      obtain ⟨s0, s1⟩ := mulQ_rng a x
      have c2 := HM.out (2 * q + 1) (by omega)
      have c3 := HM.out (2 * q) (by omega)
      obtain ⟨y2, hy2⟩ : ∃ y, splM f x m k (2 * q + 1) = y := ⟨_, rfl⟩
      obtain ⟨y3, hy3⟩ : ∃ y, splM f x m k (2 * q) = y := ⟨_, rfl⟩
      rw [hy2] at c2
      rw [hy3] at c3
      clear hy2 hy3
      have f2 : wr.frozen? ⟨b, off + (2 * q + 1), none⟩ = false := (HF.out.wrote HW.out) _ (by omega)
      have f3 : wr.frozen? ⟨b, off + 2 * q, none⟩ = false := (HF.out.wrote HW.out) _ (by omega)
      have q2 : (0 : Int) ≤ 2 * (q : Int) + 1 := by omega
      have q3 : 2 * (q : Int) + 1 < ((2 * m : Nat) : Int) := by omega
      have q4 : (0 : Int) ≤ 2 * (q : Int) := by omega
      have q5 : 2 * (q : Int) < ((2 * m : Nat) : Int) := by omega
      have q6 : (q : Int) < ((2 * m : Nat) : Int) := by omega
      go_wp2_with (first | (go_at_call 78; refine (mul_any _ _ _ (by omega) (by omega) (by omega) (by omega)).mono ?_; rintro e w' ⟨rfl, hw⟩; obtain rfl := hw.symm) | (go_at_call 76; refine (sub_any _ _ _ (by omega) (by omega) (by omega) (by omega)).mono ?_; rintro e w' ⟨rfl, hw⟩; obtain rfl := hw.symm))
      go_roundg (m - (k + 1))
      case measure => go_light; omega
      case rel =>
        refine ⟨k + 1, _, by omega, rfl, rfl, hid (by have := HT.out; omega), hid ((HW.out.store (by omega) (by omega) _).store (by omega) (by omega) _), hid (((HM.out.store (2 * q + 1) _ (by omega)).store (2 * q) _ (by omega)).congr fun j _ => ?_)⟩
        exact spl_step f x a m k q j HQ.out HA.out
    · have e : k = m := by omega
      subst e
      have ht : t = -1 := by have := HT.out; omega
      subst ht
      go_wp2_with fail
      go_end0
      exact ⟨rfl, HW.out, HM.out.congr fun j _ => splM_end f x k j⟩

theorem Tryz.infoN : (Tryz.prog.info? 31).map (fun i => (i.zero, i.size, i.bytes)) = some (some (.int .u64 0), 1, 8) := by kernel_rfl
theorem Made.one (w : World) (n : Nat) (t : TypeId) : Made w (w.alloc (.cells ((madeCells #[.int .u64 0] n).setIfInBounds 0 (.int .u64 1)) t)) n (fun j => if j = 0 then 1 else 0) := by
  refine ⟨(Below.refl _ _).alloc (Nat.le_refl _) _, fun j hj => ?_, fun j _ => ?_⟩
  · rw [Nat.zero_add, World.cell?_alloc_new]
    by_cases e : j = 0
    · subst e; simp [madeCells, hj]
    · simp [madeCells, hj, Nat.mod_one, e, Ne.symm e]
  · rw [Nat.zero_add, World.frozen?_alloc_new]
/-- The weights as numbers. -/
def wgt (g : Nat → Int) (n c : Nat) : Int := ofK (eqK (fun j => kk (g j)) n c)
theorem wgt_step (g : Nat → Int) (n c : Nat) : splF (wgt g n) (g n) c = wgt g (n + 1) c := by
  unfold splF wgt
  rw [eqK]
  by_cases h : c % 2 = 1
  · rw [if_pos h, if_pos h, mulQ_ofK, kk_ofK]
  · rw [if_neg h, if_neg h, subQ_ofK, kk_mulQ, kk_ofK]
    congr 1
    grind
theorem wgt_start (g : Nat → Int) (j : Nat) : (if j = 0 then (1 : Int) else 0) = if j < 2 ^ 0 then wgt g 0 j else 0 := by
  rw [Nat.pow_zero]
  by_cases h : j = 0
  · rw [if_pos h, if_pos (by omega)]; rfl
  · rw [if_neg h, if_neg (by omega)]
theorem Nums_wgt (g : Nat → Int) (k : Nat) : Nums (fun j => if j < 2 ^ k then wgt g k j else 0) := fun j => by
  dsimp only
  split
  · exact ofK_u64 _
  · omega
theorem wgt_next (g : Nat → Int) (k M : Nat) (a : Int) (j : Nat) (hM : M = 2 ^ k) (ha : g k = a) :
    (if 0 ≤ j ∧ j < 0 + 2 * M then splF (fun j => if j < 2 ^ k then wgt g k j else 0) a (j - 0) else if j < 2 ^ k then wgt g k j else 0) = if j < 2 ^ (k + 1) then wgt g (k + 1) j else 0 := by
  have e : 2 ^ (k + 1) = 2 * M := by rw [Nat.pow_succ, Nat.mul_comm, hM]
  rw [e, ← hM]
  by_cases h : j < 2 * M
  · rw [if_pos (by omega), if_pos h, ← wgt_step, Nat.sub_zero]
    have h2 : j / 2 < M := by omega
    unfold splF
    dsimp only
    rw [if_pos h2, ha]
  · rw [if_neg (by omega), if_neg (by omega), if_neg h]
theorem pow_le {i n : Nat} (h : i ≤ n) : 2 ^ i ≤ 2 ^ n := Nat.pow_le_pow_right (by omega) h
theorem pow8 {n : Nat} (h : n ≤ 8) : 2 ^ n ≤ 256 := pow_le (n := 8) h

theorem wrap_pow {n N : Nat} (hn : n ≤ 8) (hN : N = 2 ^ n) : wrap64 ((2 : Int) ^ n) = (N : Int) := by
  have h := pow8 hn
  rw [← hN] at h
  rw [show ((2 : Int) ^ n) = (N : Int) from by rw [hN]; simp]
  exact IntWalk.wrap64_in _ (by omega)
theorem wrap_pow2 {n N : Nat} (hn : n ≤ 8) (hN : N = 2 ^ n) : wrap64 (2 * (2 : Int) ^ n) = 2 * (N : Int) := by
  have h := pow8 hn
  rw [← hN] at h
  rw [show ((2 : Int) ^ n) = (N : Int) from by rw [hN]; simp]
  exact IntWalk.wrap64_in _ (by omega)

set_option maxHeartbeats 2000000 in
set_option maxRecDepth 100000 in
theorem eq_ok (b off n cap N : Nat) (g : Nat → Int) (w : World) (hn : n ≤ 8) (hN : N = 2 ^ n) (hr : Row w b off n g) (hv : Nums g) :
    Calls Tryz.prog 14 #[.slice (some ⟨b, off, none⟩) n cap] w fun e w' => e = .returned (.tuple #[.slice (some ⟨w.heap.size, 0, none⟩) N N, .int .i64 0]) ∧ Made w w' N (wgt g n) := by
  have HR := hid hr
  have HV := hid hv
  clear hr hv
  have hp := pow8 hn
  have hw := wrap_pow hn hN
  have hN1 : 1 ≤ N := by rw [hN]; exact Nat.one_le_two_pow
  rw [← hN] at hp
  have HN := hid hN
  clear hN
  have hmk := run_make_row' (P := Tryz.prog) 22 31 (.int .u64 0) 8 Tryz.underlying22 Tryz.infoN rfl .i64 .i64 N (by omega) (by omega)
  have hm0 := Made.start w N 31
  have c0 := hm0.cell 0 hN1
  have f0 := hm0.frozen 0 hN1
  have HM0 := hid (Made.one w N 31)
  clear hm0
  go_enter Tryz.func14, Tryz.ntmps14
  go_wp2_with fail
  clear hmk hw
  go_loopg [18] n (fun q i wr => ∃ k : Nat, k ≤ n ∧ q = n - k ∧ i = .int .i64 (k : Int) ∧ Hid (Made w wr N (fun j => if j < 2 ^ k then wgt g k j else 0)))
  case atStart => exact ⟨0, by omega, rfl, rfl, hid (HM0.out.congr fun j _ => by rw [wgt_start])⟩
  case round =>
    clear HM0 c0 f0
    obtain ⟨k, hk, rfl, rfl, HM⟩ := hrel
    by_cases hlt : k < n
    · have c1 := HM.out.old HR.out k hlt
      obtain ⟨a, ha⟩ : ∃ a, g k = a := ⟨_, rfl⟩
      have ba := HV.out k
      rw [ha] at c1 ba
      obtain ⟨a0, a1⟩ := ba
      have HA := hid ha
      clear ha
      have k0 : (0 : Int) ≤ (k : Int) := by omega
      have k1 : (k : Int) < (n : Int) := by omega
      obtain ⟨M, hM⟩ : ∃ M, M = 2 ^ k := ⟨_, rfl⟩
      have hw := wrap_pow2 (n := k) (by omega) hM
      have hMN : 2 * M ≤ N := by rw [hM, HN.out, Nat.mul_comm, ← Nat.pow_succ]; exact pow_le hlt
      have hMN' : 2 * (M : Int) ≤ (N : Int) := by omega
      have hM0 : (0 : Int) ≤ 2 * (M : Int) := by omega
      have hr2 : Row wr w.heap.size 0 (2 * M) (fun j => if j < 2 ^ k then wgt g k j else 0) := fun j hj => HM.out.row j (by omega)
      have hf2 : Free wr w.heap.size 0 (2 * M) := fun j hj => HM.out.free j (by omega)
      have HS := hid (split_any w.heap.size 0 M N _ a wr (by omega) hr2 hf2 (Nums_wgt g k) a0 a1)
      have HMM := hid hM
      clear hr2 hf2 hM
      go_wp2_with (go_at_call 41; refine (HS.out).mono ?_; rintro e w2 ⟨rfl, hwr, hrw⟩; have HW2 := hid hwr; have HR2 := hid hrw; clear hwr hrw)
      go_roundg (n - (k + 1))
      case measure => go_light; omega
      case rel =>
        have hp := HM.out.row.part (i := 0) (m := 2 * M) HW2.out HR2.out
        exact ⟨k + 1, by omega, rfl, by go_num, hid ((HM.out.wrote HW2.out hp).congr fun j hj => wgt_next g k M a j HMM.out HA.out)⟩
    · have e : k = n := by omega
      subst e
      go_wp2_with fail
      go_ret2
      exact ⟨rfl, HM.out.congr fun j hj => by rw [if_pos (by rw [← HN.out]; exact hj)]⟩

set_option maxHeartbeats 2000000 in
set_option maxRecDepth 100000 in
theorem eq_zero (ao : Option Addr) (cap : Nat) (g : Nat → Int) (w : World) :
    Calls Tryz.prog 14 #[.slice ao 0 cap] w fun e w' => e = .returned (.tuple #[.slice (some ⟨w.heap.size, 0, none⟩) 1 1, .int .i64 0]) ∧ Made w w' 1 (wgt g 0) := by
  have hmk := run_make_row' (P := Tryz.prog) 22 31 (.int .u64 0) 8 Tryz.underlying22 Tryz.infoN rfl .i64 .i64 1 (by omega) (by omega)
  simp only [show ((1 : Nat) : Int) = 1 from rfl] at hmk
  have hm0 := Made.start w 1 31
  have c0 := hm0.cell 0 (by omega)
  have f0 := hm0.frozen 0 (by omega)
  have HM0 := hid (Made.one w 1 31)
  clear hm0
  go_enter Tryz.func14, Tryz.ntmps14
  go_wp2_with fail
  clear hmk
  go_loopg [18] 0 (fun q i wr => q = 0 ∧ i = .int .i64 0 ∧ Hid (Made w wr 1 (fun j => if j = 0 then 1 else 0)))
  case atStart => exact ⟨rfl, rfl, HM0⟩
  case round =>
    obtain ⟨rfl, rfl, HM⟩ := hrel
    go_wp2_with fail
    go_ret2
    exact ⟨rfl, HM.out.congr fun j hj => by rw [show j = 0 from by omega, if_pos rfl]; rfl⟩

set_option maxHeartbeats 400000 in
theorem eq_bad (ao : Option Addr) (n cap : Nat) (w : World) (h : 8 < n) :
    Calls Tryz.prog 14 #[.slice ao n cap] w fun e w' => e = .returned (.tuple #[.slice none 0 0, .int .i64 1]) ∧ w' = w := by
  go_enter Tryz.func14, Tryz.ntmps14
  go_wp2_with fail
  go_ret2
  exact ⟨rfl, rfl⟩

end Go.Proofs.YtbchbmelofojkaaGreatDoor

/-
  Contracts of package wiring's Value and Step, for every circuit, every layer and all points; they make new blocks and write nothing that was there.
-/
namespace Go.Proofs.YtbchbmelofojkaaGreatDoor
open Go.RowKit
set_option linter.unusedVariables false
attribute [local go_sem ↓] Go.wp_at_zero Go.wp_at_succ

theorem eqp_any (ao : Option Addr) (n cap N : Nat) (g : Nat → Int) (w : World) (hn : n ≤ 8) (hN : N = 2 ^ n) (hp : PRow w ao n g) (hv : Nums g) :
    Calls Tryz.prog 14 #[.slice ao n cap] w fun e w' => e = .returned (.tuple #[.slice (some ⟨w.heap.size, 0, none⟩) N N, .int .i64 0]) ∧ Made w w' N (wgt g n) := by
  by_cases h0 : n = 0
  · subst h0
    obtain rfl : N = 1 := hN
    exact eq_zero ao cap g w
  · obtain ⟨b, off, rfl, hr⟩ := hp (by omega)
    exact eq_ok b off n cap N g w hn hN hr hv
/-- The number of a right circuit's layer, as a Log and a length. -/
theorem ask_nums {c : CQ} {k nz nx ny : Nat} {l : LQ} (hc : c.right) (h : askOk c (k : Int) nz nx ny k l) : c.layers[k]? = some l ∧ l.log = (nz : Int) ∧ belowQ c k = (nx : Int) ∧ ny = nx ∧ nz ≤ 4 ∧ nx ≤ 4 ∧ l.gates.length = 2 ^ nz ∧ ∀ q ∈ l.gates, gateOk ((2 ^ nx : Nat) : Int) q := by
  obtain ⟨_, hl, h3, h4, h5⟩ := h
  obtain ⟨r1, r2, r3⟩ := hc.layer k l hl
  obtain ⟨bk, e, b4⟩ := below_rng (k := k) rfl hc.log.1 hc.log.2 fun j _ x hx => hc.layer j x hx
  rw [← h4, Int.toNat_natCast] at r3
  rw [← h3, Int.toNat_natCast] at r2
  exact ⟨hl, h3.symm, h4.symm, by omega, by omega, by omega, r2, r3⟩

set_option maxHeartbeats 2000000 in
set_option maxRecDepth 100000 in
theorem value_any (c : CQ) (g : Int) (ao : Option Addr) (n cap : Nat) (A : Nat → Option Addr) (C : Nat → Nat) (i : Int) (mul : Bool) (az ax ay : Option Addr) (nz cz nx cx ny cy : Nat) (z x y : Nat → Int) (w : World) (hg : c.log = g) (hn : c.layers.length = n) (hr : CRow w ao c.layers A C)
    (pz : PRow w az nz z) (px : PRow w ax nx x) (py : PRow w ay ny y) (vz : Nums z) (vx : Nums x) (vy : Nums y) :
    Calls Tryz.prog 122 #[.agg #[.int .i64 g, .slice ao n cap], .int .i64 i, .bool mul, .slice az nz cz, .slice ax nx cx, .slice ay ny cy] w fun e w' => ∃ v x', e = .returned (.tuple #[.int .u64 v, .int .i64 x']) ∧ askE c i nz nx ny x' ∧ (x' ≠ 0 → v = 0) ∧ (x' = 0 → v = wvlQ c i mul z x y) ∧ Below w.heap.size w w' := by
  have HR := hid hr
  have HG := hid hg
  have HN := hid hn
  have HPZ := hid pz
  have HPX := hid px
  have HPY := hid py
  have HV := hid (And.intro vz (And.intro vx vy))
  have HS0 := hid (StW.start w g (.slice ao n cap) 25)
  clear hr hg hn pz px py vz vx vy
  go_enter Tryz.func122, Tryz.ntmps122
  go_wp2_with fail
  obtain ⟨B, hB⟩ : ∃ B, w.heap.size = B := ⟨_, rfl⟩
  have HS1 : Hid (StW w (w.alloc (.cells #[.int .i64 g, .slice ao n cap] 25)) B g (.slice ao n cap)) := hid (by rw [← hB]; exact HS0.out)
  rw [hB]
  clear hB HS0
  generalize w.alloc (.cells #[.int .i64 g, .slice ao n cap] 25) = W1 at HS1 ⊢
  refine (wchk_any c g ao n cap A C i az ax ay nz cz nx cx ny cy W1 HG.out HN.out (HR.out.kept HS1.out.bel)).mono ?_
  rintro e w1 ⟨x', rfl, hx, hb⟩
  have HX := hid hx
  have HS2 := hid (HS1.out.next hb)
  clear hb hx HS1
  by_cases h0 : x' = 0
  · subst h0
    obtain ⟨hc, k, l, hk⟩ := askE_zero HX.out
    obtain rfl := hk.1
    obtain ⟨hl, hlog, hbel, rfl, z4, x4, hlen, hgo⟩ := ask_nums hc hk
    obtain ⟨b, off, rfl, _⟩ := HR.out hc.some
    have n4 : n ≤ 4 := by have := hc.few; rw [HN.out] at this; exact this
    have hkn : k < n := by obtain ⟨h, _⟩ := List.getElem?_eq_some_iff.1 hl; rw [HN.out] at h; exact h
    have HVQ : Hid (wvlQ c (k : Int) mul z x y = wirQ mul l.gates nz ny z x y) := hid (by rw [wvlQ_at hl, hlog, hbel, Int.toNat_natCast, Int.toNat_natCast])
    have HC := hid hc
    have HL := hid hl
    obtain ⟨N, hN⟩ : ∃ N, N = 2 ^ nz := ⟨_, rfl⟩
    obtain ⟨M, hM⟩ : ∃ M, M = 2 ^ ny := ⟨_, rfl⟩
    rw [← hN] at hlen
    rw [← hM] at hgo
    have N16 : N ≤ 16 := by rw [hN]; exact Nat.le_trans (Nat.pow_le_pow_right (by omega) z4) (by decide)
    have M16 : M ≤ 16 := by rw [hM]; exact Nat.le_trans (Nat.pow_le_pow_right (by omega) x4) (by decide)
    have HNN := hid hN
    have HMM := hid hM
    have HLEN := hid hlen
    have HGO := hid hgo
    clear hc hk hl hlog hbel hlen hgo hN hM
    go_wp2_with fail
    refine (eqp_any az nz cz N z w1 (by omega) HNN.out (HPZ.out.kept HS2.out.bel) HV.out.1).mono ?_
    rintro e w2 ⟨rfl, hm⟩
    have HS3 := hid (HS2.out.next hm.below)
    have HEZ := hid hm.row
    clear hm HS2
    obtain ⟨bz, hbz⟩ : ∃ x, w1.heap.size = x := ⟨_, rfl⟩
    rw [hbz] at HEZ ⊢
    clear hbz
    go_wp2_with fail
    refine (eqp_any ax ny cx M x w2 (by omega) HMM.out (HPX.out.kept HS3.out.bel) HV.out.2.1).mono ?_
    rintro e w3 ⟨rfl, hm⟩
    have HS4 := hid (HS3.out.next hm.below)
    have M1 : 1 ≤ M := by rw [HMM.out]; exact Nat.one_le_two_pow
    have N1 : 1 ≤ N := by rw [HNN.out]; exact Nat.one_le_two_pow
    have HEZ4 := hid (HEZ.out.kept hm.below (HEZ.out.lt (by omega)))
    have HEX := hid hm.row
    clear hm HS3 HEZ
    obtain ⟨bx, hbx⟩ : ∃ x, w2.heap.size = x := ⟨_, rfl⟩
    rw [hbx] at HEX ⊢
    clear hbx
    go_wp2_with fail
    refine (eqp_any ay ny cy M y w3 (by omega) HMM.out (HPY.out.kept HS4.out.bel) HV.out.2.2).mono ?_
    rintro e w4 ⟨rfl, hm⟩
    have HS5 := hid (HS4.out.next hm.below)
    have HEZ5 := hid (HEZ4.out.kept hm.below (HEZ4.out.lt (by omega)))
    have HEX5 := hid (HEX.out.kept hm.below (HEX.out.lt (by omega)))
    have HEY5 := hid hm.row
    clear hm HS4 HEZ4 HEX
    obtain ⟨by', hby⟩ : ∃ x, w3.heap.size = x := ⟨_, rfl⟩
    rw [hby] at HEY5 ⊢
    clear hby
    obtain ⟨z0, z1, zl⟩ := HS5.out.box
    obtain ⟨b', off', eb, hcl⟩ := HR.out.kept HS5.out.bel HC.out.some
    cases eb
    obtain ⟨_, y1, y2, _⟩ := hcl k l HL.out
    rw [Nat.mul_comm 2 k, HLEN.out] at y1
    have HGR := hid y2
    obtain ⟨ga, hga⟩ : ∃ x, A k = x := ⟨_, rfl⟩
    obtain ⟨gc, hgc⟩ : ∃ x, C k = x := ⟨_, rfl⟩
    rw [hga, hgc] at y1
    rw [hga] at HGR
    clear hcl y2 hga hgc
    have k0 : (0 : Int) ≤ (k : Int) := by omega
    have k1 : (k : Int) < (n : Int) := by omega
    go_wp2_with fail
    clear y1 z0 z1 zl k0 k1
    have HC0 := hid (Below.refl w4.heap.size w4)
    go_loopg [21, 56] N (fun q v i wr => ∃ (t : Nat) (p : Int), t ≤ N ∧ q = N - t ∧ v = .int .u64 p ∧ i = .int .i64 (t : Int) ∧ 0 ≤ p ∧ p ≤ 2305843009213693950 ∧ Hid (p = ofK (wirP mul l.gates nz ny z x y t)) ∧ Hid (Below w4.heap.size w4 wr))
    case atStart => exact ⟨0, 0, by omega, rfl, rfl, rfl, by omega, by omega, hid rfl, HC0⟩
    case round =>
      clear HC0
      obtain ⟨t, p, ht, rfl, rfl, rfl, p0, p1, HP, HBW⟩ := hrel
      by_cases htl : t < N
      · obtain ⟨q, hq⟩ : ∃ q, l.gates[t]? = some q := ⟨l.gates[t]'(by rw [HLEN.out]; exact htl), by simp⟩
        obtain ⟨gb, go, rfl, hgc⟩ := HGR.out.kept HBW.out (by intro e; have := HLEN.out; rw [e] at this; simp at this; omega)
        obtain ⟨q0, q1, q2⟩ := hgc t q hq
        obtain ⟨⟨a0, a1⟩, b0, b1⟩ := HGO.out q (List.mem_of_getElem? hq)
        rw [Nat.mul_comm 3 t] at q0 q1 q2
        obtain ⟨qm, hqm⟩ : ∃ v, q.mul = v := ⟨_, rfl⟩
        obtain ⟨ia, hia⟩ : ∃ v : Nat, q.a = (v : Int) := ⟨q.a.toNat, by omega⟩
        obtain ⟨ib, hib⟩ : ∃ v : Nat, q.b = (v : Int) := ⟨q.b.toNat, by omega⟩
        rw [hqm] at q0
        rw [hia] at q1 a1
        rw [hib] at q2 b1
        have HQ := hid (And.intro hq (And.intro hqm (And.intro hia hib)))
        clear hgc hq hqm hia hib a0 b0
        have t0 : (0 : Int) ≤ (t : Int) := by omega
        have t1 : (t : Int) < (N : Int) := by omega
        have hal := (Below.refl wr.heap.size wr).alloc (Nat.le_refl _) (.cells #[.bool qm, .int .i64 (ia : Int), .int .i64 (ib : Int)] 100)
        have HBA := hid (HBW.out.trans (hal.mono HBW.out.size))
        by_cases hm : qm = mul
        · have em : (qm == mul) = true := by rw [hm]; simp
          have hz := (HEZ5.out.kept HBW.out (HEZ5.out.lt (by omega)))
          have hx := (HEX5.out.kept HBW.out (HEX5.out.lt (by omega)))
          have hy := (HEY5.out.kept HBW.out (HEY5.out.lt (by omega)))
          have dz := hz t htl
          have dx := hx ia (by omega)
          have dy := hy ib (by omega)
          have lz := hz.lt (by omega)
          have lx := hx.lt (by omega)
          have ly := hy.lt (by omega)
          rw [Nat.zero_add] at dz dx dy
          obtain ⟨ez, hez⟩ : ∃ v, wgt z nz t = v := ⟨_, rfl⟩
          obtain ⟨ex, hex⟩ : ∃ v, wgt x ny ia = v := ⟨_, rfl⟩
          obtain ⟨ey, hey⟩ : ∃ v, wgt y ny ib = v := ⟨_, rfl⟩
          rw [hez] at dz
          rw [hex] at dx
          rw [hey] at dy
          have ez0 : 0 ≤ ez ∧ ez ≤ 18446744073709551615 := by rw [← hez]; exact ofK_u64 _
          have ex0 : 0 ≤ ex ∧ ex ≤ 18446744073709551615 := by rw [← hex]; exact ofK_u64 _
          have ey0 : 0 ≤ ey ∧ ey ≤ 18446744073709551615 := by rw [← hey]; exact ofK_u64 _
          have HNX := hid (wir_hit HQ.out.1 (HQ.out.2.1.trans hm) HQ.out.2.2.1 HQ.out.2.2.2 HP.out (hez.symm.trans rfl) (hex.symm.trans rfl) (hey.symm.trans rfl)).1
          clear hez hex hey hz hx hy hm
          obtain ⟨ez0, ez1⟩ := ez0
          obtain ⟨ex0, ex1⟩ := ex0
          obtain ⟨ey0, ey1⟩ := ey0
          have dz' : ∀ o, (wr.alloc o).cell? ⟨bz, t, none⟩ = some (.int .u64 ez) := fun o => by rw [World.cell?_alloc_old _ _ _ (Nat.ne_of_lt lz)]; exact dz
          have dx' : ∀ o, (wr.alloc o).cell? ⟨bx, ia, none⟩ = some (.int .u64 ex) := fun o => by rw [World.cell?_alloc_old _ _ _ (Nat.ne_of_lt lx)]; exact dx
          have dy' : ∀ o, (wr.alloc o).cell? ⟨by', ib, none⟩ = some (.int .u64 ey) := fun o => by rw [World.cell?_alloc_old _ _ _ (Nat.ne_of_lt ly)]; exact dy
          have i0 : (0 : Int) ≤ (ia : Int) := by omega
          have i1 : (0 : Int) ≤ (ib : Int) := by omega
          have i2 : ia < M := by omega
          have i3 : ib < M := by omega
          obtain ⟨mw0, mw1⟩ := mulQ_rng ex ey
          obtain ⟨mv0, mv1⟩ := mulQ_rng ez (mulQ ex ey)
          obtain ⟨ma0, ma1⟩ := addQ_rng p (mulQ ez (mulQ ex ey))
          clear dz dx dy lz lx ly
          go_wp2_with fail
          go_quiet (first | (go_at_call 78; exact Calls.quiet_of_same (mul_any _ _ _ (by omega) (by omega) (by omega) (by omega))))
          go_wp2_with (first | (go_at_call 78; refine (mul_any _ _ _ (by omega) (by omega) (by omega) (by omega)).mono ?_; rintro e w' ⟨rfl, hw⟩; obtain rfl := hw.symm) | (go_at_call 77; refine (add_any _ _ _ (by omega) (by omega) (by omega) (by omega)).mono ?_; rintro e w' ⟨rfl, hw⟩; obtain rfl := hw.symm))
          go_roundg (N - (t + 1))
          case measure => go_light; omega
          case rel => exact ⟨t + 1, _, by omega, rfl, rfl, by go_num, ma0, ma1, HNX, hid ⟨HBA.out.os, HBA.out.tape, HBA.out.output, HBA.out.size, HBA.out.block⟩⟩
        · have em : (qm == mul) = false := by simp; exact hm
          have HNX := hid (wir_miss (l := nz) (k := ny) (z := z) (x := x) (y := y) HQ.out.1 (fun e => hm (HQ.out.2.1.symm.trans e)))
          go_wp2_with fail
          go_roundg (N - (t + 1))
          case measure => go_light; omega
          case rel => exact ⟨t + 1, p, by omega, rfl, rfl, by go_num, p0, p1, hid (by rw [HNX.out]; exact HP.out), HBA⟩
      · have e : t = N := by omega
        subst e
        go_wp2_with fail
        go_ret2
        exact ⟨p, 0, rfl, HX.out, fun h => absurd rfl h, fun _ => by rw [HVQ.out, HP.out, HNN.out]; rfl, HS5.out.bel.trans (HBW.out.mono HS5.out.bel.size)⟩
  · have e0 : (x' != 0) = true := by simp; exact h0
    go_wp2_with fail
    go_ret2
    exact ⟨0, x', rfl, HX.out, fun _ => rfl, fun h => absurd h h0, HS2.out.bel⟩

set_option maxHeartbeats 2000000 in
set_option maxRecDepth 100000 in
theorem step_any (c : CQ) (g : Int) (ao : Option Addr) (n cap : Nat) (A : Nat → Option Addr) (C : Nat → Nat) (i : Int) (az ax ay : Option Addr) (nz cz nx cx ny cy : Nat) (z x y : Nat → Int) (ux uy : Int) (w : World) (hg : c.log = g) (hn : c.layers.length = n) (hr : CRow w ao c.layers A C)
    (pz : PRow w az nz z) (px : PRow w ax nx x) (py : PRow w ay ny y) (vz : Nums z) (vx : Nums x) (vy : Nums y) (u0 : 0 ≤ ux) (u1 : ux ≤ 18446744073709551615) (u2 : 0 ≤ uy) (u3 : uy ≤ 18446744073709551615) :
    Calls Tryz.prog 107 #[.agg #[.int .i64 g, .slice ao n cap], .int .i64 i, .slice az nz cz, .slice ax nx cx, .slice ay ny cy, .int .u64 ux, .int .u64 uy] w fun e w' => ∃ v x', e = .returned (.tuple #[.int .u64 v, .int .i64 x']) ∧ askE c i nz nx ny x' ∧ (x' ≠ 0 → v = 0) ∧ (x' = 0 → v = wspQ c i z x y ux uy) ∧ Below w.heap.size w w' := by
  have HR := hid hr
  have HG := hid hg
  have HN := hid hn
  have HPZ := hid pz
  have HPX := hid px
  have HPY := hid py
  have HV := hid (And.intro vz (And.intro vx vy))
  have HS0 := hid (StW.start w g (.slice ao n cap) 25)
  clear hr hg hn pz px py vz vx vy
  go_enter Tryz.func107, Tryz.ntmps107
  go_wp2_with fail
  obtain ⟨B, hB⟩ : ∃ B, w.heap.size = B := ⟨_, rfl⟩
  have HS1 : Hid (StW w (w.alloc (.cells #[.int .i64 g, .slice ao n cap] 25)) B g (.slice ao n cap)) := hid (by rw [← hB]; exact HS0.out)
  rw [hB]
  clear hB HS0
  generalize w.alloc (.cells #[.int .i64 g, .slice ao n cap] 25) = W1 at HS1 ⊢
  refine (value_any c g ao n cap A C i false az ax ay nz cz nx cx ny cy z x y W1 HG.out HN.out (HR.out.kept HS1.out.bel) (HPZ.out.kept HS1.out.bel) (HPX.out.kept HS1.out.bel) (HPY.out.kept HS1.out.bel) HV.out.1 HV.out.2.1 HV.out.2.2).mono ?_
  rintro e w1 ⟨v1, x', rfl, hx, hv0, hv1, hb⟩
  have HX := hid hx
  have HV1 := hid hv1
  have HS2 := hid (HS1.out.next hb)
  clear hb hx HS1 hv0 hv1
  obtain ⟨z0, z1, zl⟩ := HS2.out.box
  by_cases h0 : x' = 0
  · subst h0
    have HVA := hid (HV1.out rfl)
    clear HV1
    go_wp2_with fail
    refine (value_any c g ao n cap A C i true az ax ay nz cz nx cx ny cy z x y w1 HG.out HN.out (HR.out.kept HS2.out.bel) (HPZ.out.kept HS2.out.bel) (HPX.out.kept HS2.out.bel) (HPY.out.kept HS2.out.bel) HV.out.1 HV.out.2.1 HV.out.2.2).mono ?_
    rintro e w2 ⟨v2, x2, rfl, hx2, _, hv2, hb⟩
    obtain rfl := askE_one hx2 HX.out
    have HVB := hid (hv2 rfl)
    have HS3 := hid (HS2.out.next hb)
    clear hb hx2 HS2 hv2 z0 z1 zl
    have hr1 := wvlQ_rng c i false z x y
    have hr2 := wvlQ_rng c i true z x y
    rw [← HVA.out] at hr1
    rw [← HVB.out] at hr2
    obtain ⟨a0, a1⟩ := hr1
    obtain ⟨b0, b1⟩ := hr2
    obtain ⟨c0, c1⟩ := addQ_rng ux uy
    obtain ⟨d0, d1⟩ := mulQ_rng ux uy
    obtain ⟨e0, e1⟩ := mulQ_rng v1 (addQ ux uy)
    obtain ⟨f0, f1⟩ := mulQ_rng v2 (mulQ ux uy)
    go_wp2_with (first | (go_at_call 78; refine (mul_any _ _ _ (by omega) (by omega) (by omega) (by omega)).mono ?_; rintro e w' ⟨rfl, hw⟩; obtain rfl := hw.symm) | (go_at_call 77; refine (add_any _ _ _ (by omega) (by omega) (by omega) (by omega)).mono ?_; rintro e w' ⟨rfl, hw⟩; obtain rfl := hw.symm))
    go_ret2
    exact ⟨_, 0, rfl, HX.out, fun h => absurd rfl h, fun _ => by rw [HVA.out, HVB.out, stp_of], HS3.out.bel⟩
  · have e0 : (x' != 0) = true := by simp; exact h0
    go_wp2_with fail
    go_ret2
    exact ⟨0, x', rfl, HX.out, fun _ => rfl, fun h => absurd h h0, HS2.out.bel⟩

end Go.Proofs.YtbchbmelofojkaaGreatDoor

/-
  Contracts of package sum's total, fix and round, each for every list of one to three tables of like size; they make new rows and write nothing that was there.
-/
namespace Go.Proofs.YtbchbmelofojkaaGreatDoor
open Go.RowKit
set_option linter.unusedVariables false
attribute [local go_sem ↓] Go.wp_at_zero Go.wp_at_succ

theorem putF_same (F : Nat → Nat → Int) (k i : Nat) (j : Nat) : putF F k (F k) i j = F i j := by
  unfold putF
  by_cases e : i = k
  · rw [if_pos e, e]
  · rw [if_neg e]

set_option maxHeartbeats 4000000 in
set_option maxRecDepth 100000 in
theorem sfix_any (B o m cap : Nat) (bv ov cv : Nat → Nat) (F : Nat → Nat → Int) (n h : Nat) (x : Int) (w : World) (hm1 : 1 ≤ m) (hm : m ≤ 3) (hn : n + 1 ≤ 8) (hh : h = 2 ^ n) (ht : Tab w) (hl : Tabs w B o m bv ov cv (2 * h) F) (hv : ∀ i, i < m → Nums (F i)) (x0 : 0 ≤ x) (x1 : x ≤ 18446744073709551615) :
    Calls Tryz.prog 47 #[.slice (some ⟨B, o, none⟩) m cap, .int .u64 x] w fun e w' => e = .returned (.slice (some ⟨w.heap.size, 0, none⟩) m m) ∧ ∃ a, Lays w w' m m h a (fun i => fldF (F i) h x) := by
  have h1 : 1 ≤ h := by rw [hh]; exact Nat.one_le_two_pow
  have HT := hid ht
  have HL := hid hl
  have HV := hid hv
  have HH := hid hh
  clear ht hl hv hh
  have hmk := run_make_row' (P := Tryz.prog) 36 22 (.slice none 0 0) 24 Tryz.underlying36 Tryz.infoL rfl .i64 .i64 m (by omega) (by omega)
  go_enter Tryz.func47, Tryz.ntmps47
  go_wp2_with fail
  clear hmk
  go_loopg [13] m (fun q i wr => ∃ (k : Nat) (a : Nat → Nat), k ≤ m ∧ q = m - k ∧ i = .int .i64 (k : Int) ∧ Hid (Lays w wr m k h a (fun i => fldF (F i) h x)))
  case atStart => exact ⟨0, fun _ => 0, by omega, rfl, rfl, hid (Lays.start w m h _ _ 22)⟩
  case round =>
    obtain ⟨k, a, hk, rfl, rfl, HY⟩ := hrel
    by_cases hlt : k < m
    · have c1 := (HY.out.below.cell (p := ⟨B, o + k, none⟩) (HL.out.lt (by omega))).trans (HL.out.cell k hlt)
      have c2 := HY.out.todo k (Nat.le_refl _) hlt
      have f2 := HY.out.free k hlt
      have HF := hid (fix_ok (bv k) (ov k) n h (cv k) (F k) x wr hn HH.out (HT.out.kept HY.out.below HT.out.1) ((HL.out.row k hlt).kept HY.out.below ((HL.out.row k hlt).lt (by omega))) (HV.out k hlt) x0 x1)
      have k0 : (0 : Int) ≤ (k : Int) := by omega
      have k1 : (k : Int) < (m : Int) := by omega
      go_wp2_with (go_at_call 13; refine (HF.out).mono ?_; rintro e w1 ⟨rfl, hm2⟩; have c3 := (hm2.below.cell HY.out.lt).trans c2; have f3 := (hm2.below.frozen HY.out.lt).trans f2; have HM := hid hm2; clear hm2)
      go_roundg (m - (k + 1))
      case measure => go_light; omega
      case rel => exact ⟨k + 1, _, by omega, rfl, by go_num, hid ((HY.out.next hlt h1 HM.out.below (Nat.le_refl _) HM.out.row HM.out.free).congr fun i j _ _ => putF_same _ k i j)⟩
    · have e : k = m := by omega
      subst e
      go_wp2_with fail
      go_ret
      exact ⟨rfl, a, HY.out⟩

theorem tot_mul (F : Nat → Nat → Int) (b t : Nat) (p y : Int) (hp : p = ofK (prK (fun i => kF F i b) t)) (hy : F t b = y) : mulQ p y = ofK (prK (fun i => kF F i b) (t + 1)) := by rw [mulQ_ofK, hp, kk_ofK, ← hy]; rfl
theorem tot_add (F : Nat → Nat → Int) (m b : Nat) (z p : Int) (hz : z = ofK (claimK (kF F) m b)) (hp : p = ofK (prK (fun i => kF F i b) m)) : addQ z p = ofK (claimK (kF F) m (b + 1)) := by rw [addQ_ofK, hz, hp, kk_ofK, kk_ofK]; rfl

set_option maxHeartbeats 4000000 in
set_option maxRecDepth 100000 in
theorem total_any (B o m cap : Nat) (bv ov cv : Nat → Nat) (F : Nat → Nat → Int) (N : Nat) (w : World) (hm1 : 1 ≤ m) (hm : m ≤ 3) (hN1 : 1 ≤ N) (hN : N ≤ 256) (hl : Tabs w B o m bv ov cv N F) (hv : ∀ i, i < m → Nums (F i)) :
    Calls Tryz.prog 80 #[.slice (some ⟨B, o, none⟩) m cap] w fun e w' => e = .returned (.int .u64 (ofK (claimK (kF F) m N))) ∧ w' = w := by
  have c0 := hl.cell 0 (by omega)
  rw [Nat.add_zero] at c0
  have HL := hid hl
  have HV := hid hv
  clear hl hv
  have m1 : (0 : Int) < (m : Int) := by omega
  go_enter Tryz.func80, Tryz.ntmps80
  go_wp2_with fail
  clear c0
  go_loopg [3, 12] N (fun q x i wr => ∃ (k : Nat) (z : Int), k ≤ N ∧ q = N - k ∧ x = .int .u64 z ∧ i = .int .i64 (k : Int) ∧ 0 ≤ z ∧ z ≤ 2305843009213693950 ∧ Hid (z = ofK (claimK (kF F) m k)) ∧ wr = w)
  case atStart => exact ⟨0, 0, by omega, rfl, rfl, rfl, by omega, by omega, hid rfl, rfl⟩
  case round =>
    obtain ⟨k, z, hk, rfl, rfl, rfl, z0, z1, HZ, hw⟩ := hrel
    obtain rfl := hw.symm
    by_cases hlt : k < N
    · go_wp2_with fail
      go_loopg [5, 17] m (fun q x i wr => ∃ (t : Nat) (p : Int), t ≤ m ∧ q = m - t ∧ x = .int .u64 p ∧ i = .int .i64 (t : Int) ∧ 0 ≤ p ∧ p ≤ 2305843009213693950 ∧ Hid (p = ofK (prK (fun i => kF F i k) t)) ∧ wr = w)
      case atStart => exact ⟨0, 1, by omega, rfl, rfl, rfl, by omega, by omega, hid rfl, rfl⟩
      case round =>
        obtain ⟨t, p, ht, rfl, rfl, rfl, p0, p1, HP, hw⟩ := hrel
        obtain rfl := hw.symm
        by_cases hlt2 : t < m
        · have c1 := HL.out.cell t hlt2
          have c2 := HL.out.row t hlt2 k hlt
          obtain ⟨y, hy⟩ : ∃ y, F t k = y := ⟨_, rfl⟩
          have b2 := HV.out t hlt2 k
          rw [hy] at c2 b2
          obtain ⟨y0, y1⟩ := b2
          have HMU := hid (tot_mul F k t p y HP.out hy)
          clear hy
          have t0 : (0 : Int) ≤ (t : Int) := by omega
          have t1 : (t : Int) < (m : Int) := by omega
          have k0 : (0 : Int) ≤ (k : Int) := by omega
          have k1 : (k : Int) < (N : Int) := by omega
          go_wp2_with (go_at_call 78; refine (mul_any _ _ _ (by omega) (by omega) (by omega) (by omega)).mono ?_; rintro e w' ⟨rfl, hw⟩; obtain rfl := hw.symm)
          go_roundg (m - (t + 1))
          case measure => go_light; omega
          case rel => exact ⟨t + 1, _, by omega, rfl, rfl, by go_num, (mulQ_rng _ _).1, (mulQ_rng _ _).2, HMU, rfl⟩
        · have e : t = m := by omega
          subst e
          have HST := hid (tot_add F t k z p HZ.out HP.out)
          go_wp2_with (go_at_call 77; refine (add_any _ _ _ (by omega) (by omega) (by omega) (by omega)).mono ?_; rintro e w' ⟨rfl, hw⟩; obtain rfl := hw.symm)
          go_roundg (N - (k + 1))
          case measure => go_light; omega
          case rel => exact ⟨k + 1, _, by omega, rfl, rfl, by go_num, (addQ_rng _ _).1, (addQ_rng _ _).2, HST, rfl⟩
    · have e : k = N := by omega
      subst e
      go_wp2_with fail
      go_ret
      exact ⟨ret_u64 HZ.out, rfl⟩

theorem claim_fold (F : Nat → Nat → Int) (m h : Nat) (x : Int) : claimK (kF fun i => fldF (F i) h x) m h = roundK (kF F) m h (kk x) :=
  claimK_congr m h fun i b _ _ => kk_fldF (F i) h x b
/-- A round's values, as far as they are reckoned. -/
def rndF (F : Nat → Nat → Int) (m h k : Nat) (j : Nat) : Int := if j < k then ofK (roundK (kF F) m h (kn j)) else 0
theorem rnd_step (F : Nat → Nat → Int) (m h k j : Nat) : (if j = k then ofK (claimK (kF fun i => fldF (F i) h (k : Int)) m h) else rndF F m h k j) = rndF F m h (k + 1) j := by
  unfold rndF
  by_cases e : j = k
  · subst e
    rw [if_pos rfl, if_pos (by omega), claim_fold]; rfl
  · rw [if_neg e]
    by_cases h2 : j < k
    · rw [if_pos h2, if_pos (by omega)]
    · rw [if_neg h2, if_neg (by omega)]

set_option maxHeartbeats 4000000 in
set_option maxRecDepth 100000 in
theorem sround_any (B o m cap : Nat) (bv ov cv : Nat → Nat) (F : Nat → Nat → Int) (n h : Nat) (w : World) (hm1 : 1 ≤ m) (hm : m ≤ 3) (hn : n + 1 ≤ 8) (hh : h = 2 ^ n) (ht : Tab w) (hl : Tabs w B o m bv ov cv (2 * h) F) (hv : ∀ i, i < m → Nums (F i)) :
    Calls Tryz.prog 46 #[.slice (some ⟨B, o, none⟩) m cap] w fun e w' => e = .returned (.slice (some ⟨w.heap.size, 0, none⟩) (m + 1) (m + 1)) ∧ Made w w' (m + 1) (fun j => ofK (roundK (kF F) m h (kn j))) := by
  have h1 : 1 ≤ h := by rw [hh]; exact Nat.one_le_two_pow
  have h2 : h ≤ 256 := by have := pow_256 (n := n) (by omega); omega
  have HT := hid ht
  have HL := hid hl
  have HV := hid hv
  have HH := hid hh
  clear ht hl hv hh
  have hmk := run_make_row' (P := Tryz.prog) 22 31 (.int .u64 0) 8 Tryz.underlying22 Tryz.infoM rfl .i64 .i64 (m + 1) (by omega) (by omega)
  rw [show ((m + 1 : Nat) : Int) = (m : Int) + 1 from by omega] at hmk
  go_enter Tryz.func46, Tryz.ntmps46
  go_wp2_with fail
  clear hmk
  go_loopg [11] (m + 1) (fun q i wr => ∃ k : Nat, k ≤ m + 1 ∧ q = m + 1 - k ∧ i = .int .i64 (k : Int) ∧ Hid (Made w wr (m + 1) (rndF F m h k)))
  case atStart => exact ⟨0, by omega, rfl, rfl, hid ((Made.start w (m + 1) 31).congr fun j _ => by rw [rndF, if_neg (by omega)])⟩
  case round =>
    obtain ⟨k, hk, rfl, rfl, HM⟩ := hrel
    by_cases hlt : k < m + 1
    · have c3 := HM.out.cell k hlt
      have f3 := HM.out.frozen k hlt
      obtain ⟨y, hy⟩ : ∃ y, rndF F m h k k = y := ⟨_, rfl⟩
      rw [hy] at c3
      clear hy
      have hBlt : w.heap.size < wr.heap.size := HM.out.row.lt (by omega)
      have hTb := (HL.out.kept HM.out.below (by omega) : Tabs wr B o m bv ov cv (2 * h) F)
      have HF := hid (sfix_any B o m cap bv ov cv F n h (k : Int) wr hm1 hm hn HH.out (HT.out.kept HM.out.below HT.out.1) hTb HV.out (by omega) (by omega))
      clear hTb
      have k0 : (0 : Int) ≤ (k : Int) := by omega
      have k1 : (k : Int) < (m : Int) + 1 := by omega
      have k2 : (k : Int) < ((m + 1 : Nat) : Int) := by omega
      have wk : IntKind.u64.wrap (k : Int) = (k : Int) := by rw [IntKind.wrap_u64]; omega
      go_wp2_with (first
        | (go_at_call 47; refine (HF.out).mono ?_; rintro e w1 ⟨rfl, a, hy⟩; have c4 := (hy.below.cell (p := ⟨w.heap.size, k, none⟩) hBlt).trans c3; have f4 := (hy.below.frozen (p := ⟨w.heap.size, k, none⟩) hBlt).trans f3; have HY := hid hy; clear hy)
        | (go_at_call 80; refine (total_any _ _ _ _ _ _ _ _ _ _ hm1 hm h1 h2 HY.out.tabs (fun i _ => Nums_fld _ _ _)).mono ?_; rintro e w' ⟨rfl, hw⟩; obtain rfl := hw.symm))
      go_roundg (m + 1 - (k + 1))
      case measure => go_light; omega
      case rel => exact ⟨k + 1, by omega, rfl, by go_num, hid (((HM.out.keep (by omega) HY.out.below).store k _ hlt).congr fun j _ => rnd_step F m h k j)⟩
    · have e : k = m + 1 := by omega
      subst e
      go_wp2_with fail
      go_ret
      exact ⟨rfl, HM.out.congr fun j hj => by rw [rndF, if_pos hj]⟩

end Go.Proofs.YtbchbmelofojkaaGreatDoor

/-
  Contracts of package sum's Check, Claim and Round, for every list of lists; they make new rows and write nothing that was there.
-/
namespace Go.Proofs.YtbchbmelofojkaaGreatDoor
open Go.RowKit
set_option linter.unusedVariables false
attribute [local go_sem ↓] Go.wp_at_zero Go.wp_at_succ

/-- One to three tables of like size. -/
def Facts (m : Nat) (L : Nat → Nat) (n : Nat) : Prop := 1 ≤ m ∧ m ≤ 3 ∧ n ≤ 8 ∧ ∀ i, i < m → L i = 2 ^ n

set_option maxHeartbeats 1000000 in
theorem scheck_count (ao : Option Addr) (m cap : Nat) (w : World) (h : m = 0 ∨ 3 < m) :
    Calls Tryz.prog 45 #[.slice ao m cap] w fun e w' => e = .returned (.tuple #[.int .i64 0, .int .i64 4]) ∧ w' = w := by
  by_cases h0 : m = 0
  · subst h0
    go_enter Tryz.func45, Tryz.ntmps45
    go_wp2_with fail
    go_ret2
    exact ⟨rfl, rfl⟩
  · have h1 : 3 < m := by omega
    have a1 : ¬ ((m : Int) < 1) := by omega
    have a2 : (3 : Int) < (m : Int) := by omega
    clear h
    go_enter Tryz.func45, Tryz.ntmps45
    go_wp2_with fail
    go_ret2
    exact ⟨rfl, rfl⟩

set_option maxHeartbeats 4000000 in
set_option maxRecDepth 100000 in
theorem scheck_ok (B o m cap : Nat) (bv ov cv : Nat → Nat) (F : Nat → Nat → Int) (n N : Nat) (w : World) (hm1 : 1 ≤ m) (hm : m ≤ 3) (hn : n ≤ 8) (hN : N = 2 ^ n) (ht : Tab w) (hl : Tabs w B o m bv ov cv N F) :
    Calls Tryz.prog 45 #[.slice (some ⟨B, o, none⟩) m cap] w fun e w' => e = .returned (.tuple #[.int .i64 (n : Int), .int .i64 0]) ∧ w' = w := by
  have HVA := hid (fun i => vars_ok (some ⟨bv i, ov i, none⟩) n N (cv i) w hn hN ht)
  have c0 := hl.cell 0 (by omega)
  rw [Nat.add_zero] at c0
  have HL := hid hl
  clear ht hl hN
  have m1 : (0 : Int) < (m : Int) := by omega
  have a1 : ¬ ((m : Int) < 1) := by omega
  have a2 : ¬ ((3 : Int) < (m : Int)) := by omega
  have C0 := hid c0
  clear c0
  go_enter Tryz.func45, Tryz.ntmps45
  go_wp2_with fail
  go_loopg [20] m (fun q i wr => ∃ k : Nat, k ≤ m ∧ q = m - k ∧ i = .int .i64 (k : Int) ∧ wr = w)
  case atStart => exact ⟨0, by omega, rfl, rfl, rfl⟩
  case round =>
    obtain ⟨k, hk, rfl, rfl, hw⟩ := hrel
    obtain rfl := hw.symm
    by_cases hlt : k < m
    · have c1 := HL.out.cell k hlt
      have HVK := hid (HVA.out k)
      have k0 : (0 : Int) ≤ (k : Int) := by omega
      have k1 : (k : Int) < (m : Int) := by omega
      go_wp2_with (go_at_call 39; refine (HVK.out).mono ?_; rintro e w' ⟨rfl, hw⟩; obtain rfl := hw.symm)
      go_roundg (m - (k + 1))
      case measure => go_light; omega
      case rel => exact ⟨k + 1, by omega, rfl, by go_num, rfl⟩
    · have e : k = m := by omega
      subst e
      go_wp2_with fail
      go_loopg [35] k (fun q i wr => ∃ t : Nat, t ≤ k ∧ q = k - t ∧ i = .int .i64 (t : Int) ∧ wr = w)
      case atStart => exact ⟨0, by omega, rfl, rfl, rfl⟩
      case round =>
        obtain ⟨t, ht, rfl, rfl, hw⟩ := hrel
        obtain rfl := hw.symm
        by_cases hlt2 : t < k
        · have c1 := HL.out.cell t hlt2
          have c0 := C0.out
          have k0 : (0 : Int) ≤ (t : Int) := by omega
          have k1 : (t : Int) < (k : Int) := by omega
          go_wp2_with fail
          go_roundg (k - (t + 1))
          case measure => go_light; omega
          case rel => exact ⟨t + 1, by omega, rfl, by go_num, rfl⟩
        · have e : t = k := by omega
          subst e
          have c0 := C0.out
          have HVK := hid (HVA.out 0)
          go_wp2_with (go_at_call 39; refine (HVK.out).mono ?_; rintro e w' ⟨rfl, hw⟩; obtain rfl := hw.symm)
          go_ret2
          exact ⟨rfl, rfl⟩

set_option maxHeartbeats 4000000 in
set_option maxRecDepth 100000 in
theorem scheck_bad (ao : Option Addr) (m cap : Nat) (A : Nat → Option Addr) (L C : Nat → Nat) (F : Nat → Nat → Int) (w : World) (hm1 : 1 ≤ m) (hm : m ≤ 3) (ht : Tab w) (hl : LRow w ao m A L C F) (hmax : ∀ i, i < m → L i ≤ maxLen) (hno : ∀ n, ¬ Facts m L n) :
    Calls Tryz.prog 45 #[.slice ao m cap] w fun e w' => e = .returned (.tuple #[.int .i64 0, .int .i64 4]) ∧ w' = w := by
  obtain ⟨B, o, rfl, hr⟩ := hl (by omega)
  have HVO := hid (fun i n (hn : n ≤ 8) (h : L i = 2 ^ n) => vars_ok (A i) n (L i) (C i) w hn h ht)
  have HVB := hid (fun i (hi : i < m) (h : ∀ n, n ≤ 8 → L i ≠ 2 ^ n) => vars_bad (A i) (L i) (C i) w h (hmax i hi))
  have c0 := (hr 0 (by omega)).1
  rw [Nat.add_zero] at c0
  have HR := hid hr
  have HNO := hid hno
  clear ht hl hr hmax hno
  have m1 : (0 : Int) < (m : Int) := by omega
  have a1 : ¬ ((m : Int) < 1) := by omega
  have a2 : ¬ ((3 : Int) < (m : Int)) := by omega
  have C0 := hid c0
  clear c0
  go_enter Tryz.func45, Tryz.ntmps45
  go_wp2_with fail
  go_loopg [20] m (fun q i wr => ∃ k : Nat, k ≤ m ∧ q = m - k ∧ i = .int .i64 (k : Int) ∧ wr = w ∧ Hid (∀ i, i < k → ∃ n, n ≤ 8 ∧ L i = 2 ^ n))
  case atStart => exact ⟨0, by omega, rfl, rfl, rfl, hid (fun i hi => absurd hi (by omega))⟩
  case round =>
    obtain ⟨k, hk, rfl, rfl, hw, HP⟩ := hrel
    obtain rfl := hw.symm
    by_cases hlt : k < m
    · have c1 := (HR.out k hlt).1
      have k0 : (0 : Int) ≤ (k : Int) := by omega
      have k1 : (k : Int) < (m : Int) := by omega
      by_cases hT : ∃ n, n ≤ 8 ∧ L k = 2 ^ n
      · obtain ⟨n, hn, e⟩ := hT
        have HVK := hid (HVO.out k n hn e)
        have HP2 : Hid (∀ i, i < k + 1 → ∃ n, n ≤ 8 ∧ L i = 2 ^ n) := hid (fun i hi => by
          by_cases e2 : i = k
          · subst e2; exact ⟨n, hn, e⟩
          · exact HP.out i (by omega))
        clear e
        go_wp2_with (go_at_call 39; refine (HVK.out).mono ?_; rintro e w' ⟨rfl, hw⟩; obtain rfl := hw.symm)
        go_roundg (m - (k + 1))
        case measure => go_light; omega
        case rel => exact ⟨k + 1, by omega, rfl, by go_num, rfl, HP2⟩
      · have HVK := hid (HVB.out k hlt (fun n hn e => hT ⟨n, hn, e⟩))
        clear hT
        go_wp2_with (go_at_call 39; refine (HVK.out).mono ?_; rintro e w' ⟨rfl, hw⟩; obtain rfl := hw.symm)
        go_ret2
        exact ⟨rfl, rfl⟩
    · have e : k = m := by omega
      subst e
      go_wp2_with fail
      go_loopg [35] k (fun q i wr => ∃ t : Nat, t ≤ k ∧ q = k - t ∧ i = .int .i64 (t : Int) ∧ wr = w ∧ Hid (∀ i, i < t → L i = L 0))
      case atStart => exact ⟨0, by omega, rfl, rfl, rfl, hid (fun i hi => absurd hi (by omega))⟩
      case round =>
        obtain ⟨t, ht, rfl, rfl, hw, HE⟩ := hrel
        obtain rfl := hw.symm
        by_cases hlt2 : t < k
        · have c1 := (HR.out t hlt2).1
          have c0 := C0.out
          have k0 : (0 : Int) ≤ (t : Int) := by omega
          have k1 : (t : Int) < (k : Int) := by omega
          by_cases he : L t = L 0
          · have hb : ((L t : Int) != (L 0 : Int)) = false := by rw [he]; simp
            have HE2 : Hid (∀ i, i < t + 1 → L i = L 0) := hid (fun i hi => by
              by_cases e2 : i = t
              · subst e2; exact he
              · exact HE.out i (by omega))
            clear he
            go_wp2_with fail
            go_roundg (k - (t + 1))
            case measure => go_light; omega
            case rel => exact ⟨t + 1, by omega, rfl, by go_num, rfl, HE2⟩
          · have hb : ((L t : Int) != (L 0 : Int)) = true := bne_iff_ne.2 (by omega)
            clear he
            go_wp2_with fail
            go_ret2
            exact ⟨rfl, rfl⟩
        · have e : t = k := by omega
          subst e
          obtain ⟨n, hn, e0⟩ := HP.out 0 (by omega)
          exact absurd ⟨hm1, hm, hn, fun i hi => (HE.out i hi).trans e0⟩ (HNO.out n)

/-- Lists that are no factors. -/
structure NoFacts (w : World) (ao : Option Addr) (m : Nat) (A : Nat → Option Addr) (L C : Nat → Nat) (F : Nat → Nat → Int) : Prop where
  l : LRow w ao m A L C F
  max : ∀ i, i < m → L i ≤ maxLen
  no : ∀ n, ¬ Facts m L n
theorem scheck_no (ao : Option Addr) (m cap : Nat) (A : Nat → Option Addr) (L C : Nat → Nat) (F : Nat → Nat → Int) (w : World) (ht : Tab w) (h : NoFacts w ao m A L C F) :
    Calls Tryz.prog 45 #[.slice ao m cap] w fun e w' => e = .returned (.tuple #[.int .i64 0, .int .i64 4]) ∧ w' = w := by
  by_cases h1 : m = 0 ∨ 3 < m
  · exact scheck_count ao m cap w h1
  · exact scheck_bad ao m cap A L C F w (by omega) (by omega) ht h.l h.max h.no


end Go.Proofs.YtbchbmelofojkaaGreatDoor

/-
  Contracts of package sum's Prove, for every list of lists and every list of draws: the right rounds, and what the tables have left; it makes new rows and writes nothing that was there.
-/
namespace Go.Proofs.YtbchbmelofojkaaGreatDoor
open Go.RowKit
set_option linter.unusedVariables false
attribute [local go_sem ↓] Go.wp_at_zero Go.wp_at_succ

set_option maxHeartbeats 1000000 in
theorem sprove_no (ao ad : Option Addr) (m cap nd cd : Nat) (A : Nat → Option Addr) (L C : Nat → Nat) (F : Nat → Nat → Int) (w : World) (ht : Tab w) (h : NoFacts w ao m A L C F) :
    Calls Tryz.prog 16 #[.slice ao m cap, .slice ad nd cd] w fun e w' => e = .returned (.tuple #[.slice none 0 0, .slice none 0 0, .int .i64 4]) ∧ w' = w := by
  have HC := hid (scheck_no ao m cap A L C F w ht h)
  clear ht h
  go_enter Tryz.func16, Tryz.ntmps16
  go_wp2_with (go_at_call 45; refine (HC.out).mono ?_; rintro e w' ⟨rfl, hw⟩; obtain rfl := hw.symm)
  go_ret3
  exact ⟨rfl, rfl⟩
set_option maxHeartbeats 1000000 in
theorem sprove_arg (B o m cap : Nat) (bv ov cv : Nat → Nat) (F : Nat → Nat → Int) (n N : Nat) (ad : Option Addr) (nd cd : Nat) (w : World) (hm1 : 1 ≤ m) (hm : m ≤ 3) (hn : n ≤ 8) (hN : N = 2 ^ n) (ht : Tab w) (hl : Tabs w B o m bv ov cv N F) (hd : nd ≠ n) :
    Calls Tryz.prog 16 #[.slice (some ⟨B, o, none⟩) m cap, .slice ad nd cd] w fun e w' => e = .returned (.tuple #[.slice none 0 0, .slice none 0 0, .int .i64 1]) ∧ w' = w := by
  have HC := hid (scheck_ok B o m cap bv ov cv F n N w hm1 hm hn hN ht hl)
  have hb : ((nd : Int) != (n : Int)) = true := bne_iff_ne.2 (by omega)
  clear ht hl hN hd
  go_enter Tryz.func16, Tryz.ntmps16
  go_wp2_with (go_at_call 45; refine (HC.out).mono ?_; rintro e w' ⟨rfl, hw⟩; obtain rfl := hw.symm)
  go_ret3
  exact ⟨rfl, rfl⟩

/-- The right rounds' values. -/
def rightF (F : Nat → Nat → Int) (m n : Nat) (D : Nat → Int) (i j : Nat) : Int := ofK (rightK (kF F) m n (fun j => kk (D j)) i (kn j))
theorem Nums_right (F : Nat → Nat → Int) (m n : Nat) (D : Nat → Int) (i : Nat) : Nums (rightF F m n D i) := fun j => ofK_u64 _
theorem half_is {n k H : Nat} (hk : k < n) (h : 2 * H = 2 ^ (n - k)) : H = 2 ^ (n - 1 - k) := by
  rw [show n - k = (n - 1 - k) + 1 from by omega, Nat.pow_succ] at h
  omega
theorem right_of {F G : Nat → Nat → Int} {D : Nat → Int} {m n k H : Nat} (hk : k < n) (hm1 : 1 ≤ m) (hf : ∀ i, i < m → Folded (F i) D n k (2 * H) (G i)) (j : Nat) : ofK (roundK (kF G) m H (kn j)) = rightF F m n D k j := by
  unfold rightF rightK
  rw [← half_is hk (hf 0 (by omega)).1]
  congr 1
  exact roundK_congr m H _ fun i b hi hb => (hf i hi).2.2 b (by omega)
/-- What holds behind one round's store. -/
theorem prove_store {w wr w1 : World} {n k m H Bk ok : Nat} {bk ovk ck2 a : Nat → Nat} {F G : Nat → Nat → Int} {D : Nat → Int} (hlt : k < n) (hm1 : 1 ≤ m) (hH : 1 ≤ H) (ht : Tab w) (hy : Lays w wr n k (m + 1) a (rightF F m n D)) (htb : Tabs wr Bk ok m bk ovk ck2 (2 * H) G) (hne : Bk ≠ w.heap.size ∧ ∀ i, i < m → bk i ≠ w.heap.size)
    (hf : ∀ i, i < m → Folded (F i) D n k (2 * H) (G i)) (hM : Made wr w1 (m + 1) (fun j => ofK (roundK (kF G) m H (kn j)))) :
    Lays w (w1.setCell ⟨w.heap.size, k, none⟩ (.slice (some ⟨wr.heap.size, 0, none⟩) (m + 1) (m + 1))) n (k + 1) (m + 1) (putA a k wr.heap.size) (rightF F m n D)
    ∧ Tab (w1.setCell ⟨w.heap.size, k, none⟩ (.slice (some ⟨wr.heap.size, 0, none⟩) (m + 1) (m + 1)))
    ∧ Tabs (w1.setCell ⟨w.heap.size, k, none⟩ (.slice (some ⟨wr.heap.size, 0, none⟩) (m + 1) (m + 1))) Bk ok m bk ovk ck2 (2 * H) G := by
  have hM2 : Made wr w1 (m + 1) (rightF F m n D k) := hM.congr fun j _ => right_of hlt hm1 hf j
  have h1 := (hy.next hlt (by omega) hM2.below (Nat.le_refl _) hM2.row hM2.free).congr (G := rightF F m n D) fun i j _ _ => putF_same _ k i j
  exact ⟨h1, ht.kept h1.below ht.1, (htb.kept hM.below (by omega)).wrote ((Wrote.refl w.heap.size k 1 w1).store (Nat.le_refl _) (by omega) _) hne.1 hne.2⟩
/-- What is left, as far as it is told. -/
def leftF (G : Nat → Nat → Int) (k : Nat) (j : Nat) : Int := if j < k then nrm (G j 0) else 0
theorem left_step (G : Nat → Nat → Int) (k j : Nat) (y : Int) (hy : G k 0 = y) : (if j = k then nrm y else leftF G k j) = leftF G (k + 1) j := by
  unfold leftF
  by_cases e : j = k
  · subst e
    rw [if_pos rfl, if_pos (by omega), hy]
  · rw [if_neg e]
    by_cases h2 : j < k
    · rw [if_pos h2, if_pos (by omega)]
    · rw [if_neg h2, if_neg (by omega)]

set_option maxHeartbeats 8000000 in
set_option maxRecDepth 100000 in
theorem sprove_own (B o m cap : Nat) (bv ov cv : Nat → Nat) (F : Nat → Nat → Int) (n N : Nat) (ad : Option Addr) (cd : Nat) (D : Nat → Int) (w : World) (hm1 : 1 ≤ m) (hm : m ≤ 3) (hn : n ≤ 8) (hN : N = 2 ^ n) (ht : Tab w) (hl : Tabs w B o m bv ov cv N F) (hv : ∀ i, i < m → Nums (F i)) (hd : PRow w ad n D) (hD : Nums D) :
    Calls Tryz.prog 16 #[.slice (some ⟨B, o, none⟩) m cap, .slice ad n cd] w fun e w' => ∃ (b2 : Nat) (a : Nat → Nat), e = .returned (.tuple #[.slice (some ⟨w.heap.size, 0, none⟩) n n, .slice (some ⟨b2, 0, none⟩) m m, .int .i64 0]) ∧ Lays w w' n n (m + 1) a (rightF F m n D) ∧ Row w' b2 0 m (fun i => ofK (evS (kF F i) (fun j => kk (D j)) n)) ∧ w.heap.size ≤ b2 ∧ Free w' b2 0 m := by
  have hN1 : 1 ≤ N := by rw [hN]; exact Nat.one_le_two_pow
  have hN2 : N ≤ 256 := by rw [hN]; exact pow_256 hn
  have HC := hid (scheck_ok B o m cap bv ov cv F n N w hm1 hm hn hN ht hl)
  have hmk := run_make_row' (P := Tryz.prog) 36 22 (.slice none 0 0) 24 Tryz.underlying36 Tryz.infoL rfl .i64 .i64 n (by omega) (by omega)
  have hst := Lays.start w n (m + 1) (fun _ => 0) (rightF F m n D) 22
  have HST := hid hst
  have HTB0 := hid (hl.kept hst.below hN1)
  have HNE0 : Hid (B ≠ w.heap.size ∧ ∀ i, i < m → bv i ≠ w.heap.size) := hid ⟨by have := hl.lt (by omega); omega, fun i hi => by have := (hl.row i hi).lt hN1; omega⟩
  have HF0 : Hid (∀ i, i < m → Folded (F i) D n 0 N (F i)) := hid (fun i hi => Folded.start hN (hv i hi))
  have HT := hid ht
  have HD := hid hd
  have HDD := hid hD
  clear ht hl hv hd hD hN hst
  go_enter Tryz.func16, Tryz.ntmps16
  go_wp2_with (go_at_call 45; refine (HC.out).mono ?_; rintro e w' ⟨rfl, hw⟩; obtain rfl := hw.symm)
  clear hmk HC
  go_loopg [0, 31] n (fun q l i wr => ∃ (k M Bk ok ck : Nat) (bk ovk ck2 a : Nat → Nat) (G : Nat → Nat → Int), k ≤ n ∧ q = n - k ∧ i = .int .i64 (k : Int) ∧ l = .slice (some ⟨Bk, ok, none⟩) m ck ∧ 1 ≤ M ∧ M ≤ 256 ∧ Hid (∀ i, i < m → Folded (F i) D n k M (G i)) ∧ Hid (Tabs wr Bk ok m bk ovk ck2 M G) ∧ Hid (Bk ≠ w.heap.size ∧ ∀ i, i < m → bk i ≠ w.heap.size) ∧ Hid (Lays w wr n k (m + 1) a (rightF F m n D)))
  case atStart => exact ⟨0, N, B, o, cap, bv, ov, cv, _, F, by omega, rfl, rfl, rfl, hN1, hN2, HF0, HTB0, HNE0, HST⟩
  case round =>
    clear HF0 HTB0 HNE0 HST
    obtain ⟨k, M, Bk, ok, ck, bk, ovk, ck2, a, G, hk, rfl, rfl, rfl, hM1, hM2, HF, HTB, HNE, HY⟩ := hrel
    by_cases hlt : k < n
    · obtain ⟨b2, off2, rfl, hr2⟩ := HD.out (by omega)
      obtain ⟨H, rfl, hH1⟩ := half_of hlt (HF.out 0 (by omega)).1
      have c1 := (hr2.kept HY.out.below (hr2.lt (by omega))) k hlt
      clear hr2
      obtain ⟨x, hx⟩ : ∃ x, D k = x := ⟨_, rfl⟩
      have bx := HDD.out k
      rw [hx] at c1 bx
      obtain ⟨x0, x1⟩ := bx
      have HX := hid hx
      clear hx
      have c2 := HY.out.todo k (Nat.le_refl _) hlt
      have f2 := HY.out.free k hlt
      have hHp := half_is hlt (HF.out 0 (by omega)).1
      have HHP := hid hHp
      have HR := hid (sround_any Bk ok m ck bk ovk ck2 G (n - 1 - k) H wr hm1 hm (by omega) hHp (HT.out.kept HY.out.below HT.out.1) HTB.out (fun i hi => (HF.out i hi).2.1))
      clear hHp
      have k0 : (0 : Int) ≤ (k : Int) := by omega
      have k1 : (k : Int) < (n : Int) := by omega
      go_wp2_with (go_at_call 46; refine (HR.out).mono ?_; rintro e w1 ⟨rfl, hm2⟩; have c3 := (hm2.below.cell HY.out.lt).trans c2; have f3 := (hm2.below.frozen HY.out.lt).trans f2; have hps := prove_store hlt hm1 hH1 HT.out HY.out HTB.out HNE.out HF.out hm2; have HPS := hid hps; clear hm2 hps)
      clear HR c2 f2 c3 f3 HTB
      generalize w1.setCell ⟨w.heap.size, k, none⟩ (.slice (some ⟨wr.heap.size, 0, none⟩) (m + 1) (m + 1)) = w2 at HPS ⊢
      refine (sfix_any Bk ok m ck bk ovk ck2 G (n - 1 - k) H x w2 hm1 hm (by omega) HHP.out HPS.out.2.1 HPS.out.2.2 (fun i hi => (HF.out i hi).2.1) x0 x1).mono ?_
      rintro e w3 ⟨rfl, a2, hy⟩
      have HY2 := hid hy
      clear hy
      go_wp2_with fail
      go_roundg (n - (k + 1))
      case measure => go_light; omega
      case rel =>
        have hlt2 := HPS.out.1.lt
        exact ⟨k + 1, H, w2.heap.size, 0, m, a2, _, _, _, _, by omega, rfl, by go_num, rfl, hH1, by omega, hid (fun i hi => (HF.out i hi).next hlt HX.out), hid HY2.out.tabs, hid ⟨by omega, fun i hi => by have := (HY2.out.high i hi).1; omega⟩, hid (HPS.out.1.kept HY2.out.below)⟩
    · have e : k = n := by omega
      subst e
      have hM : M = 1 := by have := (HF.out 0 (by omega)).1; rw [Nat.sub_self, Nat.pow_zero] at this; exact this
      subst hM
      have hmk := run_make_row' (P := Tryz.prog) 22 31 (.int .u64 0) 8 Tryz.underlying22 Tryz.infoM rfl .i64 .i64 m (by omega) (by omega)
      go_wp2_with fail
      clear hmk
      go_loopg [50] m (fun q i wq => ∃ t : Nat, t ≤ m ∧ q = m - t ∧ i = .int .i64 (t : Int) ∧ Hid (Made wr wq m (leftF G t)))
      case atStart => exact ⟨0, by omega, rfl, rfl, hid ((Made.start wr m 31).congr fun j _ => by rw [leftF, if_neg (by omega)])⟩
      case round =>
        obtain ⟨t, ht, rfl, rfl, HM⟩ := hrel
        by_cases hlt2 : t < m
        · have htb := HTB.out.kept HM.out.below (by omega)
          have c1 := htb.cell t hlt2
          have c2 := htb.row t hlt2 0 (by omega)
          rw [Nat.add_zero] at c2
          have c3 := HM.out.cell t hlt2
          have f3 := HM.out.frozen t hlt2
          obtain ⟨y, hy⟩ : ∃ y, G t 0 = y := ⟨_, rfl⟩
          obtain ⟨z, hz⟩ : ∃ z, leftF G t t = z := ⟨_, rfl⟩
          have by1 := (HF.out t hlt2).2.1 0
          rw [hy] at c2 by1
          rw [hz] at c3
          obtain ⟨y0, y1⟩ := by1
          have HYY := hid hy
          clear hy hz htb
          have t0 : (0 : Int) ≤ (t : Int) := by omega
          have t1 : (t : Int) < (m : Int) := by omega
          go_wp2_with (go_at_call 48; refine (norm_any _ _ (by omega) (by omega)).mono ?_; rintro e w' ⟨rfl, hw⟩; obtain rfl := hw.symm)
          go_roundg (m - (t + 1))
          case measure => go_light; omega
          case rel => exact ⟨t + 1, by omega, rfl, by go_num, hid ((HM.out.store t _ hlt2).congr fun j _ => left_step G t j y HYY.out)⟩
        · have e : t = m := by omega
          subst e
          go_wp2_with fail
          go_ret3
          exact ⟨_, _, rfl, HY.out.kept HM.out.below, HM.out.row.congr (fun j hj => by rw [leftF, if_pos hj]; exact (HF.out j hj).done), HY.out.below.size, HM.out.free⟩
theorem sprove_ok (B o m cap : Nat) (bv ov cv : Nat → Nat) (F : Nat → Nat → Int) (n N : Nat) (ad : Option Addr) (cd : Nat) (D : Nat → Int) (w : World) (hm1 : 1 ≤ m) (hm : m ≤ 3) (hn : n ≤ 8) (hN : N = 2 ^ n) (ht : Tab w) (hl : Tabs w B o m bv ov cv N F) (hv : ∀ i, i < m → Nums (F i)) (hd : PRow w ad n D) (hD : Nums D) :
    Calls Tryz.prog 16 #[.slice (some ⟨B, o, none⟩) m cap, .slice ad n cd] w fun e w' => ∃ (b2 : Nat) (a : Nat → Nat), e = .returned (.tuple #[.slice (some ⟨w.heap.size, 0, none⟩) n n, .slice (some ⟨b2, 0, none⟩) m m, .int .i64 0]) ∧ Lays w w' n n (m + 1) a (rightF F m n D) ∧ Row w' b2 0 m (fun i => ofK (evS (kF F i) (fun j => kk (D j)) n)) :=
  (sprove_own B o m cap bv ov cv F n N ad cd D w hm1 hm hn hN ht hl hv hd hD).mono fun e w' ⟨b2, a, h1, h2, h3, _⟩ => ⟨b2, a, h1, h2, h3⟩

end Go.Proofs.YtbchbmelofojkaaGreatDoor

/-
  Contracts of package circuit's rests, runLayer and Run, for right circuits; they make new blocks and write nothing that was there.
-/
namespace Go.Proofs.YtbchbmelofojkaaGreatDoor
open Go.RowKit Go.Deep
set_option linter.unusedVariables false
attribute [local go_sem ↓] Go.wp_at_zero Go.wp_at_succ

theorem Tryz.infoR : (Tryz.prog.info? 31).map (fun i => (i.zero, i.size, i.bytes)) = some (some (.int .u64 0), 1, 8) := by kernel_rfl
/-- A row of the call's own at block V, which may be written. -/
structure Out (w w' : World) (V n : Nat) (f : Nat → Int) : Prop where
  below : Below w.heap.size w w'
  row : Row w' V 0 n f
  free : Free w' V 0 n
  ge : w.heap.size ≤ V
  lt : V < w'.heap.size
theorem Out.start {w w0 : World} (hb : Below w.heap.size w w0) (n : Nat) (t : TypeId) : Out w (w0.alloc (.cells (madeCells #[.int .u64 0] n) t)) w0.heap.size n (fun _ => 0) :=
  have h := Made.start w0 n t
  ⟨hb.trans (h.below.mono hb.size), h.row, h.free, hb.size, by simp⟩
theorem Out.cell {w w' : World} {V n : Nat} {f : Nat → Int} (h : Out w w' V n f) (j : Nat) (hj : j < n) : w'.cell? ⟨V, j, none⟩ = some (.int .u64 (f j)) := by
  have := h.row j hj
  rwa [Nat.zero_add] at this
theorem Out.frozen {w w' : World} {V n : Nat} {f : Nat → Int} (h : Out w w' V n f) (j : Nat) (hj : j < n) : w'.frozen? ⟨V, j, none⟩ = false := by
  have := h.free j hj
  rwa [Nat.zero_add] at this
theorem Out.kept {w w1 w2 : World} {V n : Nat} {f : Nat → Int} (h : Out w w1 V n f) (hb : Below w1.heap.size w1 w2) : Out w w2 V n f :=
  ⟨h.below.trans (hb.mono h.below.size), h.row.kept hb h.lt, h.free.kept hb h.lt, h.ge, Nat.lt_of_lt_of_le h.lt hb.size⟩
theorem Out.congr {w w' : World} {V n : Nat} {f g : Nat → Int} (h : Out w w' V n f) (e : ∀ j, j < n → f j = g j) : Out w w' V n g := ⟨h.below, h.row.congr e, h.free, h.ge, h.lt⟩
theorem Out.store {w w' : World} {V n : Nat} {f : Nat → Int} (h : Out w w' V n f) (i : Nat) (x : Int) (hi : i < n) : Out w (w'.setCell ⟨V, i, none⟩ (.int .u64 x)) V n (fun j => if j = i then x else f j) := by
  have hs := h.row.store i x hi
  rw [Nat.zero_add] at hs
  exact ⟨h.below.setCell h.ge _, hs, fun j hj => by rw [World.frozen?_setCell]; exact h.free j hj, h.ge, by rw [World.size_setCell]; exact h.lt⟩
theorem put_step (f : Nat → Int) (k j : Nat) (a : Int) (ha : f k = a) : (if j = k then a else if j < k then f j else 0) = if j < k + 1 then f j else 0 := by
  by_cases e : j = k
  · subst e; rw [if_pos rfl, if_pos (by omega), ha]
  · rw [if_neg e]
    by_cases h2 : j < k
    · rw [if_pos h2, if_pos (by omega)]
    · rw [if_neg h2, if_neg (by omega)]

set_option maxHeartbeats 1000000 in
set_option maxRecDepth 100000 in
theorem rests_any (b off n cap : Nat) (f : Nat → Int) (w : World) (hn : n ≤ 1000) (hr : Row w b off n f) (hv : Nums f) :
    Calls Tryz.prog 56 #[.slice (some ⟨b, off, none⟩) n cap] w fun e w' => e = .returned (.slice (some ⟨w.heap.size, 0, none⟩) n n) ∧ Made w w' n (fun j => nrm (f j)) := by
  have HR := hid hr
  have HV := hid hv
  clear hr hv
  have hmk := run_make_row' (P := Tryz.prog) 22 31 (.int .u64 0) 8 Tryz.underlying22 Tryz.infoR rfl .i64 .i64 n (by omega) (by omega)
  go_enter Tryz.func56, Tryz.ntmps56
  go_wp2_with fail
  clear hmk
  go_loopg [11] n (fun g i wr => ∃ k : Nat, k ≤ n ∧ g = n - k ∧ i = .int .i64 (k : Int) ∧ Hid (Made w wr n (fun j => if j < k then nrm (f j) else 0)))
  case atStart => exact ⟨0, by omega, rfl, rfl, hid ((Made.start w n 31).congr fun j _ => by rw [if_neg (by omega)])⟩
  case round =>
    obtain ⟨k, hk, rfl, rfl, HM⟩ := hrel
    by_cases hlt : k < n
    · have c1 := HM.out.old HR.out k (by omega)
      have c3 := HM.out.cell k hlt
      have f3 := HM.out.frozen k hlt
      rw [if_neg (by omega)] at c3
      obtain ⟨a, ha⟩ : ∃ a, f k = a := ⟨_, rfl⟩
      obtain ⟨a0, a1⟩ := HV.out k
      rw [ha] at c1 a0 a1
      have HA := hid ha
      clear ha
      have k0 : (0 : Int) ≤ (k : Int) := by omega
      have k1 : (k : Int) < (n : Int) := by omega
      go_wp2_with (go_at_call 48; refine (norm_any _ _ (by omega) (by omega)).mono ?_; rintro e w' ⟨rfl, hw⟩; obtain rfl := hw.symm)
      go_roundg (n - (k + 1))
      case measure => go_light; omega
      case rel => exact ⟨k + 1, by omega, rfl, by go_num, hid ((HM.out.store k _ hlt).congr fun j _ => put_step (fun j => nrm (f j)) k j _ (by rw [HA.out]))⟩
    · have e : k = n := by omega
      subst e
      go_wp2_with fail
      go_ret
      exact ⟨rfl, HM.out.congr fun j hj => by rw [if_pos hj]⟩

theorem layV_at {gs : List GQ} {F : Nat → Int} {t : Nat} {x : GQ} (h : gs[t]? = some x) : layV gs F t = if x.mul then mulQ (F x.a.toNat) (F x.b.toNat) else addQ (F x.a.toNat) (F x.b.toNat) := by
  unfold layV; rw [h]
set_option maxHeartbeats 1000000 in
set_option maxRecDepth 100000 in
theorem runlay_any (gs : List GQ) (lg : Int) (ga : Option Addr) (m gc b off nb cap : Nat) (F : Nat → Int) (w : World) (hm : gs.length = m) (m16 : m ≤ 1000) (hr : GRow w ga gs) (hg : ∀ q ∈ gs, gateOk (nb : Int) q) (hn : nb ≤ 1000) (hb : Row w b off nb F) (hv : Nums F) :
    Calls Tryz.prog 57 #[.agg #[.int .i64 lg, .slice ga m gc], .slice (some ⟨b, off, none⟩) nb cap] w fun e w' => ∃ V, e = .returned (.slice (some ⟨V, 0, none⟩) m m) ∧ Out w w' V m (layV gs F) := by
  have HR := hid hr
  have HM := hid hm
  have HG := hid hg
  have HV := hid hv
  have HBR := hid hb
  clear hr hm hg hv hb
  have hmk := run_make_row' (P := Tryz.prog) 22 31 (.int .u64 0) 8 Tryz.underlying22 Tryz.infoR rfl .i64 .i64 m (by omega) (by omega)
  go_enter Tryz.func57, Tryz.ntmps57
  go_wp2_with fail
  clear hmk
  have hal := (Below.refl w.heap.size w).alloc (Nat.le_refl _) (.cells #[.int .i64 lg, .slice ga m gc] 96)
  have HO0 := hid ((Out.start hal m 31).congr fun j _ => (show (fun _ => (0 : Int)) j = (fun j => if j < 0 then layV gs F j else 0) j from by dsimp only; rw [if_neg (by omega)]))
  have e1 : (w.alloc (.cells #[.int .i64 lg, .slice ga m gc] 96)).heap.size = w.heap.size + 1 := by simp
  rw [e1] at HO0
  obtain ⟨V, hV⟩ : ∃ V, w.heap.size + 1 = V := ⟨_, rfl⟩
  rw [hV] at HO0 ⊢
  generalize (w.alloc (.cells #[.int .i64 lg, .slice ga m gc] 96)).alloc (.cells (madeCells #[.int .u64 0] m) 31) = W0 at HO0 ⊢
  clear hal e1 hV
  go_loopg [17] m (fun q i wr => ∃ t : Nat, t ≤ m ∧ q = m - t ∧ i = .int .i64 (t : Int) ∧ Hid (Out w wr V m (fun j => if j < t then layV gs F j else 0)))
  case atStart => exact ⟨0, by omega, rfl, rfl, HO0⟩
  case round =>
    clear HO0
    obtain ⟨t, ht, rfl, rfl, HO⟩ := hrel
    by_cases htl : t < m
    · obtain ⟨x, hx⟩ : ∃ x, gs[t]? = some x := ⟨gs[t]'(by rw [HM.out]; exact htl), by simp⟩
      obtain ⟨gb, go, rfl, hgc⟩ := HR.out.kept HO.out.below (by intro e; have := HM.out; rw [e] at this; simp at this; omega)
      obtain ⟨q0, q1, q2⟩ := hgc t x hx
      obtain ⟨⟨a0, a1⟩, b0, b1⟩ := HG.out x (List.mem_of_getElem? hx)
      rw [Nat.mul_comm 3 t] at q0 q1 q2
      obtain ⟨xm, hxm⟩ : ∃ v, x.mul = v := ⟨_, rfl⟩
      obtain ⟨ia, hia⟩ : ∃ v : Nat, x.a = (v : Int) := ⟨x.a.toNat, by omega⟩
      obtain ⟨ib, hib⟩ : ∃ v : Nat, x.b = (v : Int) := ⟨x.b.toNat, by omega⟩
      rw [hxm] at q0
      rw [hia] at q1 a1
      rw [hib] at q2 b1
      have hlay := layV_at (F := F) hx
      rw [hxm, hia, hib, Int.toNat_natCast, Int.toNat_natCast] at hlay
      clear hgc hx hxm hia hib a0 b0
      obtain ⟨b', off', eb, hrow⟩ := (PRow.of HBR.out).kept HO.out.below (by omega)
      cases eb
      obtain ⟨va, hva⟩ : ∃ v, F ia = v := ⟨_, rfl⟩
      obtain ⟨vb, hvb⟩ : ∃ v, F ib = v := ⟨_, rfl⟩
      have bb : b < wr.heap.size := World.block_lt_of_cell? wr _ (hrow ia (by omega))
      have ca : ∀ o, (wr.alloc o).cell? ⟨b, off + ia, none⟩ = some (.int .u64 va) := fun o => by rw [World.cell?_alloc_old _ _ _ (Nat.ne_of_lt bb), ← hva]; exact hrow ia (by omega)
      have cb : ∀ o, (wr.alloc o).cell? ⟨b, off + ib, none⟩ = some (.int .u64 vb) := fun o => by rw [World.cell?_alloc_old _ _ _ (Nat.ne_of_lt bb), ← hvb]; exact hrow ib (by omega)
      obtain ⟨va0, va1⟩ := HV.out ia
      obtain ⟨vb0, vb1⟩ := HV.out ib
      rw [hva] at va0 va1 hlay
      rw [hvb] at vb0 vb1 hlay
      clear hva hvb hrow bb
      have t0 : (0 : Int) ≤ (t : Int) := by omega
      have t1 : (t : Int) < (m : Int) := by omega
      have i0 : (0 : Int) ≤ (ia : Int) := by omega
      have i1 : (0 : Int) ≤ (ib : Int) := by omega
      cases xm with
      | true =>
        rw [if_pos rfl] at hlay
        have HLAY := hid hlay
        clear hlay
        have hal := (Below.refl wr.heap.size wr).alloc (Nat.le_refl _) (.cells #[.bool true, .int .i64 (ia : Int), .int .i64 (ib : Int)] 100)
        go_wp2_with fail
        go_quiet (fail)
        go_wp2_with fail
        have hB1 : Below wr.heap.size wr ((wr.alloc (.cells #[.bool true, .int .i64 (ia : Int), .int .i64 (ib : Int)] 100)).drewN nq) := ⟨hal.os, hal.tape, hal.output, hal.size, hal.block⟩
        have HO1 := hid (HO.out.kept hB1)
        clear hB1 hal HO ca cb q0 q1 q2
        generalize (wr.alloc (.cells #[.bool true, .int .i64 (ia : Int), .int .i64 (ib : Int)] 100)).drewN nq = W1 at HO1 ⊢
        have cv := HO1.out.cell t htl
        have fv := HO1.out.frozen t htl
        rw [if_neg (by omega)] at cv
        refine (mul_any va vb W1 (by omega) (by omega) (by omega) (by omega)).mono ?_
        rintro e w' ⟨rfl, hw⟩
        obtain rfl := hw.symm
        go_wp2_with fail
        go_roundg (m - (t + 1))
        case measure => go_light; omega
        case rel => exact ⟨t + 1, by omega, rfl, by go_num, hid ((HO1.out.store t _ htl).congr fun j _ => put_step (layV gs F) t j _ HLAY.out)⟩
      | false =>
        rw [if_neg (by decide)] at hlay
        have HLAY := hid hlay
        clear hlay
        have hal := (Below.refl wr.heap.size wr).alloc (Nat.le_refl _) (.cells #[.bool false, .int .i64 (ia : Int), .int .i64 (ib : Int)] 100)
        go_wp2_with fail
        go_quiet (fail)
        go_wp2_with fail
        have hB1 : Below wr.heap.size wr ((wr.alloc (.cells #[.bool false, .int .i64 (ia : Int), .int .i64 (ib : Int)] 100)).drewN nq) := ⟨hal.os, hal.tape, hal.output, hal.size, hal.block⟩
        have HO1 := hid (HO.out.kept hB1)
        clear hB1 hal HO ca cb q0 q1 q2
        generalize (wr.alloc (.cells #[.bool false, .int .i64 (ia : Int), .int .i64 (ib : Int)] 100)).drewN nq = W1 at HO1 ⊢
        have cv := HO1.out.cell t htl
        have fv := HO1.out.frozen t htl
        rw [if_neg (by omega)] at cv
        refine (add_any va vb W1 (by omega) (by omega) (by omega) (by omega)).mono ?_
        rintro e w' ⟨rfl, hw⟩
        obtain rfl := hw.symm
        go_wp2_with fail
        go_roundg (m - (t + 1))
        case measure => go_light; omega
        case rel => exact ⟨t + 1, by omega, rfl, by go_num, hid ((HO1.out.store t _ htl).congr fun j _ => put_step (layV gs F) t j _ HLAY.out)⟩
    · have e : t = m := by omega
      subst e
      go_wp2_with fail
      go_ret
      exact ⟨V, rfl, HO.out.congr fun j hj => by rw [if_pos hj]⟩

end Go.Proofs.YtbchbmelofojkaaGreatDoor

/-
  A contract of package circuit's Run, for every circuit and every list of inputs; it makes new blocks and writes nothing that was there.
-/
namespace Go.Proofs.YtbchbmelofojkaaGreatDoor
open Go.RowKit Go.Deep
set_option linter.unusedVariables false
attribute [local go_sem ↓] Go.wp_at_zero Go.wp_at_succ

theorem Tryz.infoRL : (Tryz.prog.info? 22).map (fun i => (i.zero, i.size, i.bytes)) = some (some (.slice none 0 0), 1, 24) := by kernel_rfl
/-- A list of m lists of the call's own at block V: k of them are stored, in blocks of their own. -/
structure OutL (w w' : World) (V m k : Nat) (L A : Nat → Nat) (F : Nat → Nat → Int) : Prop where
  below : Below w.heap.size w w'
  cell : ∀ i, i < k → w'.cell? ⟨V, i, none⟩ = some (.slice (some ⟨A i, 0, none⟩) (L i) (L i))
  zero : ∀ i, k ≤ i → i < m → w'.cell? ⟨V, i, none⟩ = some (.slice none 0 0)
  free : ∀ i, i < m → w'.frozen? ⟨V, i, none⟩ = false
  ge : w.heap.size ≤ V
  lt : V < w'.heap.size
  row : ∀ i, i < k → Row w' (A i) 0 (L i) (F i)
  own : ∀ i, i < k → w.heap.size ≤ A i ∧ A i < w'.heap.size ∧ A i ≠ V
  may : ∀ i, i < k → Free w' (A i) 0 (L i)
theorem OutL.start {w w0 : World} (hb : Below w.heap.size w w0) (m : Nat) (t : TypeId) (L A : Nat → Nat) (F : Nat → Nat → Int) : OutL w (w0.alloc (.cells (madeCells #[.slice none 0 0] m) t)) w0.heap.size m 0 L A F :=
  ⟨hb.alloc hb.size _, fun i hi => absurd hi (by omega), fun i _ hi => by rw [World.cell?_alloc_new]; simp [madeCells, hi, Nat.mod_one], fun i _ => by rw [World.frozen?_alloc_new], hb.size, by simp, fun i hi => absurd hi (by omega), fun i hi => absurd hi (by omega), fun i hi => absurd hi (by omega)⟩
theorem OutL.kept {w w1 w2 : World} {V m k : Nat} {L A : Nat → Nat} {F : Nat → Nat → Int} (h : OutL w w1 V m k L A F) (hb : Below w1.heap.size w1 w2) : OutL w w2 V m k L A F :=
  ⟨h.below.trans (hb.mono h.below.size), fun i hi => (hb.cell h.lt).trans (h.cell i hi), fun i h1 h2 => (hb.cell h.lt).trans (h.zero i h1 h2), fun i hi => (hb.frozen h.lt).trans (h.free i hi), h.ge, Nat.lt_of_lt_of_le h.lt hb.size,
    fun i hi => (h.row i hi).kept hb (h.own i hi).2.1, fun i hi => ⟨(h.own i hi).1, Nat.lt_of_lt_of_le (h.own i hi).2.1 hb.size, (h.own i hi).2.2⟩, fun i hi => (h.may i hi).kept hb (h.own i hi).2.1⟩
/-- One list more is stored. -/
theorem OutL.put {w w1 : World} {V m k : Nat} {L A : Nat → Nat} {F : Nat → Nat → Int} (h : OutL w w1 V m k L A F) (hk : k < m) {U : Nat} (hl : w.heap.size ≤ U) (hu : U < w1.heap.size) (hne : U ≠ V) (hr : Row w1 U 0 (L k) (F k)) (hf : Free w1 U 0 (L k)) :
    OutL w (w1.setCell ⟨V, k, none⟩ (.slice (some ⟨U, 0, none⟩) (L k) (L k))) V m (k + 1) L (putA A k U) F := by
  have far : ∀ (b : Nat), b ≠ V → (w1.setCell ⟨V, k, none⟩ (.slice (some ⟨U, 0, none⟩) (L k) (L k))).heap[b]? = w1.heap[b]? := fun b hb => Below.heap_setCell _ _ _ _ hb
  refine ⟨h.below.setCell h.ge _, fun i hi => ?_, fun i h1 h2 => ?_, fun i hi => by rw [World.frozen?_setCell]; exact h.free i hi, h.ge, by rw [World.size_setCell]; exact h.lt, fun i hi => ?_, fun i hi => ?_, fun i hi j hj => ?_⟩
  · by_cases e : i = k
    · subst e
      rw [World.cell?_setCell_same _ _ _ (h.zero i (Nat.le_refl _) hk), putA, if_pos rfl]
    · rw [World.cell?_setCell_other _ _ _ _ (by intro e2; simp only [Addr.mk.injEq] at e2; omega), putA, if_neg e]
      exact h.cell i (by omega)
  · rw [World.cell?_setCell_other _ _ _ _ (by intro e2; simp only [Addr.mk.injEq] at e2; omega)]
    exact h.zero i (by omega) h2
  · by_cases e : i = k
    · subst e
      rw [putA, if_pos rfl]
      exact fun j hj => (World.cell?_of_block (w := w1) (far U hne)).trans (hr j hj)
    · rw [putA, if_neg e]
      exact fun j hj => (World.cell?_of_block (w := w1) (far _ (h.own i (by omega)).2.2)).trans (h.row i (by omega) j hj)
  · rw [World.size_setCell]
    by_cases e : i = k
    · rw [putA, if_pos e]; exact ⟨hl, hu, hne⟩
    · rw [putA, if_neg e]; exact h.own i (by omega)
  · rw [World.frozen?_setCell]
    by_cases e : i = k
    · subst e
      rw [putA, if_pos rfl]
      exact hf j hj
    · rw [putA, if_neg e]
      exact h.may i (by omega) j hj
theorem OutL.lists {w w1 : World} {V m : Nat} {L A : Nat → Nat} {F : Nat → Nat → Int} (h : OutL w w1 V m m L A F) : LRow w1 (some ⟨V, 0, .none⟩) m (fun i => some ⟨A i, 0, .none⟩) L L F :=
  fun _ => ⟨V, 0, rfl, fun i hi => ⟨by rw [Nat.zero_add]; exact h.cell i hi, PRow.of (h.row i hi)⟩⟩

set_option maxHeartbeats 1000000 in
theorem run_bad (c : CQ) (g : Int) (ao : Option Addr) (n cap : Nat) (A : Nat → Option Addr) (C : Nat → Nat) (ad : Option Addr) (k kc : Nat) (x : Int) (w : World) (hg : c.log = g) (hn : c.layers.length = n) (hr : CRow w ao c.layers A C) (hx : checkE c x) (hx0 : x ≠ 0) :
    Calls Tryz.prog 24 #[.agg #[.int .i64 g, .slice ao n cap], .slice ad k kc] w fun e w' => e = .returned (.tuple #[.slice none 0 0, .int .i64 x]) ∧ Below w.heap.size w w' := by
  have hal := (Below.refl w.heap.size w).alloc (Nat.le_refl _) (.cells #[.int .i64 g, .slice ao n cap] 25)
  have HC := hid (check_any c g ao n cap A C _ hg hn (hr.kept hal))
  have HX := hid hx
  have HAL := hid hal
  have e1 : (x != 0) = true := by simp [hx0]
  clear hr hx hal hg hn
  go_enter Tryz.func24, Tryz.ntmps24
  go_wp2_with fail
  refine (HC.out).mono ?_
  rintro e w1 ⟨y, rfl, hy, hb⟩
  obtain rfl := checkE_one hy HX.out
  have HB := hid (HAL.out.trans (hb.mono HAL.out.size))
  clear hb hy HX HC HAL
  go_wp2_with fail
  go_ret2
  exact ⟨rfl, HB.out⟩
set_option maxHeartbeats 1000000 in
theorem run_form (c : CQ) (g : Nat) (ao : Option Addr) (n cap : Nat) (A : Nat → Option Addr) (C : Nat → Nat) (ad : Option Addr) (k kc N : Nat) (w : World) (hg : c.log = (g : Int)) (hn : c.layers.length = n) (hr : CRow w ao c.layers A C) (hc : c.right) (sh : wrap64 ((2 : Int) ^ g) = (N : Int)) (hk : k ≠ N) :
    Calls Tryz.prog 24 #[.agg #[.int .i64 (g : Int), .slice ao n cap], .slice ad k kc] w fun e w' => e = .returned (.tuple #[.slice none 0 0, .int .i64 4]) ∧ Below w.heap.size w w' := by
  have hal := (Below.refl w.heap.size w).alloc (Nat.le_refl _) (.cells #[.int .i64 (g : Int), .slice ao n cap] 25)
  have g4 : g ≤ 4 := by have := hc.log; omega
  have HC := hid (check_any c (g : Int) ao n cap A C _ hg hn (hr.kept hal))
  have HX0 := hid (Box2.new w (.int .i64 (g : Int)) (.slice ao n cap) 25)
  have HX := hid (checkE_zero.2 hc)
  have HAL := hid hal
  have e1 : ((k : Int) != (N : Int)) = true := by simp; omega
  clear hr hc hal hg hn hk
  go_enter Tryz.func24, Tryz.ntmps24
  go_wp2_with fail
  refine (HC.out).mono ?_
  rintro e w1 ⟨y, rfl, hy, hb⟩
  obtain rfl := checkE_one hy HX.out
  have HB := hid (HAL.out.trans (hb.mono HAL.out.size))
  obtain ⟨z0, z1, zl⟩ := HX0.out.kept hb
  clear hb hy HX HC HAL HX0
  go_wp2_with fail
  go_ret2
  exact ⟨rfl, HB.out⟩

set_option maxHeartbeats 1000000 in
set_option maxRecDepth 100000 in
theorem run_ok (c : CQ) (g b off n cap : Nat) (A : Nat → Option Addr) (C : Nat → Nat) (db doff N kc : Nat) (f : Nat → Int) (w : World) (hg : c.log = (g : Int)) (hn : c.layers.length = n) (hr : CRow w (some ⟨b, off, none⟩) c.layers A C) (hc : c.right) (sh : wrap64 ((2 : Int) ^ g) = (N : Int)) (hN : lenQ c 0 = N) (N16 : N ≤ 16) (N1 : 1 ≤ N) (hi : Row w db doff N f) (hf : Nums f) :
    Calls Tryz.prog 24 #[.agg #[.int .i64 (g : Int), .slice (some ⟨b, off, none⟩) n cap], .slice (some ⟨db, doff, none⟩) N kc] w fun e w' => ∃ V D, e = .returned (.tuple #[.slice (some ⟨V, 0, none⟩) (n + 1) (n + 1), .int .i64 0]) ∧ OutL w w' V (n + 1) (n + 1) (lenQ c) D (valsQ c f) := by
  have hal := (Below.refl w.heap.size w).alloc (Nat.le_refl _) (.cells #[.int .i64 (g : Int), .slice (some ⟨b, off, none⟩) n cap] 25)
  have g4 : g ≤ 4 := by have := hc.log; omega
  have n4 : n ≤ 4 := by have := hc.few; omega
  have HC := hid (check_any c (g : Int) _ n cap A C _ hg hn (hr.kept hal))
  have HX0 := hid (Box2.new w (.int .i64 (g : Int)) (.slice (some ⟨b, off, none⟩) n cap) 25)
  have HX := hid (checkE_zero.2 hc)
  have HRT := hid hc
  have HAL := hid hal
  have HR := hid hr
  have HI := hid hi
  have HF := hid hf
  have HN := hid hn
  have HNN := hid hN
  have e1 : ((N : Int) != (N : Int)) = false := by simp
  clear hr hc hal hg hn hi hf hN
  go_enter Tryz.func24, Tryz.ntmps24
  go_wp2_with fail
  refine (HC.out).mono ?_
  rintro e w1 ⟨y, rfl, hy, hb⟩
  obtain rfl := checkE_one hy HX.out
  have HB := hid (HAL.out.trans (hb.mono HAL.out.size))
  obtain ⟨z0, z1, zl⟩ := HX0.out.kept hb
  obtain ⟨B, hB⟩ : ∃ B, w.heap.size = B := ⟨_, rfl⟩
  rw [hB] at z0 z1 zl ⊢
  clear hb hy HX HC HAL HX0 hB
  have hmk := run_make_row' (P := Tryz.prog) 36 22 (.slice none 0 0) 24 Tryz.underlying36 Tryz.infoRL rfl .i64 .i64 (n + 1) (by omega) (by omega)
  rw [show ((n + 1 : Nat) : Int) = (n : Int) + 1 from by omega] at hmk
  go_wp2_with fail
  clear hmk z0
  have HO0 := hid (OutL.start HB.out (n + 1) 22 (lenQ c) (fun _ => 0) (valsQ c f))
  have HZ1 : Hid ((w1.alloc (.cells (madeCells #[.slice none 0 0] (n + 1)) 22)).cell? ⟨B, 1, none⟩ = some (.slice (some ⟨b, off, none⟩) n cap) ∧ B < (w1.alloc (.cells (madeCells #[.slice none 0 0] (n + 1)) 22)).heap.size) := hid ⟨by rw [World.cell?_alloc_old _ _ _ (Nat.ne_of_lt zl)]; exact z1, by simp; omega⟩
  obtain ⟨V, hV⟩ : ∃ V, w1.heap.size = V := ⟨_, rfl⟩
  have hBV : B ≠ V := by omega
  rw [hV] at HO0 ⊢
  clear hV z1 zl
  generalize w1.alloc (.cells (madeCells #[.slice none 0 0] (n + 1)) 22) = W0 at HO0 HZ1 ⊢
  refine (rests_any db doff N kc f W0 (by omega) (fun j hj => by have := (PRow.of HI.out).kept HO0.out.below (by omega); obtain ⟨_, _, e, hr⟩ := this; cases e; exact hr j hj) HF.out).mono ?_
  rintro e w2 ⟨rfl, hm⟩
  have HO1 := hid (HO0.out.kept hm.below)
  have HZ2 := hid (And.intro ((hm.below.cell HZ1.out.2).trans HZ1.out.1) (Nat.lt_of_lt_of_le HZ1.out.2 hm.below.size))
  have HM := hid hm
  have hUV : W0.heap.size ≠ V := fun e => by have := HO0.out.lt; omega
  have hU : Hid (w.heap.size ≤ W0.heap.size ∧ W0.heap.size < w2.heap.size) := hid ⟨HO0.out.below.size, hm.row.lt (by omega)⟩
  have cv := HO1.out.zero 0 (by omega) (by omega)
  have fv := HO1.out.free 0 (by omega)
  obtain ⟨U, hUE⟩ : ∃ U, W0.heap.size = U := ⟨_, rfl⟩
  have HMR := hid hm.row
  have HMF := hid hm.free
  rw [hUE] at hU hUV HMR HMF ⊢
  clear hm HM hUE HO0 HZ1
  have n0 : (0 : Int) < (n : Int) + 1 := by omega
  obtain ⟨zz, zzl⟩ := HZ2.out
  go_wp2_with fail
  have HO2 : Hid (∃ D, OutL w (w2.setCell ⟨V, 0, none⟩ (.slice (some ⟨U, 0, none⟩) N N)) V (n + 1) (0 + 1) (lenQ c) D (valsQ c f)) := hid ⟨_, by
    have hp := HO1.out.put (by omega) hU.out.1 hU.out.2 hUV (by rw [HNN.out]; exact HMR.out.congr fun j _ => rfl) (by rw [HNN.out]; exact HMF.out)
    rw [HNN.out] at hp
    exact hp⟩
  generalize w2.setCell ⟨V, 0, none⟩ (.slice (some ⟨U, 0, none⟩) N N) = W2 at HO2 ⊢
  clear HO1 HZ2 HMR HMF hU hUV cv fv zz zzl hBV HB HI HF sh n0 e1
  go_loopg [33] n (fun q i wr => ∃ k : Nat, k ≤ n ∧ q = n - k ∧ i = .int .i64 (k : Int) ∧ Hid (∃ D, OutL w wr V (n + 1) (k + 1) (lenQ c) D (valsQ c f)))
  case atStart => exact ⟨0, by omega, rfl, rfl, HO2⟩
  case round =>
    clear HO2
    obtain ⟨k, hk, rfl, rfl, HO⟩ := hrel
    obtain ⟨D, hO⟩ := HO.out
    have HO := hid hO
    clear hO
    by_cases hlt : k < n
    · obtain ⟨l, hl⟩ : ∃ l, c.layers[k]? = some l := ⟨c.layers[k]'(by rw [HN.out]; exact hlt), by simp⟩
      obtain ⟨b', off', eb, hc⟩ := HR.out.kept HO.out.below (by intro e; have := HN.out; rw [e] at this; simp at this; omega)
      cases eb
      obtain ⟨y0, y1, y2, y3⟩ := hc k l hl
      rw [Nat.mul_comm 2 k] at y0 y1
      obtain ⟨lg, hlg⟩ : ∃ x, l.log = x := ⟨_, rfl⟩
      obtain ⟨m, hm⟩ : ∃ x, l.gates.length = x := ⟨_, rfl⟩
      obtain ⟨ga, hga⟩ : ∃ x, A k = x := ⟨_, rfl⟩
      obtain ⟨gc, hgc⟩ : ∃ x, C k = x := ⟨_, rfl⟩
      obtain ⟨nb, hnb⟩ : ∃ x, lenQ c k = x := ⟨_, rfl⟩
      obtain ⟨dk, hdk⟩ : ∃ x, D k = x := ⟨_, rfl⟩
      have cv := HO.out.cell k (by omega)
      have vl := HO.out.lt
      rw [hlg] at y0
      rw [hm, hga, hgc] at y1
      rw [hga] at y2
      rw [hdk, hnb] at cv
      have mr := lenQ_rng HRT.out (k + 1) (by rw [HN.out]; omega)
      have nr := lenQ_rng HRT.out k (by rw [HN.out]; omega)
      have hme := lenQ_layer HRT.out hl
      rw [hm] at hme
      rw [← hme] at mr
      rw [hnb] at nr
      have HC : Hid (∀ W, Below wr.heap.size wr W → Calls Tryz.prog 57 #[.agg #[.int .i64 lg, .slice ga m gc], .slice (some ⟨dk, 0, none⟩) nb nb] W fun e w' => ∃ U, e = .returned (.slice (some ⟨U, 0, none⟩) m m) ∧ Out W w' U m (layV l.gates (valsQ c f k))) := hid fun W hb =>
        runlay_any l.gates lg ga m gc dk 0 nb nb (valsQ c f k) W hm (by omega) (y2.kept hb) (by have := (HRT.out.layer k l hl).2.2; rw [← hnb]; exact this) (by omega) (by have := (HO.out.kept hb).row k (by omega); rw [hdk, hnb] at this; exact this) (Nums_vals c f k)
      have HL := hid (And.intro (vals_layer (f := f) hl) hme)
      clear hc y2 y3 hl hlg hm hga hgc hnb hdk hme
      have k0 : (0 : Int) ≤ (k : Int) := by omega
      have k1 : (k : Int) < (n : Int) := by omega
      have k2 : (k : Int) < (n : Int) + 1 := by omega
      have k3 : (k : Int) + 1 < (n : Int) + 1 := by omega
      have k4 : (0 : Int) ≤ (k : Int) + 1 := by omega
      have k5 : IntKind.i64.wrap ((k : Int) + 1) = (k : Int) + 1 := IntWalk.i64_in _ (by omega)
      have k6 : ((k : Int) + 1).toNat = k + 1 := by omega
      have k7 : k < n + 1 := by omega
      have cv2 : ∀ o, (wr.alloc o).cell? ⟨V, k, none⟩ = some (.slice (some ⟨dk, 0, none⟩) nb nb) := fun o => by rw [World.cell?_alloc_old _ _ _ (Nat.ne_of_lt vl)]; exact cv
      have HAL := hid ((Below.refl wr.heap.size wr).alloc (Nat.le_refl _) (.cells #[.int .i64 lg, .slice ga m gc] 96))
      clear cv
      go_wp2_with fail
      go_region_with (first | (go_at_call 57; refine (HC.out _ (by exact HAL.out.drew)).mono ?_; rintro e w3 ⟨U, rfl, hU⟩; have HU := hid hU; have HO3 := hid (HO.out.kept (HAL.out.drew.trans (hU.below.mono HAL.out.drew.size))); have cz := HO3.out.zero (k + 1) (by omega) (by omega); have fz := HO3.out.free (k + 1) (by omega); clear hU))
      all_goals (go_wp2_with fail)
      all_goals (go_roundg (n - (k + 1)))
      all_goals first | (go_light; omega) | skip
      all_goals
        refine ⟨k + 1, by omega, rfl, by go_num, hid ⟨putA D (k + 1) U, ?_⟩⟩
        have hge : wr.heap.size ≤ U := Nat.le_trans HAL.out.drew.size HU.out.ge
        have hrow : Row w3 U 0 (lenQ c (k + 1)) (valsQ c f (k + 1)) := by rw [← HL.out.2, ← HL.out.1]; exact HU.out.row
        have hp := HO3.out.put (by omega) (Nat.le_trans HO.out.below.size hge) HU.out.lt (by omega) hrow (by rw [← HL.out.2]; exact HU.out.free)
        rw [← HL.out.2] at hp
        exact hp
    · have e : k = n := by omega
      subst e
      go_wp2_with fail
      go_ret2
      exact ⟨V, D, rfl, HO.out⟩

end Go.Proofs.YtbchbmelofojkaaGreatDoor
