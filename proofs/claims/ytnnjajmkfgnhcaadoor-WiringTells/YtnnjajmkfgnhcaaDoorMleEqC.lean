/-
  Contracts of package mle's split and Eq, each for every input: the table of a point's weights; nothing that was there is written but the row that split is handed.
-/
import Derived.Test.YtnnjajmkfgnhcaaDoorChecked
import Derived.Test.YtnnjajmkfgnhcaaDoorMulti
import Derived.Test.YtnnjajmkfgnhcaaDoorMem
import Derived.Test.YtnnjajmkfgnhcaaDoorFieldA
import Derived.WalkKit
import Derived.Deep.RegionHeld3
import Derived.Deep.RegionWith
import Derived.Deep.OwnRows
import Derived.Deep.LoopGhost
import Derived.Deep.Light
import Derived.Deep.DrawnRows
namespace Go.Proofs.YtnnjajmkfgnhcaaDoor
open Go.RowKit
set_option linter.unusedVariables false
attribute [local go_sem ↓] Go.wp_at_zero Go.wp_at_succ

/-- What split leaves at c. -/
def splF (f : Nat → Int) (x : Int) (c : Nat) : Int := if c % 2 = 1 then mulQ (f (c / 2)) x else subQ (f (c / 2)) (mulQ (f (c / 2)) x)
/-- The row behind k rounds of split, from the end down. -/
def splM (f : Nat → Int) (x : Int) (m k : Nat) (c : Nat) : Int := if 2 * (m - k) ≤ c then splF f x c else f c
theorem spl_step (f : Nat → Int) (x a : Int) (m k q c : Nat) (hq : q + k + 1 = m) (ha : f q = a) : (if c = 2 * q then subQ a (mulQ a x) else if c = 2 * q + 1 then mulQ a x else splM f x m k c) = splM f x m (k + 1) c := by
  unfold splM splF
  by_cases e : c = 2 * q
  · subst e
    rw [if_pos rfl, if_pos (by omega), if_neg (by omega), show 2 * q / 2 = q from by omega, ha]
  · rw [if_neg e]
    by_cases e2 : c = 2 * q + 1
    · subst e2
      rw [if_pos rfl, if_pos (by omega), if_pos (by omega), show (2 * q + 1) / 2 = q from by omega, ha]
    · rw [if_neg e2]
      by_cases h : 2 * (m - k) ≤ c
      · have h' : 2 * (m - (k + 1)) ≤ c := by omega
        rw [if_pos h, if_pos h']
      · have h' : ¬2 * (m - (k + 1)) ≤ c := by omega
        rw [if_neg h, if_neg h']
theorem splM_end (f : Nat → Int) (x : Int) (m c : Nat) : splM f x m m c = splF f x c := by
  unfold splM; rw [if_pos (by omega)]

set_option maxHeartbeats 2000000 in
set_option maxRecDepth 100000 in
theorem split_any (b off m cap : Nat) (f : Nat → Int) (x : Int) (w : World) (hm : m ≤ 1000) (hr : Row w b off (2 * m) f) (hf : Free w b off (2 * m)) (hv : Nums f) (x0 : 0 ≤ x) (x1 : x ≤ 18446744073709551615) :
    Calls Tryd.prog 93 #[.slice (some ⟨b, off, none⟩) (2 * m) cap, .int .u64 x] w fun e w' => e = .returned (.tuple #[]) ∧ Wrote b off (2 * m) w w' ∧ Row w' b off (2 * m) (splF f x) := by
  have HR := hid hr
  have HF := hid hf
  have HV := hid hv
  clear hr hf hv
  go_enter Tryd.func93, Tryd.ntmps93
  have hd : ((2 * m : Nat) : Int) / 2 = (m : Int) := by omega
  go_wp2_with fail
  go_loopg [4] m (fun g i wr => ∃ (k : Nat) (t : Int), k ≤ m ∧ g = m - k ∧ i = .int .i64 t ∧ Hid (t = (m : Int) - 1 - k) ∧ Hid (Wrote b off (2 * m) w wr) ∧ Hid (Row wr b off (2 * m) (splM f x m k)))
  case atStart => exact ⟨0, _, by omega, rfl, rfl, hid (by omega), hid (Wrote.refl _ _ _ _), hid (HR.out.congr fun j hj => by unfold splM; rw [if_neg (by omega)])⟩
  case round =>
    obtain ⟨k, t, hk, rfl, rfl, HT, HW, HM⟩ := hrel
    by_cases hlt : k < m
    · obtain ⟨q, hq⟩ : ∃ q : Nat, q + k + 1 = m := ⟨m - 1 - k, by omega⟩
      have ht : t = (q : Int) := by have := HT.out; omega
      subst ht
      have HQ := hid hq
      have hqm : q < m := by omega
      have q0 : (0 : Int) ≤ (q : Int) := by omega
      have q1 : (q : Int) < (m : Int) := by omega
      have c1 := HM.out q (by omega)
      have e1 : splM f x m k q = f q := by unfold splM; rw [if_neg (by omega)]
      rw [e1] at c1
      clear hq e1
      obtain ⟨a, ha⟩ : ∃ a, f q = a := ⟨_, rfl⟩
      have ba := HV.out q
      rw [ha] at c1 ba
      obtain ⟨a0, a1⟩ := ba
      have HA := hid ha
      clear ha
      obtain ⟨s0, s1⟩ := mulQ_rng a x
      have c2 := HM.out (2 * q + 1) (by omega)
      have c3 := HM.out (2 * q) (by omega)
      obtain ⟨y2, hy2⟩ : ∃ y, splM f x m k (2 * q + 1) = y := ⟨_, rfl⟩
      obtain ⟨y3, hy3⟩ : ∃ y, splM f x m k (2 * q) = y := ⟨_, rfl⟩
      rw [hy2] at c2
      rw [hy3] at c3
      clear hy2 hy3
      have f2 : wr.frozen? ⟨b, off + (2 * q + 1), none⟩ = false := (HF.out.wrote HW.out) _ (by omega)
      have f3 : wr.frozen? ⟨b, off + 2 * q, none⟩ = false := (HF.out.wrote HW.out) _ (by omega)
      have q2 : (0 : Int) ≤ 2 * (q : Int) + 1 := by omega
      have q3 : 2 * (q : Int) + 1 < ((2 * m : Nat) : Int) := by omega
      have q4 : (0 : Int) ≤ 2 * (q : Int) := by omega
      have q5 : 2 * (q : Int) < ((2 * m : Nat) : Int) := by omega
      have q6 : (q : Int) < ((2 * m : Nat) : Int) := by omega
      go_wp2_with (first | (go_at_call 52; refine (mul_any _ _ _ (by omega) (by omega) (by omega) (by omega)).mono ?_; rintro e w' ⟨rfl, hw⟩; obtain rfl := hw.symm) | (go_at_call 31; refine (sub_any _ _ _ (by omega) (by omega) (by omega) (by omega)).mono ?_; rintro e w' ⟨rfl, hw⟩; obtain rfl := hw.symm))
      go_roundg (m - (k + 1))
      case measure => go_light; omega
      case rel =>
        refine ⟨k + 1, _, by omega, rfl, rfl, hid (by have := HT.out; omega), hid ((HW.out.store (by omega) (by omega) _).store (by omega) (by omega) _), hid (((HM.out.store (2 * q + 1) _ (by omega)).store (2 * q) _ (by omega)).congr fun j _ => ?_)⟩
        exact spl_step f x a m k q j HQ.out HA.out
    · have e : k = m := by omega
      subst e
      have ht : t = -1 := by have := HT.out; omega
      subst ht
      go_wp2_with fail
      go_end0
      exact ⟨rfl, HW.out, HM.out.congr fun j _ => splM_end f x k j⟩

theorem Tryd.infoN : (Tryd.prog.info? 26).map (fun i => (i.zero, i.size, i.bytes)) = some (some (.int .u64 0), 1, 8) := by kernel_rfl
theorem Made.one (w : World) (n : Nat) (t : TypeId) : Made w (w.alloc (.cells ((madeCells #[.int .u64 0] n).setIfInBounds 0 (.int .u64 1)) t)) n (fun j => if j = 0 then 1 else 0) := by
  refine ⟨(Below.refl _ _).alloc (Nat.le_refl _) _, fun j hj => ?_, fun j _ => ?_⟩
  · rw [Nat.zero_add, World.cell?_alloc_new]
    by_cases e : j = 0
    · subst e; simp [madeCells, hj]
    · simp [madeCells, hj, Nat.mod_one, e, Ne.symm e]
  · rw [Nat.zero_add, World.frozen?_alloc_new]
/-- The weights as numbers. -/
def wgt (g : Nat → Int) (n c : Nat) : Int := ofK (eqK (fun j => kk (g j)) n c)
theorem wgt_step (g : Nat → Int) (n c : Nat) : splF (wgt g n) (g n) c = wgt g (n + 1) c := by
  unfold splF wgt
  rw [eqK]
  by_cases h : c % 2 = 1
  · rw [if_pos h, if_pos h, mulQ_ofK, kk_ofK]
  · rw [if_neg h, if_neg h, subQ_ofK, kk_mulQ, kk_ofK]
    congr 1
    grind
theorem wgt_start (g : Nat → Int) (j : Nat) : (if j = 0 then (1 : Int) else 0) = if j < 2 ^ 0 then wgt g 0 j else 0 := by
  rw [Nat.pow_zero]
  by_cases h : j = 0
  · rw [if_pos h, if_pos (by omega)]; rfl
  · rw [if_neg h, if_neg (by omega)]
theorem Nums_wgt (g : Nat → Int) (k : Nat) : Nums (fun j => if j < 2 ^ k then wgt g k j else 0) := fun j => by
  dsimp only
  split
  · exact ofK_u64 _
  · omega
theorem wgt_next (g : Nat → Int) (k M : Nat) (a : Int) (j : Nat) (hM : M = 2 ^ k) (ha : g k = a) :
    (if 0 ≤ j ∧ j < 0 + 2 * M then splF (fun j => if j < 2 ^ k then wgt g k j else 0) a (j - 0) else if j < 2 ^ k then wgt g k j else 0) = if j < 2 ^ (k + 1) then wgt g (k + 1) j else 0 := by
  have e : 2 ^ (k + 1) = 2 * M := by rw [Nat.pow_succ, Nat.mul_comm, hM]
  rw [e, ← hM]
  by_cases h : j < 2 * M
  · rw [if_pos (by omega), if_pos h, ← wgt_step, Nat.sub_zero]
    have h2 : j / 2 < M := by omega
    unfold splF
    dsimp only
    rw [if_pos h2, ha]
  · rw [if_neg (by omega), if_neg (by omega), if_neg h]
theorem pow_le {i n : Nat} (h : i ≤ n) : 2 ^ i ≤ 2 ^ n := Nat.pow_le_pow_right (by omega) h
theorem pow8 {n : Nat} (h : n ≤ 8) : 2 ^ n ≤ 256 := pow_le (n := 8) h

theorem wrap_pow {n N : Nat} (hn : n ≤ 8) (hN : N = 2 ^ n) : wrap64 ((2 : Int) ^ n) = (N : Int) := by
  have h := pow8 hn
  rw [← hN] at h
  rw [show ((2 : Int) ^ n) = (N : Int) from by rw [hN]; simp]
  exact IntWalk.wrap64_in _ (by omega)
theorem wrap_pow2 {n N : Nat} (hn : n ≤ 8) (hN : N = 2 ^ n) : wrap64 (2 * (2 : Int) ^ n) = 2 * (N : Int) := by
  have h := pow8 hn
  rw [← hN] at h
  rw [show ((2 : Int) ^ n) = (N : Int) from by rw [hN]; simp]
  exact IntWalk.wrap64_in _ (by omega)

set_option maxHeartbeats 2000000 in
set_option maxRecDepth 100000 in
theorem eq_ok (b off n cap N : Nat) (g : Nat → Int) (w : World) (hn : n ≤ 8) (hN : N = 2 ^ n) (hr : Row w b off n g) (hv : Nums g) :
    Calls Tryd.prog 73 #[.slice (some ⟨b, off, none⟩) n cap] w fun e w' => e = .returned (.tuple #[.slice (some ⟨w.heap.size, 0, none⟩) N N, .int .i64 0]) ∧ Made w w' N (wgt g n) := by
  have HR := hid hr
  have HV := hid hv
  clear hr hv
  have hp := pow8 hn
  have hw := wrap_pow hn hN
  have hN1 : 1 ≤ N := by rw [hN]; exact Nat.one_le_two_pow
  rw [← hN] at hp
  have HN := hid hN
  clear hN
  have hmk := run_make_row' (P := Tryd.prog) 22 26 (.int .u64 0) 8 Tryd.underlying22 Tryd.infoN rfl .i64 .i64 N (by omega) (by omega)
  have hm0 := Made.start w N 26
  have c0 := hm0.cell 0 hN1
  have f0 := hm0.frozen 0 hN1
  have HM0 := hid (Made.one w N 26)
  clear hm0
  go_enter Tryd.func73, Tryd.ntmps73
  go_wp2_with fail
  clear hmk hw
  go_loopg [18] n (fun q i wr => ∃ k : Nat, k ≤ n ∧ q = n - k ∧ i = .int .i64 (k : Int) ∧ Hid (Made w wr N (fun j => if j < 2 ^ k then wgt g k j else 0)))
  case atStart => exact ⟨0, by omega, rfl, rfl, hid (HM0.out.congr fun j _ => by rw [wgt_start])⟩
  case round =>
    clear HM0 c0 f0
    obtain ⟨k, hk, rfl, rfl, HM⟩ := hrel
    by_cases hlt : k < n
    · have c1 := HM.out.old HR.out k hlt
      obtain ⟨a, ha⟩ : ∃ a, g k = a := ⟨_, rfl⟩
      have ba := HV.out k
      rw [ha] at c1 ba
      obtain ⟨a0, a1⟩ := ba
      have HA := hid ha
      clear ha
      have k0 : (0 : Int) ≤ (k : Int) := by omega
      have k1 : (k : Int) < (n : Int) := by omega
      obtain ⟨M, hM⟩ : ∃ M, M = 2 ^ k := ⟨_, rfl⟩
      have hw := wrap_pow2 (n := k) (by omega) hM
      have hMN : 2 * M ≤ N := by rw [hM, HN.out, Nat.mul_comm, ← Nat.pow_succ]; exact pow_le hlt
      have hMN' : 2 * (M : Int) ≤ (N : Int) := by omega
      have hM0 : (0 : Int) ≤ 2 * (M : Int) := by omega
      have hr2 : Row wr w.heap.size 0 (2 * M) (fun j => if j < 2 ^ k then wgt g k j else 0) := fun j hj => HM.out.row j (by omega)
      have hf2 : Free wr w.heap.size 0 (2 * M) := fun j hj => HM.out.free j (by omega)
      have HS := hid (split_any w.heap.size 0 M N _ a wr (by omega) hr2 hf2 (Nums_wgt g k) a0 a1)
      have HMM := hid hM
      clear hr2 hf2 hM
      go_wp2_with (go_at_call 93; refine (HS.out).mono ?_; rintro e w2 ⟨rfl, hwr, hrw⟩; have HW2 := hid hwr; have HR2 := hid hrw; clear hwr hrw)
      go_roundg (n - (k + 1))
      case measure => go_light; omega
      case rel =>
        have hp := HM.out.row.part (i := 0) (m := 2 * M) HW2.out HR2.out
        exact ⟨k + 1, by omega, rfl, by go_num, hid ((HM.out.wrote HW2.out hp).congr fun j hj => wgt_next g k M a j HMM.out HA.out)⟩
    · have e : k = n := by omega
      subst e
      go_wp2_with fail
      go_ret2
      exact ⟨rfl, HM.out.congr fun j hj => by rw [if_pos (by rw [← HN.out]; exact hj)]⟩

set_option maxHeartbeats 2000000 in
set_option maxRecDepth 100000 in
theorem eq_zero (ao : Option Addr) (cap : Nat) (g : Nat → Int) (w : World) :
    Calls Tryd.prog 73 #[.slice ao 0 cap] w fun e w' => e = .returned (.tuple #[.slice (some ⟨w.heap.size, 0, none⟩) 1 1, .int .i64 0]) ∧ Made w w' 1 (wgt g 0) := by
  have hmk := run_make_row' (P := Tryd.prog) 22 26 (.int .u64 0) 8 Tryd.underlying22 Tryd.infoN rfl .i64 .i64 1 (by omega) (by omega)
  simp only [show ((1 : Nat) : Int) = 1 from rfl] at hmk
  have hm0 := Made.start w 1 26
  have c0 := hm0.cell 0 (by omega)
  have f0 := hm0.frozen 0 (by omega)
  have HM0 := hid (Made.one w 1 26)
  clear hm0
  go_enter Tryd.func73, Tryd.ntmps73
  go_wp2_with fail
  clear hmk
  go_loopg [18] 0 (fun q i wr => q = 0 ∧ i = .int .i64 0 ∧ Hid (Made w wr 1 (fun j => if j = 0 then 1 else 0)))
  case atStart => exact ⟨rfl, rfl, HM0⟩
  case round =>
    obtain ⟨rfl, rfl, HM⟩ := hrel
    go_wp2_with fail
    go_ret2
    exact ⟨rfl, HM.out.congr fun j hj => by rw [show j = 0 from by omega, if_pos rfl]; rfl⟩

set_option maxHeartbeats 400000 in
theorem eq_bad (ao : Option Addr) (n cap : Nat) (w : World) (h : 8 < n) :
    Calls Tryd.prog 73 #[.slice ao n cap] w fun e w' => e = .returned (.tuple #[.slice none 0 0, .int .i64 1]) ∧ w' = w := by
  go_enter Tryd.func73, Tryd.ntmps73
  go_wp2_with fail
  go_ret2
  exact ⟨rfl, rfl⟩

end Go.Proofs.YtnnjajmkfgnhcaaDoor
