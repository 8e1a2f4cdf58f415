/-
  Several texts in one: MleEqC, WirV, MleEv; each opens with what it holds.
-/
import Derived.Test.YtkhacijkfjcdeaaDoorChecked
import Derived.Test.YtkhacijkfjcdeaaDoorMulti
import Derived.Test.YtkhacijkfjcdeaaDoorMem
import Derived.Test.YtkhacijkfjcdeaaDoorFieldA
import Derived.WalkKit
import Derived.Deep.RegionHeld3
import Derived.Deep.RegionWith
import Derived.Deep.OwnRows
import Derived.Deep.LoopGhost
import Derived.Deep.Light
import Derived.Deep.DrawnRows
import Derived.Test.YtkhacijkfjcdeaaDoorWirC
import Derived.Deep.QuietTactic
import Derived.Test.YtkhacijkfjcdeaaDoorMle
/-
  Contracts of package mle's split and Eq, each for every input: the table of a point's weights; nothing that was there is written but the row that split is handed.
-/
namespace Go.Proofs.YtkhacijkfjcdeaaDoor
open Go.RowKit
set_option linter.unusedVariables false
attribute [local go_sem ↓] Go.wp_at_zero Go.wp_at_succ

/-- What split leaves at c. -/
def splF (f : Nat → Int) (x : Int) (c : Nat) : Int := if c % 2 = 1 then mulQ (f (c / 2)) x else subQ (f (c / 2)) (mulQ (f (c / 2)) x)
/-- The row behind k rounds of split, from the end down. -/
def splM (f : Nat → Int) (x : Int) (m k : Nat) (c : Nat) : Int := if 2 * (m - k) ≤ c then splF f x c else f c
theorem spl_step (f : Nat → Int) (x a : Int) (m k q c : Nat) (hq : q + k + 1 = m) (ha : f q = a) : (if c = 2 * q then subQ a (mulQ a x) else if c = 2 * q + 1 then mulQ a x else splM f x m k c) = splM f x m (k + 1) c := by
  unfold splM splF
  by_cases e : c = 2 * q
  · subst e
    rw [if_pos rfl, if_pos (by omega), if_neg (by omega), show 2 * q / 2 = q from by omega, ha]
  · rw [if_neg e]
    by_cases e2 : c = 2 * q + 1
    · subst e2
      rw [if_pos rfl, if_pos (by omega), if_pos (by omega), show (2 * q + 1) / 2 = q from by omega, ha]
    · rw [if_neg e2]
      by_cases h : 2 * (m - k) ≤ c
      · have h' : 2 * (m - (k + 1)) ≤ c := by omega
        rw [if_pos h, if_pos h']
      · have h' : ¬2 * (m - (k + 1)) ≤ c := by omega
        rw [if_neg h, if_neg h']
theorem splM_end (f : Nat → Int) (x : Int) (m c : Nat) : splM f x m m c = splF f x c := by
  unfold splM; rw [if_pos (by omega)]

set_option maxHeartbeats 2000000 in
set_option maxRecDepth 100000 in
theorem split_any (b off m cap : Nat) (f : Nat → Int) (x : Int) (w : World) (hm : m ≤ 1000) (hr : Row w b off (2 * m) f) (hf : Free w b off (2 * m)) (hv : Nums f) (x0 : 0 ≤ x) (x1 : x ≤ 18446744073709551615) :
    Calls Tryd.prog 120 #[.slice (some ⟨b, off, none⟩) (2 * m) cap, .int .u64 x] w fun e w' => e = .returned (.tuple #[]) ∧ Wrote b off (2 * m) w w' ∧ Row w' b off (2 * m) (splF f x) := by
  have HR := hid hr
  have HF := hid hf
  have HV := hid hv
  clear hr hf hv
  go_enter Tryd.func120, Tryd.ntmps120
  have hd : ((2 * m : Nat) : Int) / 2 = (m : Int) := by omega
  go_wp2_with fail
  go_loopg [4] m (fun g i wr => ∃ (k : Nat) (t : Int), k ≤ m ∧ g = m - k ∧ i = .int .i64 t ∧ Hid (t = (m : Int) - 1 - k) ∧ Hid (Wrote b off (2 * m) w wr) ∧ Hid (Row wr b off (2 * m) (splM f x m k)))
  case atStart => exact ⟨0, _, by omega, rfl, rfl, hid (by omega), hid (Wrote.refl _ _ _ _), hid (HR.out.congr fun j hj => by unfold splM; rw [if_neg (by omega)])⟩
  case round =>
    obtain ⟨k, t, hk, rfl, rfl, HT, HW, HM⟩ := hrel
    by_cases hlt : k < m
    · obtain ⟨q, hq⟩ : ∃ q : Nat, q + k + 1 = m := ⟨m - 1 - k, by omega⟩
      have ht : t = (q : Int) := by have := HT.out; omega
      subst ht
      have HQ := hid hq
      have hqm : q < m := by omega
      have q0 : (0 : Int) ≤ (q : Int) := by omega
      have q1 : (q : Int) < (m : Int) := by omega
      have c1 := HM.out q (by omega)
      have e1 : splM f x m k q = f q := by unfold splM; rw [if_neg (by omega)]
      rw [e1] at c1
      clear hq e1
      obtain ⟨a, ha⟩ : ∃ a, f q = a := ⟨_, rfl⟩
      have ba := HV.out q
      rw [ha] at c1 ba
      obtain ⟨a0, a1⟩ := ba
      have HA := hid ha
      clear ha
      obtain ⟨s0, s1⟩ := mulQ_rng a x
      have c2 := HM.out (2 * q + 1) (by omega)
      have c3 := HM.out (2 * q) (by omega)
      obtain ⟨y2, hy2⟩ : ∃ y, splM f x m k (2 * q + 1) = y := ⟨_, rfl⟩
      obtain ⟨y3, hy3⟩ : ∃ y, splM f x m k (2 * q) = y := ⟨_, rfl⟩
      rw [hy2] at c2
      rw [hy3] at c3
      clear hy2 hy3
      have f2 : wr.frozen? ⟨b, off + (2 * q + 1), none⟩ = false := (HF.out.wrote HW.out) _ (by omega)
      have f3 : wr.frozen? ⟨b, off + 2 * q, none⟩ = false := (HF.out.wrote HW.out) _ (by omega)
      have q2 : (0 : Int) ≤ 2 * (q : Int) + 1 := by omega
      have q3 : 2 * (q : Int) + 1 < ((2 * m : Nat) : Int) := by omega
      have q4 : (0 : Int) ≤ 2 * (q : Int) := by omega
      have q5 : 2 * (q : Int) < ((2 * m : Nat) : Int) := by omega
      have q6 : (q : Int) < ((2 * m : Nat) : Int) := by omega
      go_wp2_with (first | (go_at_call 88; refine (mul_any _ _ _ (by omega) (by omega) (by omega) (by omega)).mono ?_; rintro e w' ⟨rfl, hw⟩; obtain rfl := hw.symm) | (go_at_call 95; refine (sub_any _ _ _ (by omega) (by omega) (by omega) (by omega)).mono ?_; rintro e w' ⟨rfl, hw⟩; obtain rfl := hw.symm))
      go_roundg (m - (k + 1))
      case measure => go_light; omega
      case rel =>
        refine ⟨k + 1, _, by omega, rfl, rfl, hid (by have := HT.out; omega), hid ((HW.out.store (by omega) (by omega) _).store (by omega) (by omega) _), hid (((HM.out.store (2 * q + 1) _ (by omega)).store (2 * q) _ (by omega)).congr fun j _ => ?_)⟩
        exact spl_step f x a m k q j HQ.out HA.out
    · have e : k = m := by omega
      subst e
      have ht : t = -1 := by have := HT.out; omega
      subst ht
      go_wp2_with fail
      go_end0
      exact ⟨rfl, HW.out, HM.out.congr fun j _ => splM_end f x k j⟩

theorem Tryd.infoN : (Tryd.prog.info? 45).map (fun i => (i.zero, i.size, i.bytes)) = some (some (.int .u64 0), 1, 8) := by kernel_rfl
theorem Made.one (w : World) (n : Nat) (t : TypeId) : Made w (w.alloc (.cells ((madeCells #[.int .u64 0] n).setIfInBounds 0 (.int .u64 1)) t)) n (fun j => if j = 0 then 1 else 0) := by
  refine ⟨(Below.refl _ _).alloc (Nat.le_refl _) _, fun j hj => ?_, fun j _ => ?_⟩
  · rw [Nat.zero_add, World.cell?_alloc_new]
    by_cases e : j = 0
    · subst e; simp [madeCells, hj]
    · simp [madeCells, hj, Nat.mod_one, e, Ne.symm e]
  · rw [Nat.zero_add, World.frozen?_alloc_new]
/-- The weights as numbers. -/
def wgt (g : Nat → Int) (n c : Nat) : Int := ofK (eqK (fun j => kk (g j)) n c)
theorem wgt_step (g : Nat → Int) (n c : Nat) : splF (wgt g n) (g n) c = wgt g (n + 1) c := by
  unfold splF wgt
  rw [eqK]
  by_cases h : c % 2 = 1
  · rw [if_pos h, if_pos h, mulQ_ofK, kk_ofK]
  · rw [if_neg h, if_neg h, subQ_ofK, kk_mulQ, kk_ofK]
    congr 1
    grind
theorem wgt_start (g : Nat → Int) (j : Nat) : (if j = 0 then (1 : Int) else 0) = if j < 2 ^ 0 then wgt g 0 j else 0 := by
  rw [Nat.pow_zero]
  by_cases h : j = 0
  · rw [if_pos h, if_pos (by omega)]; rfl
  · rw [if_neg h, if_neg (by omega)]
theorem Nums_wgt (g : Nat → Int) (k : Nat) : Nums (fun j => if j < 2 ^ k then wgt g k j else 0) := fun j => by
  dsimp only
  split
  · exact ofK_u64 _
  · omega
theorem wgt_next (g : Nat → Int) (k M : Nat) (a : Int) (j : Nat) (hM : M = 2 ^ k) (ha : g k = a) :
    (if 0 ≤ j ∧ j < 0 + 2 * M then splF (fun j => if j < 2 ^ k then wgt g k j else 0) a (j - 0) else if j < 2 ^ k then wgt g k j else 0) = if j < 2 ^ (k + 1) then wgt g (k + 1) j else 0 := by
  have e : 2 ^ (k + 1) = 2 * M := by rw [Nat.pow_succ, Nat.mul_comm, hM]
  rw [e, ← hM]
  by_cases h : j < 2 * M
  · rw [if_pos (by omega), if_pos h, ← wgt_step, Nat.sub_zero]
    have h2 : j / 2 < M := by omega
    unfold splF
    dsimp only
    rw [if_pos h2, ha]
  · rw [if_neg (by omega), if_neg (by omega), if_neg h]
theorem pow_le {i n : Nat} (h : i ≤ n) : 2 ^ i ≤ 2 ^ n := Nat.pow_le_pow_right (by omega) h
theorem pow8 {n : Nat} (h : n ≤ 8) : 2 ^ n ≤ 256 := pow_le (n := 8) h

theorem wrap_pow {n N : Nat} (hn : n ≤ 8) (hN : N = 2 ^ n) : wrap64 ((2 : Int) ^ n) = (N : Int) := by
  have h := pow8 hn
  rw [← hN] at h
  rw [show ((2 : Int) ^ n) = (N : Int) from by rw [hN]; simp]
  exact IntWalk.wrap64_in _ (by omega)
theorem wrap_pow2 {n N : Nat} (hn : n ≤ 8) (hN : N = 2 ^ n) : wrap64 (2 * (2 : Int) ^ n) = 2 * (N : Int) := by
  have h := pow8 hn
  rw [← hN] at h
  rw [show ((2 : Int) ^ n) = (N : Int) from by rw [hN]; simp]
  exact IntWalk.wrap64_in _ (by omega)

set_option maxHeartbeats 2000000 in
set_option maxRecDepth 100000 in
theorem eq_ok (b off n cap N : Nat) (g : Nat → Int) (w : World) (hn : n ≤ 8) (hN : N = 2 ^ n) (hr : Row w b off n g) (hv : Nums g) :
    Calls Tryd.prog 108 #[.slice (some ⟨b, off, none⟩) n cap] w fun e w' => e = .returned (.tuple #[.slice (some ⟨w.heap.size, 0, none⟩) N N, .int .i64 0]) ∧ Made w w' N (wgt g n) := by
  have HR := hid hr
  have HV := hid hv
  clear hr hv
  have hp := pow8 hn
  have hw := wrap_pow hn hN
  have hN1 : 1 ≤ N := by rw [hN]; exact Nat.one_le_two_pow
  rw [← hN] at hp
  have HN := hid hN
  clear hN
  have hmk := run_make_row' (P := Tryd.prog) 25 45 (.int .u64 0) 8 Tryd.underlying25 Tryd.infoN rfl .i64 .i64 N (by omega) (by omega)
  have hm0 := Made.start w N 45
  have c0 := hm0.cell 0 hN1
  have f0 := hm0.frozen 0 hN1
  have HM0 := hid (Made.one w N 45)
  clear hm0
  go_enter Tryd.func108, Tryd.ntmps108
  go_wp2_with fail
  clear hmk hw
  go_loopg [18] n (fun q i wr => ∃ k : Nat, k ≤ n ∧ q = n - k ∧ i = .int .i64 (k : Int) ∧ Hid (Made w wr N (fun j => if j < 2 ^ k then wgt g k j else 0)))
  case atStart => exact ⟨0, by omega, rfl, rfl, hid (HM0.out.congr fun j _ => by rw [wgt_start])⟩
  case round =>
    clear HM0 c0 f0
    obtain ⟨k, hk, rfl, rfl, HM⟩ := hrel
    by_cases hlt : k < n
    · have c1 := HM.out.old HR.out k hlt
      obtain ⟨a, ha⟩ : ∃ a, g k = a := ⟨_, rfl⟩
      have ba := HV.out k
      rw [ha] at c1 ba
      obtain ⟨a0, a1⟩ := ba
      have HA := hid ha
      clear ha
      have k0 : (0 : Int) ≤ (k : Int) := by omega
      have k1 : (k : Int) < (n : Int) := by omega
      obtain ⟨M, hM⟩ : ∃ M, M = 2 ^ k := ⟨_, rfl⟩
      have hw := wrap_pow2 (n := k) (by omega) hM
      have hMN : 2 * M ≤ N := by rw [hM, HN.out, Nat.mul_comm, ← Nat.pow_succ]; exact pow_le hlt
      have hMN' : 2 * (M : Int) ≤ (N : Int) := by omega
      have hM0 : (0 : Int) ≤ 2 * (M : Int) := by omega
      have hr2 : Row wr w.heap.size 0 (2 * M) (fun j => if j < 2 ^ k then wgt g k j else 0) := fun j hj => HM.out.row j (by omega)
      have hf2 : Free wr w.heap.size 0 (2 * M) := fun j hj => HM.out.free j (by omega)
      have HS := hid (split_any w.heap.size 0 M N _ a wr (by omega) hr2 hf2 (Nums_wgt g k) a0 a1)
      have HMM := hid hM
      clear hr2 hf2 hM
      go_wp2_with (go_at_call 120; refine (HS.out).mono ?_; rintro e w2 ⟨rfl, hwr, hrw⟩; have HW2 := hid hwr; have HR2 := hid hrw; clear hwr hrw)
      go_roundg (n - (k + 1))
      case measure => go_light; omega
      case rel =>
        have hp := HM.out.row.part (i := 0) (m := 2 * M) HW2.out HR2.out
        exact ⟨k + 1, by omega, rfl, by go_num, hid ((HM.out.wrote HW2.out hp).congr fun j hj => wgt_next g k M a j HMM.out HA.out)⟩
    · have e : k = n := by omega
      subst e
      go_wp2_with fail
      go_ret2
      exact ⟨rfl, HM.out.congr fun j hj => by rw [if_pos (by rw [← HN.out]; exact hj)]⟩

set_option maxHeartbeats 2000000 in
set_option maxRecDepth 100000 in
theorem eq_zero (ao : Option Addr) (cap : Nat) (g : Nat → Int) (w : World) :
    Calls Tryd.prog 108 #[.slice ao 0 cap] w fun e w' => e = .returned (.tuple #[.slice (some ⟨w.heap.size, 0, none⟩) 1 1, .int .i64 0]) ∧ Made w w' 1 (wgt g 0) := by
  have hmk := run_make_row' (P := Tryd.prog) 25 45 (.int .u64 0) 8 Tryd.underlying25 Tryd.infoN rfl .i64 .i64 1 (by omega) (by omega)
  simp only [show ((1 : Nat) : Int) = 1 from rfl] at hmk
  have hm0 := Made.start w 1 45
  have c0 := hm0.cell 0 (by omega)
  have f0 := hm0.frozen 0 (by omega)
  have HM0 := hid (Made.one w 1 45)
  clear hm0
  go_enter Tryd.func108, Tryd.ntmps108
  go_wp2_with fail
  clear hmk
  go_loopg [18] 0 (fun q i wr => q = 0 ∧ i = .int .i64 0 ∧ Hid (Made w wr 1 (fun j => if j = 0 then 1 else 0)))
  case atStart => exact ⟨rfl, rfl, HM0⟩
  case round =>
    obtain ⟨rfl, rfl, HM⟩ := hrel
    go_wp2_with fail
    go_ret2
    exact ⟨rfl, HM.out.congr fun j hj => by rw [show j = 0 from by omega, if_pos rfl]; rfl⟩

set_option maxHeartbeats 400000 in
theorem eq_bad (ao : Option Addr) (n cap : Nat) (w : World) (h : 8 < n) :
    Calls Tryd.prog 108 #[.slice ao n cap] w fun e w' => e = .returned (.tuple #[.slice none 0 0, .int .i64 1]) ∧ w' = w := by
  go_enter Tryd.func108, Tryd.ntmps108
  go_wp2_with fail
  go_ret2
  exact ⟨rfl, rfl⟩

end Go.Proofs.YtkhacijkfjcdeaaDoor

/-
  Contracts of package wiring's Value and Step, for every circuit, every layer and all points; they make new blocks and write nothing that was there.
-/
namespace Go.Proofs.YtkhacijkfjcdeaaDoor
open Go.RowKit
set_option linter.unusedVariables false
attribute [local go_sem ↓] Go.wp_at_zero Go.wp_at_succ

theorem eqp_any (ao : Option Addr) (n cap N : Nat) (g : Nat → Int) (w : World) (hn : n ≤ 8) (hN : N = 2 ^ n) (hp : PRow w ao n g) (hv : Nums g) :
    Calls Tryd.prog 108 #[.slice ao n cap] w fun e w' => e = .returned (.tuple #[.slice (some ⟨w.heap.size, 0, none⟩) N N, .int .i64 0]) ∧ Made w w' N (wgt g n) := by
  by_cases h0 : n = 0
  · subst h0
    obtain rfl : N = 1 := hN
    exact eq_zero ao cap g w
  · obtain ⟨b, off, rfl, hr⟩ := hp (by omega)
    exact eq_ok b off n cap N g w hn hN hr hv
/-- The number of a right circuit's layer, as a Log and a length. -/
theorem ask_nums {c : CQ} {k nz nx ny : Nat} {l : LQ} (hc : c.right) (h : askOk c (k : Int) nz nx ny k l) : c.layers[k]? = some l ∧ l.log = (nz : Int) ∧ belowQ c k = (nx : Int) ∧ ny = nx ∧ nz ≤ 4 ∧ nx ≤ 4 ∧ l.gates.length = 2 ^ nz ∧ ∀ q ∈ l.gates, gateOk ((2 ^ nx : Nat) : Int) q := by
  obtain ⟨_, hl, h3, h4, h5⟩ := h
  obtain ⟨r1, r2, r3⟩ := hc.layer k l hl
  obtain ⟨bk, e, b4⟩ := below_rng (k := k) rfl hc.log.1 hc.log.2 fun j _ x hx => hc.layer j x hx
  rw [← h4, Int.toNat_natCast] at r3
  rw [← h3, Int.toNat_natCast] at r2
  exact ⟨hl, h3.symm, h4.symm, by omega, by omega, by omega, r2, r3⟩

set_option maxHeartbeats 2000000 in
set_option maxRecDepth 100000 in
theorem value_any (c : CQ) (g : Int) (ao : Option Addr) (n cap : Nat) (A : Nat → Option Addr) (C : Nat → Nat) (i : Int) (mul : Bool) (az ax ay : Option Addr) (nz cz nx cx ny cy : Nat) (z x y : Nat → Int) (w : World) (hg : c.log = g) (hn : c.layers.length = n) (hr : CRow w ao c.layers A C)
    (pz : PRow w az nz z) (px : PRow w ax nx x) (py : PRow w ay ny y) (vz : Nums z) (vx : Nums x) (vy : Nums y) :
    Calls Tryd.prog 100 #[.agg #[.int .i64 g, .slice ao n cap], .int .i64 i, .bool mul, .slice az nz cz, .slice ax nx cx, .slice ay ny cy] w fun e w' => ∃ v x', e = .returned (.tuple #[.int .u64 v, .int .i64 x']) ∧ askE c i nz nx ny x' ∧ (x' ≠ 0 → v = 0) ∧ (x' = 0 → v = wvlQ c i mul z x y) ∧ Below w.heap.size w w' := by
  have HR := hid hr
  have HG := hid hg
  have HN := hid hn
  have HPZ := hid pz
  have HPX := hid px
  have HPY := hid py
  have HV := hid (And.intro vz (And.intro vx vy))
  have HS0 := hid (StW.start w g (.slice ao n cap) 24)
  clear hr hg hn pz px py vz vx vy
  go_enter Tryd.func100, Tryd.ntmps100
  go_wp2_with fail
  obtain ⟨B, hB⟩ : ∃ B, w.heap.size = B := ⟨_, rfl⟩
  have HS1 : Hid (StW w (w.alloc (.cells #[.int .i64 g, .slice ao n cap] 24)) B g (.slice ao n cap)) := hid (by rw [← hB]; exact HS0.out)
  rw [hB]
  clear hB HS0
  generalize w.alloc (.cells #[.int .i64 g, .slice ao n cap] 24) = W1 at HS1 ⊢
  refine (wchk_any c g ao n cap A C i az ax ay nz cz nx cx ny cy W1 HG.out HN.out (HR.out.kept HS1.out.bel)).mono ?_
  rintro e w1 ⟨x', rfl, hx, hb⟩
  have HX := hid hx
  have HS2 := hid (HS1.out.next hb)
  clear hb hx HS1
  by_cases h0 : x' = 0
  · subst h0
    obtain ⟨hc, k, l, hk⟩ := askE_zero HX.out
    obtain rfl := hk.1
    obtain ⟨hl, hlog, hbel, rfl, z4, x4, hlen, hgo⟩ := ask_nums hc hk
    obtain ⟨b, off, rfl, _⟩ := HR.out hc.some
    have n4 : n ≤ 4 := by have := hc.few; rw [HN.out] at this; exact this
    have hkn : k < n := by obtain ⟨h, _⟩ := List.getElem?_eq_some_iff.1 hl; rw [HN.out] at h; exact h
    have HVQ : Hid (wvlQ c (k : Int) mul z x y = wirQ mul l.gates nz ny z x y) := hid (by rw [wvlQ_at hl, hlog, hbel, Int.toNat_natCast, Int.toNat_natCast])
    have HC := hid hc
    have HL := hid hl
    obtain ⟨N, hN⟩ : ∃ N, N = 2 ^ nz := ⟨_, rfl⟩
    obtain ⟨M, hM⟩ : ∃ M, M = 2 ^ ny := ⟨_, rfl⟩
    rw [← hN] at hlen
    rw [← hM] at hgo
    have N16 : N ≤ 16 := by rw [hN]; exact Nat.le_trans (Nat.pow_le_pow_right (by omega) z4) (by decide)
    have M16 : M ≤ 16 := by rw [hM]; exact Nat.le_trans (Nat.pow_le_pow_right (by omega) x4) (by decide)
    have HNN := hid hN
    have HMM := hid hM
    have HLEN := hid hlen
    have HGO := hid hgo
    clear hc hk hl hlog hbel hlen hgo hN hM
    go_wp2_with fail
    refine (eqp_any az nz cz N z w1 (by omega) HNN.out (HPZ.out.kept HS2.out.bel) HV.out.1).mono ?_
    rintro e w2 ⟨rfl, hm⟩
    have HS3 := hid (HS2.out.next hm.below)
    have HEZ := hid hm.row
    clear hm HS2
    obtain ⟨bz, hbz⟩ : ∃ x, w1.heap.size = x := ⟨_, rfl⟩
    rw [hbz] at HEZ ⊢
    clear hbz
    go_wp2_with fail
    refine (eqp_any ax ny cx M x w2 (by omega) HMM.out (HPX.out.kept HS3.out.bel) HV.out.2.1).mono ?_
    rintro e w3 ⟨rfl, hm⟩
    have HS4 := hid (HS3.out.next hm.below)
    have M1 : 1 ≤ M := by rw [HMM.out]; exact Nat.one_le_two_pow
    have N1 : 1 ≤ N := by rw [HNN.out]; exact Nat.one_le_two_pow
    have HEZ4 := hid (HEZ.out.kept hm.below (HEZ.out.lt (by omega)))
    have HEX := hid hm.row
    clear hm HS3 HEZ
    obtain ⟨bx, hbx⟩ : ∃ x, w2.heap.size = x := ⟨_, rfl⟩
    rw [hbx] at HEX ⊢
    clear hbx
    go_wp2_with fail
    refine (eqp_any ay ny cy M y w3 (by omega) HMM.out (HPY.out.kept HS4.out.bel) HV.out.2.2).mono ?_
    rintro e w4 ⟨rfl, hm⟩
    have HS5 := hid (HS4.out.next hm.below)
    have HEZ5 := hid (HEZ4.out.kept hm.below (HEZ4.out.lt (by omega)))
    have HEX5 := hid (HEX.out.kept hm.below (HEX.out.lt (by omega)))
    have HEY5 := hid hm.row
    clear hm HS4 HEZ4 HEX
    obtain ⟨by', hby⟩ : ∃ x, w3.heap.size = x := ⟨_, rfl⟩
    rw [hby] at HEY5 ⊢
    clear hby
    obtain ⟨z0, z1, zl⟩ := HS5.out.box
    obtain ⟨b', off', eb, hcl⟩ := HR.out.kept HS5.out.bel HC.out.some
    cases eb
    obtain ⟨_, y1, y2, _⟩ := hcl k l HL.out
    rw [Nat.mul_comm 2 k, HLEN.out] at y1
    have HGR := hid y2
    obtain ⟨ga, hga⟩ : ∃ x, A k = x := ⟨_, rfl⟩
    obtain ⟨gc, hgc⟩ : ∃ x, C k = x := ⟨_, rfl⟩
    rw [hga, hgc] at y1
    rw [hga] at HGR
    clear hcl y2 hga hgc
    have k0 : (0 : Int) ≤ (k : Int) := by omega
    have k1 : (k : Int) < (n : Int) := by omega
    go_wp2_with fail
    clear y1 z0 z1 zl k0 k1
    have HC0 := hid (Below.refl w4.heap.size w4)
    go_loopg [21, 56] N (fun q v i wr => ∃ (t : Nat) (p : Int), t ≤ N ∧ q = N - t ∧ v = .int .u64 p ∧ i = .int .i64 (t : Int) ∧ 0 ≤ p ∧ p ≤ 2305843009213693950 ∧ Hid (p = ofK (wirP mul l.gates nz ny z x y t)) ∧ Hid (Below w4.heap.size w4 wr))
    case atStart => exact ⟨0, 0, by omega, rfl, rfl, rfl, by omega, by omega, hid rfl, HC0⟩
    case round =>
      clear HC0
      obtain ⟨t, p, ht, rfl, rfl, rfl, p0, p1, HP, HBW⟩ := hrel
      by_cases htl : t < N
      · obtain ⟨q, hq⟩ : ∃ q, l.gates[t]? = some q := ⟨l.gates[t]'(by rw [HLEN.out]; exact htl), by simp⟩
        obtain ⟨gb, go, rfl, hgc⟩ := HGR.out.kept HBW.out (by intro e; have := HLEN.out; rw [e] at this; simp at this; omega)
        obtain ⟨q0, q1, q2⟩ := hgc t q hq
        obtain ⟨⟨a0, a1⟩, b0, b1⟩ := HGO.out q (List.mem_of_getElem? hq)
        rw [Nat.mul_comm 3 t] at q0 q1 q2
        obtain ⟨qm, hqm⟩ : ∃ v, q.mul = v := ⟨_, rfl⟩
        obtain ⟨ia, hia⟩ : ∃ v : Nat, q.a = (v : Int) := ⟨q.a.toNat, by omega⟩
        obtain ⟨ib, hib⟩ : ∃ v : Nat, q.b = (v : Int) := ⟨q.b.toNat, by omega⟩
        rw [hqm] at q0
        rw [hia] at q1 a1
        rw [hib] at q2 b1
        have HQ := hid (And.intro hq (And.intro hqm (And.intro hia hib)))
        clear hgc hq hqm hia hib a0 b0
        have t0 : (0 : Int) ≤ (t : Int) := by omega
        have t1 : (t : Int) < (N : Int) := by omega
        have hal := (Below.refl wr.heap.size wr).alloc (Nat.le_refl _) (.cells #[.bool qm, .int .i64 (ia : Int), .int .i64 (ib : Int)] 72)
        have HBA := hid (HBW.out.trans (hal.mono HBW.out.size))
        by_cases hm : qm = mul
        · have em : (qm == mul) = true := by rw [hm]; simp
          have hz := (HEZ5.out.kept HBW.out (HEZ5.out.lt (by omega)))
          have hx := (HEX5.out.kept HBW.out (HEX5.out.lt (by omega)))
          have hy := (HEY5.out.kept HBW.out (HEY5.out.lt (by omega)))
          have dz := hz t htl
          have dx := hx ia (by omega)
          have dy := hy ib (by omega)
          have lz := hz.lt (by omega)
          have lx := hx.lt (by omega)
          have ly := hy.lt (by omega)
          rw [Nat.zero_add] at dz dx dy
          obtain ⟨ez, hez⟩ : ∃ v, wgt z nz t = v := ⟨_, rfl⟩
          obtain ⟨ex, hex⟩ : ∃ v, wgt x ny ia = v := ⟨_, rfl⟩
          obtain ⟨ey, hey⟩ : ∃ v, wgt y ny ib = v := ⟨_, rfl⟩
          rw [hez] at dz
          rw [hex] at dx
          rw [hey] at dy
          have ez0 : 0 ≤ ez ∧ ez ≤ 18446744073709551615 := by rw [← hez]; exact ofK_u64 _
          have ex0 : 0 ≤ ex ∧ ex ≤ 18446744073709551615 := by rw [← hex]; exact ofK_u64 _
          have ey0 : 0 ≤ ey ∧ ey ≤ 18446744073709551615 := by rw [← hey]; exact ofK_u64 _
          have HNX := hid (wir_hit HQ.out.1 (HQ.out.2.1.trans hm) HQ.out.2.2.1 HQ.out.2.2.2 HP.out (hez.symm.trans rfl) (hex.symm.trans rfl) (hey.symm.trans rfl)).1
          clear hez hex hey hz hx hy hm
          obtain ⟨ez0, ez1⟩ := ez0
          obtain ⟨ex0, ex1⟩ := ex0
          obtain ⟨ey0, ey1⟩ := ey0
          have dz' : ∀ o, (wr.alloc o).cell? ⟨bz, t, none⟩ = some (.int .u64 ez) := fun o => by rw [World.cell?_alloc_old _ _ _ (Nat.ne_of_lt lz)]; exact dz
          have dx' : ∀ o, (wr.alloc o).cell? ⟨bx, ia, none⟩ = some (.int .u64 ex) := fun o => by rw [World.cell?_alloc_old _ _ _ (Nat.ne_of_lt lx)]; exact dx
          have dy' : ∀ o, (wr.alloc o).cell? ⟨by', ib, none⟩ = some (.int .u64 ey) := fun o => by rw [World.cell?_alloc_old _ _ _ (Nat.ne_of_lt ly)]; exact dy
          have i0 : (0 : Int) ≤ (ia : Int) := by omega
          have i1 : (0 : Int) ≤ (ib : Int) := by omega
          have i2 : ia < M := by omega
          have i3 : ib < M := by omega
          obtain ⟨mw0, mw1⟩ := mulQ_rng ex ey
          obtain ⟨mv0, mv1⟩ := mulQ_rng ez (mulQ ex ey)
          obtain ⟨ma0, ma1⟩ := addQ_rng p (mulQ ez (mulQ ex ey))
          clear dz dx dy lz lx ly
          go_wp2_with fail
          go_quiet (first | (go_at_call 88; exact Calls.quiet_of_same (mul_any _ _ _ (by omega) (by omega) (by omega) (by omega))))
          go_wp2_with (first | (go_at_call 88; refine (mul_any _ _ _ (by omega) (by omega) (by omega) (by omega)).mono ?_; rintro e w' ⟨rfl, hw⟩; obtain rfl := hw.symm) | (go_at_call 89; refine (add_any _ _ _ (by omega) (by omega) (by omega) (by omega)).mono ?_; rintro e w' ⟨rfl, hw⟩; obtain rfl := hw.symm))
          go_roundg (N - (t + 1))
          case measure => go_light; omega
          case rel => exact ⟨t + 1, _, by omega, rfl, rfl, by go_num, ma0, ma1, HNX, hid ⟨HBA.out.os, HBA.out.tape, HBA.out.output, HBA.out.size, HBA.out.block⟩⟩
        · have em : (qm == mul) = false := by simp; exact hm
          have HNX := hid (wir_miss (l := nz) (k := ny) (z := z) (x := x) (y := y) HQ.out.1 (fun e => hm (HQ.out.2.1.symm.trans e)))
          go_wp2_with fail
          go_roundg (N - (t + 1))
          case measure => go_light; omega
          case rel => exact ⟨t + 1, p, by omega, rfl, rfl, by go_num, p0, p1, hid (by rw [HNX.out]; exact HP.out), HBA⟩
      · have e : t = N := by omega
        subst e
        go_wp2_with fail
        go_ret2
        exact ⟨p, 0, rfl, HX.out, fun h => absurd rfl h, fun _ => by rw [HVQ.out, HP.out, HNN.out]; rfl, HS5.out.bel.trans (HBW.out.mono HS5.out.bel.size)⟩
  · have e0 : (x' != 0) = true := by simp; exact h0
    go_wp2_with fail
    go_ret2
    exact ⟨0, x', rfl, HX.out, fun _ => rfl, fun h => absurd h h0, HS2.out.bel⟩

set_option maxHeartbeats 2000000 in
set_option maxRecDepth 100000 in
theorem step_any (c : CQ) (g : Int) (ao : Option Addr) (n cap : Nat) (A : Nat → Option Addr) (C : Nat → Nat) (i : Int) (az ax ay : Option Addr) (nz cz nx cx ny cy : Nat) (z x y : Nat → Int) (ux uy : Int) (w : World) (hg : c.log = g) (hn : c.layers.length = n) (hr : CRow w ao c.layers A C)
    (pz : PRow w az nz z) (px : PRow w ax nx x) (py : PRow w ay ny y) (vz : Nums z) (vx : Nums x) (vy : Nums y) (u0 : 0 ≤ ux) (u1 : ux ≤ 18446744073709551615) (u2 : 0 ≤ uy) (u3 : uy ≤ 18446744073709551615) :
    Calls Tryd.prog 76 #[.agg #[.int .i64 g, .slice ao n cap], .int .i64 i, .slice az nz cz, .slice ax nx cx, .slice ay ny cy, .int .u64 ux, .int .u64 uy] w fun e w' => ∃ v x', e = .returned (.tuple #[.int .u64 v, .int .i64 x']) ∧ askE c i nz nx ny x' ∧ (x' ≠ 0 → v = 0) ∧ (x' = 0 → v = wspQ c i z x y ux uy) ∧ Below w.heap.size w w' := by
  have HR := hid hr
  have HG := hid hg
  have HN := hid hn
  have HPZ := hid pz
  have HPX := hid px
  have HPY := hid py
  have HV := hid (And.intro vz (And.intro vx vy))
  have HS0 := hid (StW.start w g (.slice ao n cap) 24)
  clear hr hg hn pz px py vz vx vy
  go_enter Tryd.func76, Tryd.ntmps76
  go_wp2_with fail
  obtain ⟨B, hB⟩ : ∃ B, w.heap.size = B := ⟨_, rfl⟩
  have HS1 : Hid (StW w (w.alloc (.cells #[.int .i64 g, .slice ao n cap] 24)) B g (.slice ao n cap)) := hid (by rw [← hB]; exact HS0.out)
  rw [hB]
  clear hB HS0
  generalize w.alloc (.cells #[.int .i64 g, .slice ao n cap] 24) = W1 at HS1 ⊢
  refine (value_any c g ao n cap A C i false az ax ay nz cz nx cx ny cy z x y W1 HG.out HN.out (HR.out.kept HS1.out.bel) (HPZ.out.kept HS1.out.bel) (HPX.out.kept HS1.out.bel) (HPY.out.kept HS1.out.bel) HV.out.1 HV.out.2.1 HV.out.2.2).mono ?_
  rintro e w1 ⟨v1, x', rfl, hx, hv0, hv1, hb⟩
  have HX := hid hx
  have HV1 := hid hv1
  have HS2 := hid (HS1.out.next hb)
  clear hb hx HS1 hv0 hv1
  obtain ⟨z0, z1, zl⟩ := HS2.out.box
  by_cases h0 : x' = 0
  · subst h0
    have HVA := hid (HV1.out rfl)
    clear HV1
    go_wp2_with fail
    refine (value_any c g ao n cap A C i true az ax ay nz cz nx cx ny cy z x y w1 HG.out HN.out (HR.out.kept HS2.out.bel) (HPZ.out.kept HS2.out.bel) (HPX.out.kept HS2.out.bel) (HPY.out.kept HS2.out.bel) HV.out.1 HV.out.2.1 HV.out.2.2).mono ?_
    rintro e w2 ⟨v2, x2, rfl, hx2, _, hv2, hb⟩
    obtain rfl := askE_one hx2 HX.out
    have HVB := hid (hv2 rfl)
    have HS3 := hid (HS2.out.next hb)
    clear hb hx2 HS2 hv2 z0 z1 zl
    have hr1 := wvlQ_rng c i false z x y
    have hr2 := wvlQ_rng c i true z x y
    rw [← HVA.out] at hr1
    rw [← HVB.out] at hr2
    obtain ⟨a0, a1⟩ := hr1
    obtain ⟨b0, b1⟩ := hr2
    obtain ⟨c0, c1⟩ := addQ_rng ux uy
    obtain ⟨d0, d1⟩ := mulQ_rng ux uy
    obtain ⟨e0, e1⟩ := mulQ_rng v1 (addQ ux uy)
    obtain ⟨f0, f1⟩ := mulQ_rng v2 (mulQ ux uy)
    go_wp2_with (first | (go_at_call 88; refine (mul_any _ _ _ (by omega) (by omega) (by omega) (by omega)).mono ?_; rintro e w' ⟨rfl, hw⟩; obtain rfl := hw.symm) | (go_at_call 89; refine (add_any _ _ _ (by omega) (by omega) (by omega) (by omega)).mono ?_; rintro e w' ⟨rfl, hw⟩; obtain rfl := hw.symm))
    go_ret2
    exact ⟨_, 0, rfl, HX.out, fun h => absurd rfl h, fun _ => by rw [HVA.out, HVB.out, stp_of], HS3.out.bel⟩
  · have e0 : (x' != 0) = true := by simp; exact h0
    go_wp2_with fail
    go_ret2
    exact ⟨0, x', rfl, HX.out, fun _ => rfl, fun h => absurd h h0, HS2.out.bel⟩

end Go.Proofs.YtkhacijkfjcdeaaDoor

/-
  Contracts of package mle's Fix and Eval, each for every input; they make new rows and write nothing that was there.
-/
namespace Go.Proofs.YtkhacijkfjcdeaaDoor
open Go.RowKit
set_option linter.unusedVariables false
attribute [local go_sem ↓] Go.wp_at_zero Go.wp_at_succ

set_option maxHeartbeats 1000000 in
theorem fix_ok (b off n h cap : Nat) (f : Nat → Int) (x : Int) (w : World) (hn : n + 1 ≤ 8) (hh : h = 2 ^ n) (ht : Tab w) (hr : Row w b off (2 * h) f) (hv : Nums f) (x0 : 0 ≤ x) (x1 : x ≤ 18446744073709551615) :
    Calls Tryd.prog 119 #[.slice (some ⟨b, off, none⟩) (2 * h) cap, .int .u64 x] w fun e w' => e = .returned (.tuple #[.slice (some ⟨w.heap.size, 0, none⟩) h h, .int .i64 0]) ∧ Made w w' h (fldF f h x) := by
  have h1 : 1 ≤ h := by rw [hh]; exact Nat.one_le_two_pow
  have h2 : h ≤ 1000 := by have := pow_256 (n := n) (by omega); omega
  have HV := hid (vars_ok (some ⟨b, off, none⟩) (n + 1) (2 * h) cap w hn (by rw [Nat.pow_succ, hh, Nat.mul_comm]) ht)
  have HF := hid (fold_any b off h cap f x w h1 h2 hr hv x0 x1)
  clear ht hr hv hh
  have hz : (((n + 1 : Nat) : Int) == 0) = false := beq_eq_false_iff_ne.2 (by omega)
  go_enter Tryd.func119, Tryd.ntmps119
  go_wp2_with (first | (go_at_call 67; refine (HV.out).mono ?_; rintro e w' ⟨rfl, hw⟩; obtain rfl := hw.symm) | (go_at_call 68; refine (HF.out).mono ?_; rintro e w1 ⟨rfl, hm⟩; have HM := hid hm; clear hm))
  go_ret2
  exact ⟨rfl, HM.out⟩

/-- What stands behind k folds. -/
def Folded (f g : Nat → Int) (n k M : Nat) (h : Nat → Int) : Prop := M = 2 ^ (n - k) ∧ Nums h ∧ ∀ j, j < M → kk (h j) = folds (fun j => kk (f j)) n (fun j => kk (g j)) k j
theorem Folded.start {f g : Nat → Int} {n N : Nat} (hN : N = 2 ^ n) (hv : Nums f) : Folded f g n 0 N f := ⟨hN, hv, fun j _ => rfl⟩
theorem Folded.next {f g h : Nat → Int} {n k H : Nat} {x : Int} (hk : k < n) (hf : Folded f g n k (2 * H) h) (hx : g k = x) : Folded f g n (k + 1) H (fldF h H x) := by
  obtain ⟨e, hv, hj⟩ := hf
  have e2 : H = 2 ^ (n - 1 - k) := by
    rw [show n - k = (n - 1 - k) + 1 from by omega, Nat.pow_succ] at e
    omega
  refine ⟨by rw [e2]; congr 1; omega, Nums_fld h H x, fun j hj2 => ?_⟩
  rw [kk_fldF, folds, ← e2, hx]
  unfold foldK
  dsimp only
  rw [hj j (by omega), hj (H + j) (by omega)]
theorem Folded.done {f g h : Nat → Int} {n M : Nat} (hf : Folded f g n n M h) : nrm (h 0) = ofK (evS (fun j => kk (f j)) (fun j => kk (g j)) n) := by
  obtain ⟨e, hv, hj⟩ := hf
  rw [nrm_ofK, hj 0 (by rw [e]; exact Nat.two_pow_pos _), ← evS_end]
theorem half_of {n k M : Nat} (hk : k < n) (h : M = 2 ^ (n - k)) : ∃ H, M = 2 * H ∧ 1 ≤ H := ⟨2 ^ (n - 1 - k), by rw [h, show n - k = (n - 1 - k) + 1 from by omega, Nat.pow_succ]; omega, Nat.one_le_two_pow⟩

set_option maxHeartbeats 4000000 in
set_option maxRecDepth 100000 in
theorem eval_ok (b off n N cap cap2 : Nat) (ao : Option Addr) (f g : Nat → Int) (w : World) (hn : n ≤ 8) (hN : N = 2 ^ n) (ht : Tab w) (hr : Row w b off N f) (hv : Nums f) (hp : PRow w ao n g) (hg : Nums g) :
    Calls Tryd.prog 31 #[.slice (some ⟨b, off, none⟩) N cap, .slice ao n cap2] w fun e w' => e = .returned (.tuple #[.int .u64 (ofK (evS (fun j => kk (f j)) (fun j => kk (g j)) n)), .int .i64 0]) ∧ Below w.heap.size w w' := by
  have hN1 : 1 ≤ N := by rw [hN]; exact Nat.one_le_two_pow
  have hN2 : N ≤ 256 := by rw [hN]; exact pow_256 hn
  have HVA := hid (vars_ok (some ⟨b, off, none⟩) n N cap w hn hN ht)
  have HR := hid hr
  have HG := hid hg
  have HP := hid hp
  have HF0 := hid (Folded.start (g := g) hN hv)
  have HLT := hid (hr.lt hN1)
  clear ht hr hv hp hg hN
  go_enter Tryd.func31, Tryd.ntmps31
  go_wp2_with (go_at_call 67; refine (HVA.out).mono ?_; rintro e w' ⟨rfl, hw⟩; obtain rfl := hw.symm)
  clear HVA
  go_loopg [0, 24] n (fun q t i wr => ∃ (k M bk ok ck : Nat) (h : Nat → Int), k ≤ n ∧ q = n - k ∧ i = .int .i64 (k : Int) ∧ t = .slice (some ⟨bk, ok, none⟩) M ck ∧ 1 ≤ M ∧ M ≤ 256 ∧ Hid (Folded f g n k M h) ∧ Hid (Row wr bk ok M h) ∧ Hid (Below w.heap.size w wr))
  case atStart => exact ⟨0, N, b, off, cap, f, by omega, rfl, rfl, rfl, hN1, hN2, HF0, HR, hid (Below.refl _ _)⟩
  case round =>
    clear HR HF0
    obtain ⟨k, M, bk, ok, ck, h, hk, rfl, rfl, rfl, hM1, hM2, HF, HRk, HB⟩ := hrel
    by_cases hlt : k < n
    · obtain ⟨b2, off2, rfl, hr2⟩ := HP.out (by omega)
      obtain ⟨H, rfl, hH1⟩ := half_of hlt HF.out.1
      have c1 := (hr2.kept HB.out (hr2.lt (by omega))) k hlt
      clear hr2
      obtain ⟨x, hx⟩ : ∃ x, g k = x := ⟨_, rfl⟩
      have bx := HG.out k
      rw [hx] at c1 bx
      obtain ⟨x0, x1⟩ := bx
      have HX := hid hx
      clear hx
      have HFO := hid (fold_any bk ok H ck h x wr hH1 (by omega) HRk.out HF.out.2.1 x0 x1)
      have k0 : (0 : Int) ≤ (k : Int) := by omega
      have k1 : (k : Int) < (n : Int) := by omega
      go_wp2_with (go_at_call 68; refine (HFO.out).mono ?_; rintro e w1 ⟨rfl, hm⟩; have HM := hid hm; clear hm)
      go_roundg (n - (k + 1))
      case measure => go_light; omega
      case rel => exact ⟨k + 1, H, wr.heap.size, 0, H, _, by omega, rfl, by go_num, rfl, hH1, by omega, hid (HF.out.next hlt HX.out), hid HM.out.row, hid (HB.out.trans (HM.out.below.mono HB.out.size))⟩
    · have e : k = n := by omega
      subst e
      have c1 := HRk.out 0 (by omega)
      rw [Nat.add_zero] at c1
      obtain ⟨y, hy⟩ : ∃ y, h 0 = y := ⟨_, rfl⟩
      have by1 := HF.out.2.1 0
      have hd := HF.out.done
      rw [hy] at c1 by1 hd
      obtain ⟨y0, y1⟩ := by1
      have HD := hid hd
      clear hy hd
      have m1 : (0 : Int) < (M : Int) := by omega
      go_wp2_with (go_at_call 69; refine (norm_any _ _ (by omega) (by omega)).mono ?_; rintro e w' ⟨rfl, hw⟩; obtain rfl := hw.symm)
      go_ret2
      exact ⟨by rw [← HD.out]; rfl, HB.out⟩

end Go.Proofs.YtkhacijkfjcdeaaDoor
