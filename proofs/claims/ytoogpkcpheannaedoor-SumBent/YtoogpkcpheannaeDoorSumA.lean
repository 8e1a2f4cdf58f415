/-
  Contracts of package sum's total, fix and round, each for every list of one to three tables of like size; they make new rows and write nothing that was there.
-/
import Derived.Test.YtoogpkcpheannaeDoorMleEv
import Derived.Test.YtoogpkcpheannaeDoorOwnL
import Derived.Test.YtoogpkcpheannaeDoorSums
namespace Go.Proofs.YtoogpkcpheannaeDoor
open Go.RowKit
set_option linter.unusedVariables false
attribute [local go_sem ↓] Go.wp_at_zero Go.wp_at_succ

theorem putF_same (F : Nat → Nat → Int) (k i : Nat) (j : Nat) : putF F k (F k) i j = F i j := by
  unfold putF
  by_cases e : i = k
  · rw [if_pos e, e]
  · rw [if_neg e]

set_option maxHeartbeats 4000000 in
set_option maxRecDepth 100000 in
theorem sfix_any (B o m cap : Nat) (bv ov cv : Nat → Nat) (F : Nat → Nat → Int) (n h : Nat) (x : Int) (w : World) (hm1 : 1 ≤ m) (hm : m ≤ 3) (hn : n + 1 ≤ 8) (hh : h = 2 ^ n) (ht : Tab w) (hl : Tabs w B o m bv ov cv (2 * h) F) (hv : ∀ i, i < m → Nums (F i)) (x0 : 0 ≤ x) (x1 : x ≤ 18446744073709551615) :
    Calls Tryd.prog 40 #[.slice (some ⟨B, o, none⟩) m cap, .int .u64 x] w fun e w' => e = .returned (.slice (some ⟨w.heap.size, 0, none⟩) m m) ∧ ∃ a, Lays w w' m m h a (fun i => fldF (F i) h x) := by
  have h1 : 1 ≤ h := by rw [hh]; exact Nat.one_le_two_pow
  have HT := hid ht
  have HL := hid hl
  have HV := hid hv
  have HH := hid hh
  clear ht hl hv hh
  have hmk := run_make_row' (P := Tryd.prog) 22 24 (.slice none 0 0) 24 Tryd.underlying22 Tryd.infoL rfl .i64 .i64 m (by omega) (by omega)
  go_enter Tryd.func40, Tryd.ntmps40
  go_wp2_with fail
  clear hmk
  go_loopg [13] m (fun q i wr => ∃ (k : Nat) (a : Nat → Nat), k ≤ m ∧ q = m - k ∧ i = .int .i64 (k : Int) ∧ Hid (Lays w wr m k h a (fun i => fldF (F i) h x)))
  case atStart => exact ⟨0, fun _ => 0, by omega, rfl, rfl, hid (Lays.start w m h _ _ 24)⟩
  case round =>
    obtain ⟨k, a, hk, rfl, rfl, HY⟩ := hrel
    by_cases hlt : k < m
    · have c1 := (HY.out.below.cell (p := ⟨B, o + k, none⟩) (HL.out.lt (by omega))).trans (HL.out.cell k hlt)
      have c2 := HY.out.todo k (Nat.le_refl _) hlt
      have f2 := HY.out.free k hlt
      have HF := hid (fix_ok (bv k) (ov k) n h (cv k) (F k) x wr hn HH.out (HT.out.kept HY.out.below HT.out.1) ((HL.out.row k hlt).kept HY.out.below ((HL.out.row k hlt).lt (by omega))) (HV.out k hlt) x0 x1)
      have k0 : (0 : Int) ≤ (k : Int) := by omega
      have k1 : (k : Int) < (m : Int) := by omega
      go_wp2_with (go_at_call 59; refine (HF.out).mono ?_; rintro e w1 ⟨rfl, hm2⟩; have c3 := (hm2.below.cell HY.out.lt).trans c2; have f3 := (hm2.below.frozen HY.out.lt).trans f2; have HM := hid hm2; clear hm2)
      go_roundg (m - (k + 1))
      case measure => go_light; omega
      case rel => exact ⟨k + 1, _, by omega, rfl, by go_num, hid ((HY.out.next hlt h1 HM.out.below (Nat.le_refl _) HM.out.row HM.out.free).congr fun i j _ _ => putF_same _ k i j)⟩
    · have e : k = m := by omega
      subst e
      go_wp2_with fail
      go_ret
      exact ⟨rfl, a, HY.out⟩

theorem tot_mul (F : Nat → Nat → Int) (b t : Nat) (p y : Int) (hp : p = ofK (prK (fun i => kF F i b) t)) (hy : F t b = y) : mulQ p y = ofK (prK (fun i => kF F i b) (t + 1)) := by rw [mulQ_ofK, hp, kk_ofK, ← hy]; rfl
theorem tot_add (F : Nat → Nat → Int) (m b : Nat) (z p : Int) (hz : z = ofK (claimK (kF F) m b)) (hp : p = ofK (prK (fun i => kF F i b) m)) : addQ z p = ofK (claimK (kF F) m (b + 1)) := by rw [addQ_ofK, hz, hp, kk_ofK, kk_ofK]; rfl

set_option maxHeartbeats 4000000 in
set_option maxRecDepth 100000 in
theorem total_any (B o m cap : Nat) (bv ov cv : Nat → Nat) (F : Nat → Nat → Int) (N : Nat) (w : World) (hm1 : 1 ≤ m) (hm : m ≤ 3) (hN1 : 1 ≤ N) (hN : N ≤ 256) (hl : Tabs w B o m bv ov cv N F) (hv : ∀ i, i < m → Nums (F i)) :
    Calls Tryd.prog 35 #[.slice (some ⟨B, o, none⟩) m cap] w fun e w' => e = .returned (.int .u64 (ofK (claimK (kF F) m N))) ∧ w' = w := by
  have c0 := hl.cell 0 (by omega)
  rw [Nat.add_zero] at c0
  have HL := hid hl
  have HV := hid hv
  clear hl hv
  have m1 : (0 : Int) < (m : Int) := by omega
  go_enter Tryd.func35, Tryd.ntmps35
  go_wp2_with fail
  clear c0
  go_loopg [3, 12] N (fun q x i wr => ∃ (k : Nat) (z : Int), k ≤ N ∧ q = N - k ∧ x = .int .u64 z ∧ i = .int .i64 (k : Int) ∧ 0 ≤ z ∧ z ≤ 2305843009213693950 ∧ Hid (z = ofK (claimK (kF F) m k)) ∧ wr = w)
  case atStart => exact ⟨0, 0, by omega, rfl, rfl, rfl, by omega, by omega, hid rfl, rfl⟩
  case round =>
    obtain ⟨k, z, hk, rfl, rfl, rfl, z0, z1, HZ, hw⟩ := hrel
    obtain rfl := hw.symm
    by_cases hlt : k < N
    · go_wp2_with fail
      go_loopg [5, 17] m (fun q x i wr => ∃ (t : Nat) (p : Int), t ≤ m ∧ q = m - t ∧ x = .int .u64 p ∧ i = .int .i64 (t : Int) ∧ 0 ≤ p ∧ p ≤ 2305843009213693950 ∧ Hid (p = ofK (prK (fun i => kF F i k) t)) ∧ wr = w)
      case atStart => exact ⟨0, 1, by omega, rfl, rfl, rfl, by omega, by omega, hid rfl, rfl⟩
      case round =>
        obtain ⟨t, p, ht, rfl, rfl, rfl, p0, p1, HP, hw⟩ := hrel
        obtain rfl := hw.symm
        by_cases hlt2 : t < m
        · have c1 := HL.out.cell t hlt2
          have c2 := HL.out.row t hlt2 k hlt
          obtain ⟨y, hy⟩ : ∃ y, F t k = y := ⟨_, rfl⟩
          have b2 := HV.out t hlt2 k
          rw [hy] at c2 b2
          obtain ⟨y0, y1⟩ := b2
          have HMU := hid (tot_mul F k t p y HP.out hy)
          clear hy
          have t0 : (0 : Int) ≤ (t : Int) := by omega
          have t1 : (t : Int) < (m : Int) := by omega
          have k0 : (0 : Int) ≤ (k : Int) := by omega
          have k1 : (k : Int) < (N : Int) := by omega
          go_wp2_with (go_at_call 16; refine (mul_any _ _ _ (by omega) (by omega) (by omega) (by omega)).mono ?_; rintro e w' ⟨rfl, hw⟩; obtain rfl := hw.symm)
          go_roundg (m - (t + 1))
          case measure => go_light; omega
          case rel => exact ⟨t + 1, _, by omega, rfl, rfl, by go_num, (mulQ_rng _ _).1, (mulQ_rng _ _).2, HMU, rfl⟩
        · have e : t = m := by omega
          subst e
          have HST := hid (tot_add F t k z p HZ.out HP.out)
          go_wp2_with (go_at_call 20; refine (add_any _ _ _ (by omega) (by omega) (by omega) (by omega)).mono ?_; rintro e w' ⟨rfl, hw⟩; obtain rfl := hw.symm)
          go_roundg (N - (k + 1))
          case measure => go_light; omega
          case rel => exact ⟨k + 1, _, by omega, rfl, rfl, by go_num, (addQ_rng _ _).1, (addQ_rng _ _).2, HST, rfl⟩
    · have e : k = N := by omega
      subst e
      go_wp2_with fail
      go_ret
      exact ⟨ret_u64 HZ.out, rfl⟩

theorem claim_fold (F : Nat → Nat → Int) (m h : Nat) (x : Int) : claimK (kF fun i => fldF (F i) h x) m h = roundK (kF F) m h (kk x) :=
  claimK_congr m h fun i b _ _ => kk_fldF (F i) h x b
/-- A round's values, as far as they are reckoned. -/
def rndF (F : Nat → Nat → Int) (m h k : Nat) (j : Nat) : Int := if j < k then ofK (roundK (kF F) m h (kn j)) else 0
theorem rnd_step (F : Nat → Nat → Int) (m h k j : Nat) : (if j = k then ofK (claimK (kF fun i => fldF (F i) h (k : Int)) m h) else rndF F m h k j) = rndF F m h (k + 1) j := by
  unfold rndF
  by_cases e : j = k
  · subst e
    rw [if_pos rfl, if_pos (by omega), claim_fold]; rfl
  · rw [if_neg e]
    by_cases h2 : j < k
    · rw [if_pos h2, if_pos (by omega)]
    · rw [if_neg h2, if_neg (by omega)]

set_option maxHeartbeats 4000000 in
set_option maxRecDepth 100000 in
theorem sround_any (B o m cap : Nat) (bv ov cv : Nat → Nat) (F : Nat → Nat → Int) (n h : Nat) (w : World) (hm1 : 1 ≤ m) (hm : m ≤ 3) (hn : n + 1 ≤ 8) (hh : h = 2 ^ n) (ht : Tab w) (hl : Tabs w B o m bv ov cv (2 * h) F) (hv : ∀ i, i < m → Nums (F i)) :
    Calls Tryd.prog 39 #[.slice (some ⟨B, o, none⟩) m cap] w fun e w' => e = .returned (.slice (some ⟨w.heap.size, 0, none⟩) (m + 1) (m + 1)) ∧ Made w w' (m + 1) (fun j => ofK (roundK (kF F) m h (kn j))) := by
  have h1 : 1 ≤ h := by rw [hh]; exact Nat.one_le_two_pow
  have h2 : h ≤ 256 := by have := pow_256 (n := n) (by omega); omega
  have HT := hid ht
  have HL := hid hl
  have HV := hid hv
  have HH := hid hh
  clear ht hl hv hh
  have hmk := run_make_row' (P := Tryd.prog) 24 23 (.int .u64 0) 8 Tryd.underlying24 Tryd.infoM rfl .i64 .i64 (m + 1) (by omega) (by omega)
  rw [show ((m + 1 : Nat) : Int) = (m : Int) + 1 from by omega] at hmk
  go_enter Tryd.func39, Tryd.ntmps39
  go_wp2_with fail
  clear hmk
  go_loopg [11] (m + 1) (fun q i wr => ∃ k : Nat, k ≤ m + 1 ∧ q = m + 1 - k ∧ i = .int .i64 (k : Int) ∧ Hid (Made w wr (m + 1) (rndF F m h k)))
  case atStart => exact ⟨0, by omega, rfl, rfl, hid ((Made.start w (m + 1) 23).congr fun j _ => by rw [rndF, if_neg (by omega)])⟩
  case round =>
    obtain ⟨k, hk, rfl, rfl, HM⟩ := hrel
    by_cases hlt : k < m + 1
    · have c3 := HM.out.cell k hlt
      have f3 := HM.out.frozen k hlt
      obtain ⟨y, hy⟩ : ∃ y, rndF F m h k k = y := ⟨_, rfl⟩
      rw [hy] at c3
      clear hy
      have hBlt : w.heap.size < wr.heap.size := HM.out.row.lt (by omega)
      have hTb := (HL.out.kept HM.out.below (by omega) : Tabs wr B o m bv ov cv (2 * h) F)
      have HF := hid (sfix_any B o m cap bv ov cv F n h (k : Int) wr hm1 hm hn HH.out (HT.out.kept HM.out.below HT.out.1) hTb HV.out (by omega) (by omega))
      clear hTb
      have k0 : (0 : Int) ≤ (k : Int) := by omega
      have k1 : (k : Int) < (m : Int) + 1 := by omega
      have k2 : (k : Int) < ((m + 1 : Nat) : Int) := by omega
      have wk : IntKind.u64.wrap (k : Int) = (k : Int) := by rw [IntKind.wrap_u64]; omega
      go_wp2_with (first
        | (go_at_call 40; refine (HF.out).mono ?_; rintro e w1 ⟨rfl, a, hy⟩; have c4 := (hy.below.cell (p := ⟨w.heap.size, k, none⟩) hBlt).trans c3; have f4 := (hy.below.frozen (p := ⟨w.heap.size, k, none⟩) hBlt).trans f3; have HY := hid hy; clear hy)
        | (go_at_call 35; refine (total_any _ _ _ _ _ _ _ _ _ _ hm1 hm h1 h2 HY.out.tabs (fun i _ => Nums_fld _ _ _)).mono ?_; rintro e w' ⟨rfl, hw⟩; obtain rfl := hw.symm))
      go_roundg (m + 1 - (k + 1))
      case measure => go_light; omega
      case rel => exact ⟨k + 1, by omega, rfl, by go_num, hid (((HM.out.keep (by omega) HY.out.below).store k _ hlt).congr fun j _ => rnd_step F m h k j)⟩
    · have e : k = m + 1 := by omega
      subst e
      go_wp2_with fail
      go_ret
      exact ⟨rfl, HM.out.congr fun j hj => by rw [rndF, if_pos hj]⟩

end Go.Proofs.YtoogpkcpheannaeDoor
