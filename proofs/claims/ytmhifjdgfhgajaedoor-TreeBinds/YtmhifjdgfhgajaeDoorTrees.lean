/-
  Package tree's Root, Path and Climb: what is asked of them (TreeC) holds, each for every input; they write nothing that was there.
-/
import Derived.Test.YtmhifjdgfhgajaeDoorTreeI
import Derived.Test.YtmhifjdgfhgajaeDoorRefVars
import Derived.Deep.RegionWith
import Derived.Deep.RegionHeld3
namespace Go.Proofs.YtmhifjdgfhgajaeDoor
open Go.RowKit
set_option linter.unusedVariables false
attribute [local go_sem ↓] Go.wp_at_zero Go.wp_at_succ

theorem tpair (a b : Int) (W : World) (h0 : 0 ≤ a) (h1 : a ≤ 18446744073709551615) (g0 : 0 ≤ b) (g1 : b ≤ 18446744073709551615) : Calls Tryd.prog 26 #[.int .u64 a, .int .u64 b] W fun e w' => e = .returned (.int .u64 (prQ a b)) ∧ Below W.heap.size W w' := pair_any a b W h0 h1 g0 g1
theorem tpair_roots (n m : Nat) (F G : Nat → Int) (W : World) : Calls Tryd.prog 26 #[.int .u64 (rootQ n F), .int .u64 (rootQ m G)] W fun e w' => e = .returned (.int .u64 (prQ (rootQ n F) (rootQ m G))) ∧ Below W.heap.size W w' := by
  have r0 := rootQ_rng n F
  have r1 := rootQ_rng m G
  exact tpair _ _ W (by omega) (by omega) (by omega) (by omega)
set_option maxHeartbeats 1000000 in
theorem leafRoot_any (x : Int) (w : World) (h0 : 0 ≤ x) (h1 : x ≤ 18446744073709551615) :
    Calls Tryd.prog 44 #[.int .u64 x] w fun e w' => e = .returned (.int .u64 (prQ x 0)) ∧ Below w.heap.size w w' := by
  have HP := hid (tpair x 0 w h0 h1 (by omega) (by omega))
  go_enter Tryd.func44, Tryd.ntmps44
  go_wp2_with (go_at_call 26; refine (HP.out).mono ?_; rintro e w1 ⟨rfl, hb⟩; have HB := hid hb; clear hb)
  go_ret
  exact ⟨rfl, HB.out⟩

theorem Row.halves {w : World} {b off h : Nat} {f : Nat → Int} (r : Row w b off (2 * h) f) : Row w b off h f ∧ Row w b (off + h) h (fun j => f (h + j)) :=
  ⟨fun j hj => r j (by omega), fun j hj => by have := r (h + j) (by omega); rw [← Nat.add_assoc] at this; exact this⟩
theorem Nums_off {f : Nat → Int} (h : Nums f) (k : Nat) : Nums (fun j => f (k + j)) := fun j => h _

set_option maxHeartbeats 1000000 in
set_option maxRecDepth 100000 in
theorem root_any (n : Nat) : ∀ (N b off cap : Nat) (f : Nat → Int) (w : World), n ≤ 8 → N = 2 ^ n → N ≤ cap → Row w b off N f → Nums f →
    Calls Tryd.prog 42 #[.slice (some ⟨b, off, none⟩) N cap] w fun e w' => e = .returned (.int .u64 (rootQ n f)) ∧ Below w.heap.size w w' := by
  induction n with
  | zero =>
    intro N b off cap f w _ hN hc hr hv
    have c0 := hr 0 (by omega)
    rw [Nat.add_zero] at c0
    have v0 := hv 0
    have he : prQ (f 0) 0 = rootQ 0 f := rfl
    obtain ⟨x, hx⟩ : ∃ x, f 0 = x := ⟨_, rfl⟩
    rw [hx] at c0 v0 he
    obtain ⟨v00, v01⟩ := v0
    have HE := hid he
    have hN1 : N = 1 := hN
    subst hN1
    clear hN hr hv hx he
    have HP := hid (leafRoot_any x w (by omega) (by omega))
    go_enter Tryd.func42, Tryd.ntmps42
    go_wp2_with (go_at_call 44; refine (HP.out).mono ?_; rintro e w1 ⟨rfl, hb⟩; have HB := hid hb; clear hb)
    go_ret
    exact ⟨ret_u64 HE.out, HB.out⟩
  | succ n ih =>
    intro N b off cap f w hn hN hc hr hv
    obtain ⟨h, hh⟩ : ∃ h, 2 ^ n = h := ⟨_, rfl⟩
    have hN2 : N = 2 * h := by rw [hN, two_pow_succ, hh]; omega
    have hN8 : 2 ^ n ≤ 2 ^ 7 := Nat.pow_le_pow_right (by omega) (by omega)
    rw [hh] at hN8
    have h1 : 1 ≤ h := by rw [← hh]; exact Nat.one_le_two_pow
    subst hN2
    obtain ⟨hr1, hr2⟩ := hr.halves
    have hlt := hr1.lt h1
    have HC := hid (fun (o m c : Nat) (W : World) (ho : off ≤ o) (ho2 : o ≤ off + h) (hm : m = h) (hc2 : m ≤ c) (hb : Below w.heap.size w W) => ih m b o c (fun j => f (o - off + j)) W (by omega) (by rw [hm, hh]) hc2 (fun j hj => by have := (hr.kept hb hlt) (o - off + j) (by omega); rw [show off + (o - off + j) = o + j from by omega] at this; exact this) (Nums_off hv _))
    have HE2 := hid (fun (F G : Nat → Int) (h1 : ∀ j, F j = f j) (h2 : ∀ j, G j = f (h + j)) => show prQ (rootQ n F) (rootQ n G) = rootQ (n + 1) f by rw [funext h1, funext h2, rootQ, hh])
    have hcn : ¬ cap = h := by omega
    have HP := hid (fun F G W => tpair_roots n n F G W)
    clear ih hr hv hr1 hr2 hN hn hh
    have i0 : (h : Int) ≤ (cap : Int) := by omega
    have i1 : (h : Int) ≤ ((2 * h : Nat) : Int) := by omega
    have i2 : (0 : Int) ≤ (h : Int) := by omega
    have e1 : (((2 * h : Nat) : Int) == 1) = false := beq_eq_false_iff_ne.2 (by omega)
    go_enter Tryd.func42, Tryd.ntmps42
    go_wp2_with fail
    have q2 : (2 * (h : Int)).tdiv 2 = (h : Int) := by rw [Int.mul_comm, Int.mul_tdiv_cancel _ (by omega)]
    have q3 : IntKind.i64.wrap (h : Int) = (h : Int) := IntWalk.i64_in _ (by omega)
    go_region_with (first
      | (go_at_call 42; refine (HC.out _ _ _ _ (by omega) (by omega) (by omega) (by omega) (by first | exact hb2 | exact Below.refl _ _ | exact (Below.refl _ w).drew)).mono ?_; rintro e w1 ⟨rfl, hb1⟩; have hb2 : Below w.heap.size w w1 := (by first | exact hb2.trans (hb1.mono hb2.size) | exact hb1 | exact (Below.refl _ w).drew.trans hb1); clear hb1)
      | (go_at_call 26; refine (HP.out _ _ _).mono ?_; rintro e w3 ⟨rfl, hb5⟩; have hb6 : Below w.heap.size w w3 := hb2.trans (hb5.mono hb2.size); clear hb5))
    all_goals (go_wp2_with fail)
    all_goals go_ret
    all_goals exact ⟨ret_u64 (HE2.out _ _ (fun j => by first | rfl | (congr 1; omega)) (fun j => by first | rfl | (congr 1; omega))), hb6⟩

/-- The place beside is told by the lowest bit. -/
theorem xor_all : ((List.range 256).all fun m => bits .xor .i64 (m : Int) 1 == ((sib m : Nat) : Int)) = true := by kernel_rfl
theorem xor_sib (m : Nat) (h : m < 256) : bits .xor .i64 (m : Int) 1 = ((sib m : Nat) : Int) := by
  have := List.all_eq_true.1 xor_all m (List.mem_range.2 h)
  simpa using this
theorem sib_lt {m z : Nat} (h : m < 2 * z) : sib m < 2 * z := by unfold sib; split <;> omega
theorem beside_in {n k i : Nat} (hk : k < n) (hi : i < 2 ^ n) : sib (i / 2 ^ k) * 2 ^ k + 2 ^ k ≤ 2 ^ n ∧ i / 2 ^ k < 2 ^ n := by
  have e : 2 ^ n = 2 ^ k * (2 * 2 ^ (n - k - 1)) := by
    rw [show 2 * 2 ^ (n - k - 1) = 2 ^ (n - k) from by rw [show n - k = (n - k - 1) + 1 from by omega, two_pow_succ]; simp; omega, ← Nat.pow_add]; congr 1; omega
  have h1 : i / 2 ^ k < 2 * 2 ^ (n - k - 1) := by
    rw [Nat.div_lt_iff_lt_mul (Nat.two_pow_pos k), Nat.mul_comm, ← e]; exact hi
  have h2 := sib_lt h1
  refine ⟨?_, Nat.lt_of_le_of_lt (Nat.div_le_self _ _) hi⟩
  have h3 := Nat.mul_le_mul_right (2 ^ k) h2
  rw [Nat.succ_mul, Nat.mul_comm (2 * 2 ^ (n - k - 1)), ← e] at h3
  exact h3

set_option maxHeartbeats 1000000 in
set_option maxRecDepth 100000 in
theorem beside_at (N b off cap i k S F m s : Nat) (w : World) (hk : k ≤ 8) (hS1 : 1 ≤ S) (HSH : Hid (wrap64 ((2 : Int) ^ k) = (S : Int))) (HD : Hid ((i : Int) / (S : Int) = (m : Int))) (hm : m < 256) (HX : Hid (bits .xor .i64 (m : Int) 1 = (s : Int))) (HM : Hid ((s : Int) * (S : Int) = (F : Int))) (hF : F + S ≤ N) (hN : N ≤ 256) (hc : N ≤ cap) :
    Calls Tryd.prog 43 #[.slice (some ⟨b, off, none⟩) N cap, .int .i64 (i : Int), .int .i64 (k : Int)] w fun e w' => e = .returned (.slice (some ⟨b, off + F, none⟩) S (cap - F)) ∧ w' = w := by
  have f0 : (0 : Int) ≤ (F : Int) := by omega
  have f1 : (F : Int) ≤ (F : Int) + (S : Int) := by omega
  have f2 : (F : Int) + (S : Int) ≤ (cap : Int) := by omega
  have hcF : ¬ cap = F := by omega
  have hz : ((S : Int) == 0) = false := beq_eq_false_iff_ne.2 (by omega)
  have hz2 : ¬ (S : Int) = 0 := by omega
  have t1 : (F + S) - F = S := by omega
  have hsh := HSH.out
  have hd := HD.out
  have hx := HX.out
  have hmul := HM.out
  go_enter Tryd.func43, Tryd.ntmps43
  go_wp2_with fail
  go_ret
  exact ⟨by simp, rfl⟩
theorem beside_any (n N b off cap i k S F : Nat) (w : World) (hn : n ≤ 8) (hk : k < n) (hN : N = 2 ^ n) (hi : i < N) (hS : S = 2 ^ k) (hF : F = sib (i / 2 ^ k) * 2 ^ k) (hc : N ≤ cap) :
    Calls Tryd.prog 43 #[.slice (some ⟨b, off, none⟩) N cap, .int .i64 (i : Int), .int .i64 (k : Int)] w fun e w' => e = .returned (.slice (some ⟨b, off + F, none⟩) S (cap - F)) ∧ w' = w := by
  obtain ⟨b1, b2⟩ := beside_in hk (hN ▸ hi)
  have hN2 : N ≤ 256 := by rw [hN]; exact pow_256 hn
  have hm : i / 2 ^ k < 256 := Nat.lt_of_lt_of_le b2 (by rw [← hN]; exact hN2)
  exact beside_at N b off cap i k S F (i / 2 ^ k) (sib (i / 2 ^ k)) w (by omega) (by rw [hS]; exact Nat.one_le_two_pow) (hid (by rw [hS]; exact shl_one (by omega))) (hid (by rw [hS]; simp)) hm (hid (xor_sib _ hm)) (hid (by rw [hS, hF]; simp)) (by rw [hF, hS, hN]; exact b1) hN2 hc

theorem Made.held {w w' w'' : World} {n : Nat} {f : Nat → Int} (h : Made w w' n f) (hn : 0 < n) (hb : Below w'.heap.size w' w'') : Made w w'' n f :=
  ⟨h.below.trans (hb.mono h.below.size), h.row.kept hb (h.row.lt hn), h.free.kept hb (h.row.lt hn)⟩
theorem path_next (n : Nat) (f : Nat → Int) (i k j : Nat) (y : Int) (hy : pathQ n f i k = y) : (if j = k then y else if j < k then pathQ n f i j else 0) = if j < k + 1 then pathQ n f i j else 0 := by
  by_cases e : j = k
  · subst e
    rw [if_pos rfl, if_pos (by omega), hy]
  · rw [if_neg e]
    by_cases h2 : j < k
    · rw [if_pos h2, if_pos (by omega)]
    · rw [if_neg h2, if_neg (by omega)]

set_option maxHeartbeats 4000000 in
set_option maxRecDepth 100000 in
theorem tpath_ok (n N b off cap i : Nat) (f : Nat → Int) (w : World) (hn : n ≤ 8) (hN : N = 2 ^ n) (hc : N ≤ cap) (ht : Tab w) (hr : Row w b off N f) (hv : Nums f) (hi : i < N) :
    Calls Tryd.prog 24 #[.slice (some ⟨b, off, none⟩) N cap, .int .i64 (i : Int)] w fun e w' => e = .returned (.tuple #[.slice (some ⟨w.heap.size, 0, none⟩) n n, .int .i64 0]) ∧ Made w w' n (pathQ n f i) := by
  have HV := hid (vars_ok (some ⟨b, off, none⟩) n N cap w hn hN ht)
  have hlt0 := hr.lt (by omega)
  have HC := hid (fun (k : Nat) (W : World) (hk : k < n) (hb : Below w.heap.size w W) => (by
    obtain ⟨b1, b2⟩ := beside_in hk (hN ▸ hi)
    have hb1 := beside_any n N b off cap i k (2 ^ k) (sib (i / 2 ^ k) * 2 ^ k) W hn hk hN hi rfl rfl hc
    have hr1 := fun W' (hb' : Below w.heap.size w W') => root_any k (2 ^ k) b (off + sib (i / 2 ^ k) * 2 ^ k) (cap - sib (i / 2 ^ k) * 2 ^ k) (fun j => f (sib (i / 2 ^ k) * 2 ^ k + j)) W' (by omega) rfl (by omega) (fun j hj => by have := (hr.kept hb' hlt0) (sib (i / 2 ^ k) * 2 ^ k + j) (by omega); rw [← Nat.add_assoc] at this; exact this) (Nums_off hv _)
    have e : rootQ k (fun j => f (sib (i / 2 ^ k) * 2 ^ k + j)) = pathQ n f i k := by rw [path_lev n f i k (hN ▸ hi) hk, lev_root, Nat.mul_comm]
    rw [e] at hr1
    exact ⟨_, _, _, hb1, hr1 W hb⟩ :
    ∃ S F c : Nat, (Calls Tryd.prog 43 #[.slice (some ⟨b, off, none⟩) N cap, .int .i64 (i : Int), .int .i64 (k : Int)] W fun e w' => e = .returned (.slice (some ⟨b, F, none⟩) S c) ∧ w' = W) ∧
      (Calls Tryd.prog 42 #[.slice (some ⟨b, F, none⟩) S c] W fun e w' => e = .returned (.int .u64 (pathQ n f i k)) ∧ Below W.heap.size W w')))
  have hN2 : N ≤ 256 := by rw [hN]; exact pow_256 hn
  have i1 : (i : Int) < (N : Int) := by omega
  have i2 : (0 : Int) ≤ (i : Int) := by omega
  have d1 : decide (N ≤ i) = false := decide_eq_false (by omega)
  have d2 : decide ((i : Int) < 0) = false := decide_eq_false (by omega)
  have d3 : ¬ N ≤ i := by omega
  clear ht hr hv hN hlt0
  have hmk := run_make_row' (P := Tryd.prog) 24 23 (.int .u64 0) 8 Tryd.underlying24 Tryd.infoM rfl .i64 .i64 n (by omega) (by omega)
  go_enter Tryd.func24, Tryd.ntmps24
  go_wp2_with (go_at_call 36; refine (HV.out).mono ?_; rintro e w' ⟨rfl, hw⟩; obtain rfl := hw.symm)
  clear hmk HV
  go_loopg [30] n (fun q x wr => ∃ k : Nat, k ≤ n ∧ q = n - k ∧ x = .int .i64 (k : Int) ∧ Hid (Made w wr n (fun j => if j < k then pathQ n f i j else 0)))
  case atStart => exact ⟨0, by omega, rfl, rfl, hid ((Made.start w n 23).congr fun j _ => by rw [if_neg (by omega)])⟩
  case round =>
    obtain ⟨k, hk, rfl, rfl, HM⟩ := hrel
    by_cases hlt : k < n
    · have c3 := HM.out.cell k hlt
      have f3 := HM.out.frozen k hlt
      rw [if_neg (by omega)] at c3
      have hBlt : w.heap.size < wr.heap.size := HM.out.row.lt (by omega)
      obtain ⟨S, F, c, hb1, hr1⟩ := HC.out k wr hlt HM.out.below
      obtain ⟨y, hy⟩ : ∃ y, pathQ n f i k = y := ⟨_, rfl⟩
      rw [hy] at hr1
      have HY := hid hy
      have HBE := hid hb1
      have HRO := hid hr1
      clear hy hb1 hr1
      have k0 : (0 : Int) ≤ (k : Int) := by omega
      have k1 : (k : Int) < (n : Int) := by omega
      go_wp2_with (first
        | (go_at_call 43; refine (HBE.out).mono ?_; rintro e w' ⟨rfl, hw⟩; obtain rfl := hw.symm)
        | (go_at_call 42; refine (HRO.out).mono ?_; rintro e w1 ⟨rfl, hb⟩; have c4 := (hb.cell (p := ⟨w.heap.size, k, none⟩) hBlt).trans c3; have f4 := (hb.frozen (p := ⟨w.heap.size, k, none⟩) hBlt).trans f3; have HB := hid hb; clear hb))
      go_roundg (n - (k + 1))
      case measure => go_light; omega
      case rel => exact ⟨k + 1, by omega, rfl, by go_num, hid (((HM.out.held (by omega) HB.out).store k _ hlt).congr fun j _ => path_next n f i k j y HY.out)⟩
    · have e : k = n := by omega
      subst e
      go_wp2_with fail
      go_ret2
      exact ⟨rfl, HM.out.congr fun j hj => by rw [if_pos hj]⟩

theorem low_and (m : Nat) (h : m ≤ 100000) : bits .and .i64 (m : Int) 1 = ((m % 2 : Nat) : Int) := by
  have h1 : (BitVec.ofInt 64 (m : Int)).toNat = m := by
    rw [BitVec.ofInt_natCast, BitVec.toNat_ofNat]; exact Nat.mod_eq_of_lt (by omega)
  have h2 : (BitVec.ofInt 64 (1 : Int)).toNat = 1 := rfl
  have e : m &&& 1 = m % 2 := Nat.and_two_pow_sub_one_eq_mod m 1
  show IntKind.i64.wrap ((BitVec.ofInt 64 (m : Int) &&& BitVec.ofInt 64 (1 : Int)).toNat : Int) = _
  rw [BitVec.toNat_and, h1, h2, e]
  exact IntWalk.i64_in _ (by omega)

theorem ret_u64_err {a b x : Int} (h : a = b) : Ending.returned (.tuple #[.int .u64 a, .int .i64 x]) = .returned (.tuple #[.int .u64 b, .int .i64 x]) := by rw [h]
set_option maxHeartbeats 4000000 in
set_option maxRecDepth 100000 in
theorem tclimb_ok (n cap i : Nat) (ao : Option Addr) (leaf : Int) (p : Nat → Int) (w : World) (hn : n ≤ 8) (hr : PRow w ao n p) (hv : Nums p) (hi : i < 2 ^ n) (l0 : 0 ≤ leaf) (l1 : leaf ≤ 18446744073709551615) :
    Calls Tryd.prog 25 #[.int .i64 (i : Int), .int .u64 leaf, .slice ao n cap] w fun e w' => e = .returned (.tuple #[.int .u64 (climbQ n i leaf p), .int .i64 0]) ∧ Below w.heap.size w w' := by
  have HL := hid (leafRoot_any leaf w l0 l1)
  have HUP := hid (climb_up leaf p n i hi)
  obtain ⟨N, hN⟩ : ∃ N, 2 ^ n = N := ⟨_, rfl⟩
  have HSH : Hid (wrap64 ((2 : Int) ^ n) = (N : Int)) := hid (by rw [← hN]; exact shl_one hn)
  have hN2 : N ≤ 256 := by rw [← hN]; exact pow_256 hn
  rw [hN] at hi
  have i1 : (i : Int) < (N : Int) := by omega
  have i2 : (0 : Int) ≤ (i : Int) := by omega
  have i3 : ¬ (8 : Int) < (n : Int) := by omega
  have HP := hid hr
  have HV := hid hv
  clear hr hv hN
  have hsh := HSH.out
  go_enter Tryd.func25, Tryd.ntmps25
  go_wp2_with (go_at_call 44; refine (HL.out).mono ?_; rintro e w1 ⟨rfl, hb⟩; have HB1 := hid hb; clear hb)
  clear hsh HL
  go_loopg [29, 8] n (fun q x t wr => ∃ (k : Nat) (y : Int), k ≤ n ∧ q = n - k ∧ x = .int .i64 (k : Int) ∧ t = .int .u64 y ∧ 0 ≤ y ∧ y ≤ 18446744073709551615 ∧ Hid (y = upC i leaf p k) ∧ Hid (Below w.heap.size w wr))
  case atStart => exact ⟨0, _, by omega, rfl, rfl, rfl, (prQ_rng _ _).1, by have := (prQ_rng leaf 0).2; omega, hid rfl, HB1⟩
  case round =>
    clear HB1
    obtain ⟨k, y, hk, rfl, rfl, rfl, y0, y1, HY, HB⟩ := hrel
    by_cases hlt : k < n
    · obtain ⟨bp, op, rfl, hrp⟩ := HP.out (by omega)
      have c1 := (hrp.kept HB.out (hrp.lt (by omega))) k hlt
      have bx := HV.out k
      obtain ⟨x, hx⟩ : ∃ x, p k = x := ⟨_, rfl⟩
      rw [hx] at c1 bx
      obtain ⟨x0, x1⟩ := bx
      obtain ⟨m, hm⟩ : ∃ m : Nat, i / 2 ^ k = m := ⟨_, rfl⟩
      have hmk : m ≤ 100000 := by rw [← hm]; exact Nat.le_trans (Nat.div_le_self _ _) (by omega)
      have hmi : (i : Int) / 2 ^ k = (m : Int) := by rw [← hm]; simp
      have hba := low_and m hmk
      have k0 : (0 : Int) ≤ (k : Int) := by omega
      have k1 : (k : Int) < (n : Int) := by omega
      clear hrp
      by_cases hbit : m % 2 = 0
      · rw [hbit] at hba
        have hbt : (bits .and .i64 (m : Int) 1 == 0) = true := by rw [hba]; rfl
        have HU : Hid (prQ y x = upC i leaf p (k + 1)) := hid (by rw [upC, hm, if_pos hbit, HY.out, hx])
        have HPA := hid (tpair y x wr y0 y1 x0 x1)
        clear hba hbit hm hx
        go_wp2_with (go_at_call 26; refine (HPA.out).mono ?_; rintro e w2 ⟨rfl, hb⟩; have HB2 := hid hb; clear hb)
        go_roundg (n - (k + 1))
        case measure => go_light; omega
        case rel => exact ⟨k + 1, _, by omega, rfl, by go_num, rfl, (prQ_rng _ _).1, by have := (prQ_rng y x).2; omega, HU, hid (HB.out.trans (HB2.out.mono HB.out.size))⟩
      · have hbit1 : m % 2 = 1 := by omega
        rw [hbit1] at hba
        have hbt : (bits .and .i64 (m : Int) 1 == 0) = false := by rw [hba]; rfl
        have HU : Hid (prQ x y = upC i leaf p (k + 1)) := hid (by rw [upC, hm, if_neg hbit, HY.out, hx])
        have HPA := hid (tpair x y wr x0 x1 y0 y1)
        clear hba hbit hbit1 hm hx
        go_wp2_with (go_at_call 26; refine (HPA.out).mono ?_; rintro e w2 ⟨rfl, hb⟩; have HB2 := hid hb; clear hb)
        go_roundg (n - (k + 1))
        case measure => go_light; omega
        case rel => exact ⟨k + 1, _, by omega, rfl, by go_num, rfl, (prQ_rng _ _).1, by have := (prQ_rng x y).2; omega, HU, hid (HB.out.trans (HB2.out.mono HB.out.size))⟩
    · have e : k = n := by omega
      subst e
      go_wp2_with fail
      go_ret2
      exact ⟨ret_u64_err (HY.out.trans HUP.out.symm), HB.out⟩

set_option maxHeartbeats 1000000 in
set_option maxRecDepth 100000 in
theorem tclimb_arg (n cap : Nat) (i : Int) (ao : Option Addr) (leaf : Int) (w : World) (hm : n ≤ maxLen) (h : 8 < n ∨ i < 0 ∨ (n ≤ 8 ∧ ((2 ^ n : Nat) : Int) ≤ i)) :
    Calls Tryd.prog 25 #[.int .i64 i, .int .u64 leaf, .slice ao n cap] w fun e w' => e = .returned (.tuple #[.int .u64 0, .int .i64 1]) ∧ Below w.heap.size w w' := by
  by_cases h8 : 8 < n
  · have i3 : (8 : Int) < (n : Int) := by omega
    clear h
    go_enter Tryd.func25, Tryd.ntmps25
    go_wp2_with fail
    go_ret2
    exact ⟨rfl, Below.refl _ _⟩
  · have i3 : ¬ (8 : Int) < (n : Int) := by omega
    by_cases hneg : i < 0
    · clear h
      go_enter Tryd.func25, Tryd.ntmps25
      go_wp2_with fail
      go_ret2
      exact ⟨rfl, Below.refl _ _⟩
    · have h2 : ((2 ^ n : Nat) : Int) ≤ i := by omega
      obtain ⟨N, hN⟩ : ∃ N, 2 ^ n = N := ⟨_, rfl⟩
      have HSH : Hid (wrap64 ((2 : Int) ^ n) = (N : Int)) := hid (by rw [← hN]; exact shl_one (by omega))
      rw [hN] at h2
      have h3 : ¬ i < (N : Int) := by omega
      clear h hN
      have hsh := HSH.out
      go_enter Tryd.func25, Tryd.ntmps25
      go_wp2_with fail
      go_ret2
      exact ⟨rfl, Below.refl _ _⟩

set_option maxHeartbeats 1000000 in
theorem troot_ok (n N b off cap : Nat) (f : Nat → Int) (w : World) (hn : n ≤ 8) (hN : N = 2 ^ n) (hc : N ≤ cap) (ht : Tab w) (hr : Row w b off N f) (hv : Nums f) :
    Calls Tryd.prog 23 #[.slice (some ⟨b, off, none⟩) N cap] w fun e w' => e = .returned (.tuple #[.int .u64 (rootQ n f), .int .i64 0]) ∧ Below w.heap.size w w' := by
  have HV := hid (vars_ok (some ⟨b, off, none⟩) n N cap w hn hN ht)
  have HR := hid (root_any n N b off cap f w hn hN hc hr hv)
  clear hN hr hv ht
  go_enter Tryd.func23, Tryd.ntmps23
  go_wp2_with (first | (go_at_call 36; refine (HV.out).mono ?_; rintro e w' ⟨rfl, hw⟩; obtain rfl := hw.symm) | (go_at_call 42; refine (HR.out).mono ?_; rintro e w1 ⟨rfl, hb⟩; have HB := hid hb; clear hb))
  go_ret2
  exact ⟨rfl, HB.out⟩
set_option maxHeartbeats 1000000 in
theorem troot_form (ao : Option Addr) (N cap : Nat) (w : World) (h : ∀ n, n ≤ 8 → N ≠ 2 ^ n) (hmax : N ≤ maxLen) :
    Calls Tryd.prog 23 #[.slice ao N cap] w fun e w' => e = .returned (.tuple #[.int .u64 0, .int .i64 4]) ∧ Below w.heap.size w w' := by
  have HV := hid (vars_bad ao N cap w h hmax)
  clear h
  go_enter Tryd.func23, Tryd.ntmps23
  go_wp2_with (go_at_call 36; refine (HV.out).mono ?_; rintro e w' ⟨rfl, hw⟩; obtain rfl := hw.symm)
  go_ret2
  exact ⟨rfl, Below.refl _ _⟩
set_option maxHeartbeats 1000000 in
theorem tpath_form (ao : Option Addr) (N cap : Nat) (i : Int) (w : World) (h : ∀ n, n ≤ 8 → N ≠ 2 ^ n) (hmax : N ≤ maxLen) :
    Calls Tryd.prog 24 #[.slice ao N cap, .int .i64 i] w fun e w' => e = .returned (.tuple #[.slice none 0 0, .int .i64 4]) ∧ Below w.heap.size w w' := by
  have HV := hid (vars_bad ao N cap w h hmax)
  clear h
  go_enter Tryd.func24, Tryd.ntmps24
  go_wp2_with (go_at_call 36; refine (HV.out).mono ?_; rintro e w' ⟨rfl, hw⟩; obtain rfl := hw.symm)
  go_ret2
  exact ⟨rfl, Below.refl _ _⟩
set_option maxHeartbeats 1000000 in
theorem tpath_arg (n N cap : Nat) (ao : Option Addr) (i : Int) (w : World) (hn : n ≤ 8) (hN : N = 2 ^ n) (ht : Tab w) (hi : i < 0 ∨ (N : Int) ≤ i) :
    Calls Tryd.prog 24 #[.slice ao N cap, .int .i64 i] w fun e w' => e = .returned (.tuple #[.slice none 0 0, .int .i64 1]) ∧ Below w.heap.size w w' := by
  have HV := hid (vars_ok ao n N cap w hn hN ht)
  clear hN ht
  by_cases hneg : i < 0
  · clear hi
    go_enter Tryd.func24, Tryd.ntmps24
    go_wp2_with (go_at_call 36; refine (HV.out).mono ?_; rintro e w' ⟨rfl, hw⟩; obtain rfl := hw.symm)
    go_ret2
    exact ⟨rfl, Below.refl _ _⟩
  · have h3 : ¬ i < (N : Int) := by omega
    clear hi
    go_enter Tryd.func24, Tryd.ntmps24
    go_wp2_with (go_at_call 36; refine (HV.out).mono ?_; rintro e w' ⟨rfl, hw⟩; obtain rfl := hw.symm)
    go_ret2
    exact ⟨rfl, Below.refl _ _⟩

theorem tree_is : TreeC where
  root_ok := troot_ok
  root_form := troot_form
  path_ok := fun n N b off cap i f w hn hN hc ht hr hv hi => (tpath_ok n N b off cap i f w hn hN hc ht hr hv hi).mono fun e w' h => ⟨_, _, h.1, Nat.le_refl _, PRow.of h.2.row, h.2.below⟩
  path_form := tpath_form
  path_arg := tpath_arg
  climb_ok := fun n cap i ao leaf p w hn hc hr hv hi l0 l1 => tclimb_ok n cap i ao leaf p w hn hr hv hi l0 l1
  climb_arg := fun n cap i ao leaf w hm h _ _ => tclimb_arg n cap i ao leaf w hm h

end Go.Proofs.YtmhifjdgfhgajaeDoor
