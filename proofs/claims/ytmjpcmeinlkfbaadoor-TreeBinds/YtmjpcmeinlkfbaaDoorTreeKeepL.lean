/-
  The law TreePaths, over what is asked of package tree (TreeC): it answers true and writes nothing that was there; and tallykeep's grown.
-/
import Derived.Test.YtmjpcmeinlkfbaaDoorTreeI
import Derived.Test.YtmjpcmeinlkfbaaDoorGrown
import Derived.Test.YtmjpcmeinlkfbaaDoorKeep
import Derived.Test.YtmjpcmeinlkfbaaDoorRefVars
namespace Go.Proofs.YtmjpcmeinlkfbaaDoor
open Go.RowKit
set_option linter.unusedVariables false
attribute [local go_sem ↓] Go.wp_at_zero Go.wp_at_succ

set_option maxHeartbeats 1000000 in
set_option maxRecDepth 100000 in
theorem grown_any (T : TreeC) (w : World) (ht : Tab w) : Calls Tryd.prog 21 #[] w fun e w' => e = .returned (.bool true) ∧ Below w.heap.size w w' := by
  have hB : Below w.heap.size w (w.alloc (.cells #[.int .u64 5, .int .u64 6] 45)) := (Below.refl _ w).alloc (Nat.le_refl _) _
  have hR := T.root_ok 1 2 w.heap.size 0 2 (pairF 5 6) _ (by omega) rfl (by omega) (ht.kept hB ht.1) (pair_lit w 5 6 45) (Nums_pair (by omega) (by omega) (by omega) (by omega))
  have he : rootQ 1 (pairF 5 6) = prQ (prQ 5 0) (prQ 6 0) := rfl
  have r1 := prQ_rng 5 0
  have r2 := prQ_rng 6 0
  have hne := grown_ne
  rw [he] at hR
  obtain ⟨x, hx⟩ : ∃ x, prQ 5 0 = x := ⟨_, rfl⟩
  obtain ⟨y, hy⟩ : ∃ y, prQ 6 0 = y := ⟨_, rfl⟩
  have HP1 := hid (fun W => (by rw [← hx]; exact pair_any 5 0 W (by omega) (by omega) (by omega) (by omega) : Calls Tryd.prog 29 #[.int .u64 5, .int .u64 0] W fun e w' => e = .returned (.int .u64 x) ∧ Below W.heap.size W w'))
  have HP2 := hid (fun W => (by rw [← hy]; exact pair_any 6 0 W (by omega) (by omega) (by omega) (by omega) : Calls Tryd.prog 29 #[.int .u64 6, .int .u64 0] W fun e w' => e = .returned (.int .u64 y) ∧ Below W.heap.size W w'))
  rw [hx, hy] at hR hne
  rw [hx] at r1
  rw [hy] at r2
  obtain ⟨z, hz⟩ : ∃ z, prQ x y = z := ⟨_, rfl⟩
  have HP3 := hid (fun W => (by rw [← hz]; exact pair_any x y W (by omega) (by omega) (by omega) (by omega) : Calls Tryd.prog 29 #[.int .u64 x, .int .u64 y] W fun e w' => e = .returned (.int .u64 z) ∧ Below W.heap.size W w'))
  rw [hz] at hR hne
  have HR := hid hR
  have HB := hid hB
  have zb : (z != 0) = true := bne_iff_ne.2 hne
  clear hB hR he hx hy hz hne ht T r1 r2
  go_enter Tryd.func21, Tryd.ntmps21
  go_wp2_with fail
  refine (HR.out).mono ?_
  rintro e w1 ⟨rfl, hb⟩
  replace HB := hid (HB.out.trans (hb.mono HB.out.size))
  clear hb HR
  go_wp2_with fail
  refine (HP1.out _).mono ?_
  rintro e w2 ⟨rfl, hb⟩
  replace HB := hid (HB.out.trans (hb.mono HB.out.size))
  clear hb
  go_wp2_with fail
  refine (HP2.out _).mono ?_
  rintro e w3 ⟨rfl, hb⟩
  replace HB := hid (HB.out.trans (hb.mono HB.out.size))
  clear hb
  go_wp2_with fail
  refine (HP3.out _).mono ?_
  rintro e w4 ⟨rfl, hb⟩
  replace HB := hid (HB.out.trans (hb.mono HB.out.size))
  clear hb
  go_wp2_with fail
  go_ret
  exact ⟨by simp, HB.out⟩

set_option maxHeartbeats 1000000 in
set_option maxRecDepth 100000 in
theorem paths_any (T : TreeC) (ao : Option Addr) (la ca : Nat) (k i : Int) (f : Nat → Int) (w : World) (ht : Tab w) (hp : PRow w ao la f) (hf : Nums f) (k0 : -9223372036854775808 ≤ k) (k1 : k ≤ 9223372036854775807) (i0 : -9223372036854775808 ≤ i) (i1 : i ≤ 9223372036854775807) :
    Calls Tryd.prog 5 #[.slice ao la ca, .int .i64 k, .int .i64 i] w fun e w' => e = .returned (.bool true) ∧ Below w.heap.size w w' := by
  obtain ⟨n, hn⟩ : ∃ n : Nat, k % 5 = (n : Int) := ⟨(k % 5).toNat, by omega⟩
  have n4 : n ≤ 4 := by omega
  obtain ⟨N, hN⟩ : ∃ N, N = 2 ^ n := ⟨_, rfl⟩
  have hN1 : 1 ≤ N := by rw [hN]; exact Nat.one_le_two_pow
  have hN2 : N ≤ 256 := by rw [hN]; exact pow_256 (by omega)
  obtain ⟨q, hq⟩ : ∃ q : Nat, i % (N : Int) = (q : Int) := ⟨(i % (N : Int)).toNat, by have := Int.emod_nonneg i (show (N : Int) ≠ 0 by omega); omega⟩
  have hqN : q < N := by have := Int.emod_lt_of_pos i (show (0 : Int) < N by omega); omega
  have HGR := hid (grown_any T w ht)
  have HTA := hid (fun W (h : PRow W ao la f) => table_any ao la ca k n N f W k0 k1 hn hN h)
  have HRE := hid (fun W => (by have := rest_any i (N : Int) W i0 i1 (by omega) (by omega); rw [hq] at this; exact this : Calls Tryd.prog 23 #[.int .i64 i, .int .i64 (N : Int)] W fun e w' => e = .returned (.int .i64 (q : Int)) ∧ w' = W))
  have HNF := hid (Nums_pad hf la)
  have HT := hid ht
  have HP := hid hp
  have HVA := hid (fun b W => rvars_ok (some ⟨b, 0, none⟩) n N N W (by omega) hN)
  have rr := rootQ_rng n (padF la f)
  have hcp := climb_path n (padF la f) q (by rw [← hN]; exact hqN)
  obtain ⟨x, hx⟩ : ∃ x, rootQ n (padF la f) = x := ⟨_, rfl⟩
  rw [hx] at rr hcp
  have HRO := hid (fun b W (h : Row W b 0 N (padF la f)) (ht : Tab W) => (by have := T.root_ok n N b 0 N (padF la f) W (by omega) hN (Nat.le_refl _) ht h HNF.out; rw [hx] at this; exact this : Calls Tryd.prog 24 #[.slice (some ⟨b, 0, none⟩) N N] W fun e w' => e = .returned (.tuple #[.int .u64 x, .int .i64 0]) ∧ Below W.heap.size W w'))
  have HPA := hid (fun b W (h : Row W b 0 N (padF la f)) (ht : Tab W) => T.path_ok n N b 0 N q (padF la f) W (by omega) hN (Nat.le_refl _) ht h HNF.out hqN)
  have hv := HNF.out q
  obtain ⟨y, hy⟩ : ∃ y, padF la f q = y := ⟨_, rfl⟩
  rw [hy] at hcp hv
  obtain ⟨y0, y1⟩ := hv
  have HCL := hid (fun (lo : Option Addr) (lc : Nat) W (hlc : n ≤ lc) (h : PRow W lo n (pathQ n (padF la f) q)) => (by have := T.climb_ok n lc q lo y (pathQ n (padF la f) q) W (by omega) hlc h (fun j => by have := pathQ_rng n (padF la f) q j; omega) (by rw [← hN]; exact hqN) y0 y1; rw [hcp] at this; exact this : Calls Tryd.prog 26 #[.int .i64 (q : Int), .int .u64 y, .slice lo n lc] W fun e w' => e = .returned (.tuple #[.int .u64 x, .int .i64 0]) ∧ Below W.heap.size W w'))
  have HY := hid hy
  have q0 : (0 : Int) ≤ (q : Int) := by omega
  have q1 : (q : Int) < (N : Int) := by omega
  clear hn hN hq hx hcp hy hp hf ht T
  go_enter Tryd.func5, Tryd.ntmps5
  go_wp2_with fail
  refine (HGR.out).mono ?_
  rintro e w1 ⟨rfl, hb⟩
  have HB := hid hb
  clear hb HGR
  go_wp2_with fail
  refine (HTA.out _ (HP.out.kept HB.out)).mono ?_
  rintro e w2 ⟨rfl, hm⟩
  have HM : Hid (Row w2 w1.heap.size 0 N (padF la f)) := hid hm.row
  replace HB := hid (HB.out.trans (hm.below.mono HB.out.size))
  obtain ⟨tb, htb⟩ : ∃ x, w1.heap.size = x := ⟨_, rfl⟩
  rw [htb] at HM ⊢
  clear hm htb
  go_wp2_with fail
  refine (HRE.out _).mono ?_
  rintro e w3 ⟨rfl, hw⟩
  obtain rfl := hw.symm
  go_wp2_with fail
  refine (HRO.out _ _ HM.out (HT.out.kept HB.out HT.out.1)).mono ?_
  rintro e w4 ⟨rfl, hb⟩
  replace HM := hid (HM.out.kept hb (HM.out.lt hN1))
  replace HB := hid (HB.out.trans (hb.mono HB.out.size))
  clear hb
  go_wp2_with fail
  refine (HPA.out _ _ HM.out (HT.out.kept HB.out HT.out.1)).mono ?_
  rintro e w5 ⟨lo, lc, rfl, hlc, hlp, hb⟩
  have HLP := hid hlp
  replace HM := hid (HM.out.kept hb (HM.out.lt hN1))
  replace HB := hid (HB.out.trans (hb.mono HB.out.size))
  have c1 := HM.out q hqN
  rw [HY.out, Nat.zero_add] at c1
  clear hb hlp
  go_wp2_with fail
  refine (HCL.out _ _ _ hlc HLP.out).mono ?_
  rintro e w6 ⟨rfl, hb⟩
  replace HB := hid (HB.out.trans (hb.mono HB.out.size))
  clear hb
  go_wp2_with fail
  refine (HVA.out _ _).mono ?_
  rintro e w7 ⟨rfl, hw⟩
  obtain rfl := hw.symm
  go_wp2_with fail
  go_ret
  exact ⟨by simp, HB.out⟩

end Go.Proofs.YtmjpcmeinlkfbaaDoor
