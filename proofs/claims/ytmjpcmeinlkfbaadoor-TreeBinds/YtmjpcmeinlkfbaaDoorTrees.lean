/-
  Package tree's Root, Path and Climb: what is asked of them (TreeC) holds, each for every input; they write nothing that was there.
-/
import Derived.Test.YtmjpcmeinlkfbaaDoorTreeI
import Derived.Test.YtmjpcmeinlkfbaaDoorTreeR
namespace Go.Proofs.YtmjpcmeinlkfbaaDoor
open Go.RowKit
set_option linter.unusedVariables false
attribute [local go_sem ↓] Go.wp_at_zero Go.wp_at_succ

set_option maxHeartbeats 1000000 in
theorem tpath_ok (n N b off cap i : Nat) (f : Nat → Int) (w : World) (hn : n ≤ 8) (hN : N = 2 ^ n) (hc : N ≤ cap) (ht : Tab w) (hr : Row w b off N f) (hv : Nums f) (hi : i < N) :
    Calls Tryd.prog 25 #[.slice (some ⟨b, off, none⟩) N cap, .int .i64 (i : Int)] w fun e w' => ∃ a, e = .returned (.tuple #[.slice (some ⟨a, 0, none⟩) n n, .int .i64 0]) ∧ w.heap.size ≤ a ∧ Row w' a 0 n (pathQ n f i) ∧ Free w' a 0 n ∧ Below w.heap.size w w' := by
  have hb0 := (Below.refl w.heap.size w).alloc (Nat.le_refl _) (.cells #[.int .i64 (i : Int)] 3)
  have HPS := hid (tpaths_ok n N b off cap 1 1 (some ⟨w.heap.size, 0, none⟩) f (fun _ => i) (w.alloc (.cells #[.int .i64 (i : Int)] 3)) hn hN (ht.kept hb0 ht.1) (hr.kept hb0 (hr.lt (by omega))) hv (by omega) (IRowP.one w (i : Int) 3) (fun _ _ => hi))
  have HB0 := hid hb0
  clear hN ht hr hv hi hb0
  go_enter Tryd.func25, Tryd.ntmps25
  go_wp2_with (go_at_call 57; refine (HPS.out).mono ?_; rintro e w1 ⟨W, a, rfl, hb, hl⟩; have c1 := hl.cell 0 (by omega); have HB := hid hb; have HL := hid hl; clear hb hl)
  go_ret2
  refine ⟨a 0, rfl, ?_, HL.out.row 0 (by omega), HL.out.may 0 (by omega), ?_⟩
  · have h1 := (HL.out.high 0 (by omega)).1
    have h2 := HB.out.size
    have h3 := HB0.out.size
    omega
  · exact (HB0.out.trans (HB.out.mono HB0.out.size)).trans (HL.out.below.mono (Nat.le_trans HB0.out.size HB.out.size))
set_option maxHeartbeats 1000000 in
theorem tpath_form (ao : Option Addr) (N cap : Nat) (i : Int) (w : World) (h : ∀ n, n ≤ 8 → N ≠ 2 ^ n) (hmax : N ≤ maxLen) :
    Calls Tryd.prog 25 #[.slice ao N cap, .int .i64 i] w fun e w' => e = .returned (.tuple #[.slice none 0 0, .int .i64 4]) ∧ Below w.heap.size w w' := by
  have HB0 := hid ((Below.refl w.heap.size w).alloc (Nat.le_refl _) (.cells #[.int .i64 i] 3))
  have HV := hid (tpaths_form ao (some ⟨w.heap.size, 0, none⟩) N cap 1 1 (w.alloc (.cells #[.int .i64 i] 3)) h hmax)
  clear h
  go_enter Tryd.func25, Tryd.ntmps25
  go_wp2_with (go_at_call 57; refine (HV.out).mono ?_; rintro e w1 ⟨rfl, hb⟩; have HB := hid hb; clear hb)
  go_ret2
  exact ⟨rfl, HB0.out.trans (HB.out.mono HB0.out.size)⟩
set_option maxHeartbeats 1000000 in
theorem tpath_arg (n N cap : Nat) (ao : Option Addr) (i : Int) (w : World) (hn : n ≤ 8) (hN : N = 2 ^ n) (ht : Tab w) (hi : i < 0 ∨ (N : Int) ≤ i) :
    Calls Tryd.prog 25 #[.slice ao N cap, .int .i64 i] w fun e w' => e = .returned (.tuple #[.slice none 0 0, .int .i64 1]) ∧ Below w.heap.size w w' := by
  have hb0 := (Below.refl w.heap.size w).alloc (Nat.le_refl _) (.cells #[.int .i64 i] 3)
  have HV := hid (tpaths_arg1 n N cap w.heap.size ao i (w.alloc (.cells #[.int .i64 i] 3)) hn hN (ht.kept hb0 ht.1) hi (by rw [World.cell?_alloc_new]; rfl))
  have HB0 := hid hb0
  clear hN ht hi hb0
  go_enter Tryd.func25, Tryd.ntmps25
  go_wp2_with (go_at_call 57; refine (HV.out).mono ?_; rintro e w1 ⟨rfl, hb⟩; have HB := hid hb; clear hb)
  go_ret2
  exact ⟨rfl, HB0.out.trans (HB.out.mono HB0.out.size)⟩
theorem tree_is : TreeC where
  root_ok := troot_ok
  root_form := troot_form
  path_ok := fun n N b off cap i f w hn hN hc ht hr hv hi => (tpath_ok n N b off cap i f w hn hN hc ht hr hv hi).mono fun e w' ⟨a, h1, h2, h3, h4, h5⟩ => ⟨_, _, h1, Nat.le_refl _, PRow.of h3, h5⟩
  path_form := tpath_form
  path_arg := tpath_arg
  climb_ok := fun n cap i ao leaf p w hn hc hr hv hi l0 l1 => tclimb_ok n cap i ao leaf p w hn hr hv hi l0 l1
  climb_arg := fun n cap i ao leaf w hm h _ _ => tclimb_arg n cap i ao leaf w hm h

end Go.Proofs.YtmjpcmeinlkfbaaDoor
