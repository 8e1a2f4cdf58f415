/-
  The law TreeSays, case by case, over what is asked of package tree (TreeC): it answers true and writes nothing that was there.
-/
import Derived.Test.YtoogpkcpheannabDoorTreeI
import Derived.Test.YtoogpkcpheannabDoorRefTree3
import Derived.Test.YtoogpkcpheannabDoorRefIn
import Derived.Test.YtoogpkcpheannabDoorEqual
namespace Go.Proofs.YtoogpkcpheannabDoor
open Go.RowKit
set_option linter.unusedVariables false
attribute [local go_sem ↓] Go.wp_at_zero Go.wp_at_succ

/-- What holds of the world all along. -/
structure TSt (w W : World) (ao : Option Addr) (N : Nat) (f : Nat → Int) (po : Option Addr) (np : Nat) (p : Nat → Int) : Prop where
  bel : Below w.heap.size w W
  t : Tab W
  r : PRow W ao N f
  p : PRow W po np p
theorem TSt.next {w W W' : World} {ao : Option Addr} {N : Nat} {f : Nat → Int} {po : Option Addr} {np : Nat} {p : Nat → Int} (h : TSt w W ao N f po np p) (hb : Below W.heap.size W W') : TSt w W' ao N f po np p :=
  ⟨h.bel.trans (hb.mono h.bel.size), h.t.kept hb h.t.1, h.r.kept hb, h.p.kept hb⟩
theorem some_row {w : World} {b off N : Nat} {f : Nat → Int} (h : PRow w (some ⟨b, off, none⟩) N f) (hN : 0 < N) : Row w b off N f := by
  obtain ⟨b', o', e, r⟩ := h hN
  injection e with e; injection e with e1 e2
  subst e1; subst e2
  exact r
theorem path_nums (n : Nat) (f : Nat → Int) (i : Nat) : Nums (pathQ n f i) := fun j => by have := pathQ_rng n f i j; omega

set_option maxHeartbeats 400000 in
theorem tsays_big (n N cap : Nat) (ao : Option Addr) (i leaf : Int) (po : Option Addr) (np pc : Nat) (w : World) (h5 : 5 < n) (hn : n ≤ 8) (hN : N = 2 ^ n) :
    Calls Tryd.prog 3 #[.slice ao N cap, .int .i64 i, .int .u64 leaf, .slice po np pc] w fun e w' => e = .returned (.bool true) ∧ Below w.heap.size w w' := by
  have HVA := hid (rvars_ok ao n N cap w hn hN)
  have n5 : (5 : Int) < (n : Int) := by omega
  clear hN
  go_enter Tryd.func3, Tryd.ntmps3
  go_wp2_with (go_at_call 6; refine (HVA.out).mono ?_; rintro e w1 ⟨rfl, hw⟩; obtain rfl := hw.symm)
  go_ret
  exact ⟨rfl, Below.refl _ _⟩

set_option maxHeartbeats 1000000 in
set_option maxRecDepth 100000 in
theorem tsays_T1_ok (T : TreeC) (ao : Option Addr) (N cap : Nat) (i : Int) (f : Nat → Int) (leaf : Int) (po : Option Addr) (np pc : Nat) (p : Nat → Int) (w : World) (hbad : ∀ n, n ≤ 8 → N ≠ 2 ^ n) (hmax : N ≤ maxLen) (hp : np ≤ 8) (q : Nat) (hq : i = (q : Int)) (hq2 : q < 2 ^ np) (hpm : np ≤ maxLen) (hpc : np ≤ pc) (h63 : i ≤ 9223372036854775807) (h64 : -9223372036854775808 ≤ i) (ht : Tab w) (hr : PRow w ao N f) (hv : Nums f) (hpr : PRow w po np p) (hpv : Nums p) (l0 : 0 ≤ leaf) (l1 : leaf ≤ 18446744073709551615) :
    Calls Tryd.prog 3 #[.slice ao N cap, .int .i64 i, .int .u64 leaf, .slice po np pc] w fun e w' => e = .returned (.bool true) ∧ Below w.heap.size w w' := by
  have HS : Hid (TSt w w ao N f po np p) := hid ⟨Below.refl _ _, ht, hr, hpr⟩
  have HV := hid hv
  have HPV := hid hpv
  have HT := hid T
  have HBAD := hid hbad
  have HVA := hid (rvars_bad ao N cap w hbad)
  clear hbad
  have cr := climbQ_rng np q leaf p
  obtain ⟨y, hy⟩ : ∃ y, climbQ np q leaf p = y := ⟨_, rfl⟩
  rw [hy] at cr
  have HRC := hid (fun W (h : PRow W po np p) => (by have := rclimb_any np pc q po leaf p W hp hpc h hpv hq2 l0 l1; rw [hy, ← hq] at this; exact this : Calls Tryd.prog 10 #[.int .i64 i, .int .u64 leaf, .slice po np pc] W fun e w' => e = .returned (.int .u64 y) ∧ Below W.heap.size W w'))
  have HTC := hid (fun W (h : PRow W po np p) => (by have := T.climb_ok np pc q po leaf p W hp hpc h hpv hq2 l0 l1; rw [hy, ← hq] at this; exact this : Calls Tryd.prog 13 #[.int .i64 i, .int .u64 leaf, .slice po np pc] W fun e w' => e = .returned (.tuple #[.int .u64 y, .int .i64 0]) ∧ Below W.heap.size W w'))
  have p8 : (np : Int) ≤ 8 := by omega
  have i0 : (0 : Int) ≤ i := by omega
  obtain ⟨P, hP⟩ : ∃ P, 2 ^ np = P := ⟨_, rfl⟩
  rw [hP] at hq2
  have HSH : Hid (i < wrap64 ((2 : Int) ^ np)) := hid (by rw [shl_one (by omega), hP]; omega)
  clear hP hy hq hq2
  clear ht hr hv hpr hpv T
  go_enter Tryd.func3, Tryd.ntmps3
  go_wp2_with fail
  refine (HVA.out).mono ?_
  rintro e w1 ⟨rfl, hw⟩
  obtain rfl := hw.symm
  have hsh := HSH.out
  go_wp2_with fail
  clear hsh
  refine (HRC.out _ HS.out.p).mono ?_
  rintro e w5 ⟨rfl, hb⟩
  replace HS := hid (HS.out.next hb)
  clear hb
  go_wp2_with fail
  refine (HT.out.root_form ao N cap _ HBAD.out hmax).mono ?_
  rintro e w6 ⟨rfl, hb⟩
  replace HS := hid (HS.out.next hb)
  clear hb
  go_wp2_with fail
  refine (HT.out.path_form ao N cap i _ HBAD.out hmax).mono ?_
  rintro e w7 ⟨rfl, hb⟩
  replace HS := hid (HS.out.next hb)
  clear hb
  go_wp2_with fail
  refine (HTC.out _ HS.out.p).mono ?_
  rintro e w8 ⟨rfl, hb⟩
  replace HS := hid (HS.out.next hb)
  clear hb
  go_wp2_with fail
  refine (equal_ok none none 0 0 0 (fun _ => 0) (fun _ => 0) _ (by omega) (fun h => absurd h (by omega)) (fun h => absurd h (by omega)) fun _ _ => rfl).mono ?_
  rintro e w9 ⟨rfl, hb⟩
  replace HS := hid (HS.out.next hb)
  clear hb
  go_wp2_with fail
  go_ret
  exact ⟨rfl, HS.out.bel⟩

set_option maxHeartbeats 1000000 in
set_option maxRecDepth 100000 in
theorem tsays_T1_many (T : TreeC) (ao : Option Addr) (N cap : Nat) (i : Int) (f : Nat → Int) (leaf : Int) (po : Option Addr) (np pc : Nat) (p : Nat → Int) (w : World) (hbad : ∀ n, n ≤ 8 → N ≠ 2 ^ n) (hmax : N ≤ maxLen) (hp : 8 < np) (hpm : np ≤ maxLen) (hpc : np ≤ pc) (h63 : i ≤ 9223372036854775807) (h64 : -9223372036854775808 ≤ i) (ht : Tab w) (hr : PRow w ao N f) (hv : Nums f) (hpr : PRow w po np p) (hpv : Nums p) (l0 : 0 ≤ leaf) (l1 : leaf ≤ 18446744073709551615) :
    Calls Tryd.prog 3 #[.slice ao N cap, .int .i64 i, .int .u64 leaf, .slice po np pc] w fun e w' => e = .returned (.bool true) ∧ Below w.heap.size w w' := by
  have HS : Hid (TSt w w ao N f po np p) := hid ⟨Below.refl _ _, ht, hr, hpr⟩
  have HV := hid hv
  have HPV := hid hpv
  have HT := hid T
  have HBAD := hid hbad
  have HVA := hid (rvars_bad ao N cap w hbad)
  clear hbad
  have HTC := hid (fun W => T.climb_arg np pc i po leaf W hpm (.inl hp) h63 h64)
  have p8 : ¬ (np : Int) ≤ 8 := by omega
  clear ht hr hv hpr hpv T
  go_enter Tryd.func3, Tryd.ntmps3
  go_wp2_with fail
  refine (HVA.out).mono ?_
  rintro e w1 ⟨rfl, hw⟩
  obtain rfl := hw.symm
  go_wp2_with fail
  refine (HT.out.root_form ao N cap _ HBAD.out hmax).mono ?_
  rintro e w6 ⟨rfl, hb⟩
  replace HS := hid (HS.out.next hb)
  clear hb
  go_wp2_with fail
  refine (HT.out.path_form ao N cap i _ HBAD.out hmax).mono ?_
  rintro e w7 ⟨rfl, hb⟩
  replace HS := hid (HS.out.next hb)
  clear hb
  go_wp2_with fail
  refine (HTC.out _).mono ?_
  rintro e w8 ⟨rfl, hb⟩
  replace HS := hid (HS.out.next hb)
  clear hb
  go_wp2_with fail
  refine (equal_ok none none 0 0 0 (fun _ => 0) (fun _ => 0) _ (by omega) (fun h => absurd h (by omega)) (fun h => absurd h (by omega)) fun _ _ => rfl).mono ?_
  rintro e w9 ⟨rfl, hb⟩
  replace HS := hid (HS.out.next hb)
  clear hb
  go_wp2_with fail
  go_ret
  exact ⟨rfl, HS.out.bel⟩

set_option maxHeartbeats 1000000 in
set_option maxRecDepth 100000 in
theorem tsays_T1_neg (T : TreeC) (ao : Option Addr) (N cap : Nat) (i : Int) (f : Nat → Int) (leaf : Int) (po : Option Addr) (np pc : Nat) (p : Nat → Int) (w : World) (hbad : ∀ n, n ≤ 8 → N ≠ 2 ^ n) (hmax : N ≤ maxLen) (hp : np ≤ 8) (hneg : i < 0) (hpm : np ≤ maxLen) (hpc : np ≤ pc) (h63 : i ≤ 9223372036854775807) (h64 : -9223372036854775808 ≤ i) (ht : Tab w) (hr : PRow w ao N f) (hv : Nums f) (hpr : PRow w po np p) (hpv : Nums p) (l0 : 0 ≤ leaf) (l1 : leaf ≤ 18446744073709551615) :
    Calls Tryd.prog 3 #[.slice ao N cap, .int .i64 i, .int .u64 leaf, .slice po np pc] w fun e w' => e = .returned (.bool true) ∧ Below w.heap.size w w' := by
  have HS : Hid (TSt w w ao N f po np p) := hid ⟨Below.refl _ _, ht, hr, hpr⟩
  have HV := hid hv
  have HPV := hid hpv
  have HT := hid T
  have HBAD := hid hbad
  have HVA := hid (rvars_bad ao N cap w hbad)
  clear hbad
  have HTC := hid (fun W => T.climb_arg np pc i po leaf W hpm (.inr (.inl hneg)) h63 h64)
  have p8 : (np : Int) ≤ 8 := by omega
  have i0 : ¬ (0 : Int) ≤ i := by omega
  clear ht hr hv hpr hpv T
  go_enter Tryd.func3, Tryd.ntmps3
  go_wp2_with fail
  refine (HVA.out).mono ?_
  rintro e w1 ⟨rfl, hw⟩
  obtain rfl := hw.symm
  go_wp2_with fail
  refine (HT.out.root_form ao N cap _ HBAD.out hmax).mono ?_
  rintro e w6 ⟨rfl, hb⟩
  replace HS := hid (HS.out.next hb)
  clear hb
  go_wp2_with fail
  refine (HT.out.path_form ao N cap i _ HBAD.out hmax).mono ?_
  rintro e w7 ⟨rfl, hb⟩
  replace HS := hid (HS.out.next hb)
  clear hb
  go_wp2_with fail
  refine (HTC.out _).mono ?_
  rintro e w8 ⟨rfl, hb⟩
  replace HS := hid (HS.out.next hb)
  clear hb
  go_wp2_with fail
  refine (equal_ok none none 0 0 0 (fun _ => 0) (fun _ => 0) _ (by omega) (fun h => absurd h (by omega)) (fun h => absurd h (by omega)) fun _ _ => rfl).mono ?_
  rintro e w9 ⟨rfl, hb⟩
  replace HS := hid (HS.out.next hb)
  clear hb
  go_wp2_with fail
  go_ret
  exact ⟨rfl, HS.out.bel⟩

set_option maxHeartbeats 1000000 in
set_option maxRecDepth 100000 in
theorem tsays_T1_far (T : TreeC) (ao : Option Addr) (N cap : Nat) (i : Int) (f : Nat → Int) (leaf : Int) (po : Option Addr) (np pc : Nat) (p : Nat → Int) (w : World) (hbad : ∀ n, n ≤ 8 → N ≠ 2 ^ n) (hmax : N ≤ maxLen) (hp : np ≤ 8) (hpos : 0 ≤ i) (hfar : ((2 ^ np : Nat) : Int) ≤ i) (hpm : np ≤ maxLen) (hpc : np ≤ pc) (h63 : i ≤ 9223372036854775807) (h64 : -9223372036854775808 ≤ i) (ht : Tab w) (hr : PRow w ao N f) (hv : Nums f) (hpr : PRow w po np p) (hpv : Nums p) (l0 : 0 ≤ leaf) (l1 : leaf ≤ 18446744073709551615) :
    Calls Tryd.prog 3 #[.slice ao N cap, .int .i64 i, .int .u64 leaf, .slice po np pc] w fun e w' => e = .returned (.bool true) ∧ Below w.heap.size w w' := by
  have HS : Hid (TSt w w ao N f po np p) := hid ⟨Below.refl _ _, ht, hr, hpr⟩
  have HV := hid hv
  have HPV := hid hpv
  have HT := hid T
  have HBAD := hid hbad
  have HVA := hid (rvars_bad ao N cap w hbad)
  clear hbad
  have HTC := hid (fun W => T.climb_arg np pc i po leaf W hpm (.inr (.inr ⟨hp, hfar⟩)) h63 h64)
  have p8 : (np : Int) ≤ 8 := by omega
  obtain ⟨P, hP⟩ : ∃ P, 2 ^ np = P := ⟨_, rfl⟩
  rw [hP] at hfar
  have HSH : Hid (¬ i < wrap64 ((2 : Int) ^ np)) := hid (by rw [shl_one (by omega), hP]; omega)
  clear hP
  clear ht hr hv hpr hpv T
  go_enter Tryd.func3, Tryd.ntmps3
  go_wp2_with fail
  refine (HVA.out).mono ?_
  rintro e w1 ⟨rfl, hw⟩
  obtain rfl := hw.symm
  go_wp2_with fail
  · exact absurd (by assumption) (Int.not_lt.2 HSH.out)
  refine (HT.out.root_form ao N cap _ HBAD.out hmax).mono ?_
  rintro e w6 ⟨rfl, hb⟩
  replace HS := hid (HS.out.next hb)
  clear hb
  go_wp2_with fail
  refine (HT.out.path_form ao N cap i _ HBAD.out hmax).mono ?_
  rintro e w7 ⟨rfl, hb⟩
  replace HS := hid (HS.out.next hb)
  clear hb
  go_wp2_with fail
  refine (HTC.out _).mono ?_
  rintro e w8 ⟨rfl, hb⟩
  replace HS := hid (HS.out.next hb)
  clear hb
  go_wp2_with fail
  refine (equal_ok none none 0 0 0 (fun _ => 0) (fun _ => 0) _ (by omega) (fun h => absurd h (by omega)) (fun h => absurd h (by omega)) fun _ _ => rfl).mono ?_
  rintro e w9 ⟨rfl, hb⟩
  replace HS := hid (HS.out.next hb)
  clear hb
  go_wp2_with fail
  go_ret
  exact ⟨rfl, HS.out.bel⟩

set_option maxHeartbeats 1000000 in
set_option maxRecDepth 100000 in
theorem tsays_T2_ok (T : TreeC) (n N b off cap : Nat) (i : Int) (f : Nat → Int) (leaf : Int) (po : Option Addr) (np pc : Nat) (p : Nat → Int) (w : World) (hn : n ≤ 5) (hN : N = 2 ^ n) (hc : N ≤ cap) (hi : i < 0 ∨ (N : Int) ≤ i) (hp : np ≤ 8) (q : Nat) (hq : i = (q : Int)) (hq2 : q < 2 ^ np) (hpm : np ≤ maxLen) (hpc : np ≤ pc) (h63 : i ≤ 9223372036854775807) (h64 : -9223372036854775808 ≤ i) (ht : Tab w) (hr : PRow w (some ⟨b, off, none⟩) N f) (hv : Nums f) (hpr : PRow w po np p) (hpv : Nums p) (l0 : 0 ≤ leaf) (l1 : leaf ≤ 18446744073709551615) :
    Calls Tryd.prog 3 #[.slice (some ⟨b, off, none⟩) N cap, .int .i64 i, .int .u64 leaf, .slice po np pc] w fun e w' => e = .returned (.bool true) ∧ Below w.heap.size w w' := by
  have HS : Hid (TSt w w (some ⟨b, off, none⟩) N f po np p) := hid ⟨Below.refl _ _, ht, hr, hpr⟩
  have HV := hid hv
  have HPV := hid hpv
  have HT := hid T
  have hN1 : 1 ≤ N := by rw [hN]; exact Nat.one_le_two_pow
  have hN2 : N ≤ 256 := by rw [hN]; exact pow_256 (by omega)
  have HN := hid hN
  have HVA := hid (rvars_ok (some ⟨b, off, none⟩) n N cap w (by omega) hN)
  have n5 : ¬ (5 : Int) < (n : Int) := by omega
  have n0 : ¬ (n : Int) < 0 := by omega
  have rr := rootQ_rng n f
  obtain ⟨x, hx⟩ : ∃ x, rootQ n f = x := ⟨_, rfl⟩
  rw [hx] at rr
  have HRR := hid (fun W (h : Row W b off N f) => (by have := rroot_any n N b off cap f W (by omega) hN hc h hv; rw [hx] at this; exact this : Calls Tryd.prog 7 #[.slice (some ⟨b, off, none⟩) N cap] W fun e w' => e = .returned (.int .u64 x) ∧ Below W.heap.size W w'))
  have HTR := hid (fun W (h : Row W b off N f) (ht : Tab W) => (by have := T.root_ok n N b off cap f W (by omega) hN hc ht h hv; rw [hx] at this; exact this : Calls Tryd.prog 11 #[.slice (some ⟨b, off, none⟩) N cap] W fun e w' => e = .returned (.tuple #[.int .u64 x, .int .i64 0]) ∧ Below W.heap.size W w'))
  have wN : IntKind.i64.wrap ((N : Int) - 1) = (N : Int) - 1 := IntWalk.i64_in _ (by omega)
  have hin : (decide ((0 : Int) ≤ i) && decide (i ≤ (N : Int) - 1)) = false := by rcases hi with h | h <;> simp <;> omega
  have HTP := hid (fun W (ht : Tab W) => T.path_arg n N cap (some ⟨b, off, none⟩) i W (by omega) hN ht hi)
  have HIN := hid (fun W => (by have := rin_any i 0 ((N : Int) - 1) W; rw [hin] at this; exact this : Calls Tryd.prog 8 #[.int .i64 i, .int .i64 0, .int .i64 ((N : Int) - 1)] W fun e w' => e = .returned (.bool false) ∧ w' = W))
  have cr := climbQ_rng np q leaf p
  obtain ⟨y, hy⟩ : ∃ y, climbQ np q leaf p = y := ⟨_, rfl⟩
  rw [hy] at cr
  have HRC := hid (fun W (h : PRow W po np p) => (by have := rclimb_any np pc q po leaf p W hp hpc h hpv hq2 l0 l1; rw [hy, ← hq] at this; exact this : Calls Tryd.prog 10 #[.int .i64 i, .int .u64 leaf, .slice po np pc] W fun e w' => e = .returned (.int .u64 y) ∧ Below W.heap.size W w'))
  have HTC := hid (fun W (h : PRow W po np p) => (by have := T.climb_ok np pc q po leaf p W hp hpc h hpv hq2 l0 l1; rw [hy, ← hq] at this; exact this : Calls Tryd.prog 13 #[.int .i64 i, .int .u64 leaf, .slice po np pc] W fun e w' => e = .returned (.tuple #[.int .u64 y, .int .i64 0]) ∧ Below W.heap.size W w'))
  have p8 : (np : Int) ≤ 8 := by omega
  have i0 : (0 : Int) ≤ i := by omega
  obtain ⟨P, hP⟩ : ∃ P, 2 ^ np = P := ⟨_, rfl⟩
  rw [hP] at hq2
  have HSH : Hid (i < wrap64 ((2 : Int) ^ np)) := hid (by rw [shl_one (by omega), hP]; omega)
  clear hP hy hq hq2
  clear hN hx
  clear ht hr hv hpr hpv T
  go_enter Tryd.func3, Tryd.ntmps3
  go_wp2_with fail
  refine (HVA.out).mono ?_
  rintro e w1 ⟨rfl, hw⟩
  obtain rfl := hw.symm
  go_wp2_with fail
  refine (HRR.out _ (some_row HS.out.r hN1)).mono ?_
  rintro e w2 ⟨rfl, hb⟩
  replace HS := hid (HS.out.next hb)
  clear hb
  go_wp2_with fail
  refine (HIN.out _).mono ?_
  rintro e w3 ⟨rfl, hw⟩
  obtain rfl := hw.symm
  clear wN hin HIN
  have hsh := HSH.out
  go_wp2_with fail
  clear hsh
  refine (HRC.out _ HS.out.p).mono ?_
  rintro e w5 ⟨rfl, hb⟩
  replace HS := hid (HS.out.next hb)
  clear hb
  go_wp2_with fail
  refine (HTR.out _ (some_row HS.out.r hN1) HS.out.t).mono ?_
  rintro e w6 ⟨rfl, hb⟩
  replace HS := hid (HS.out.next hb)
  clear hb
  go_wp2_with fail
  refine (HTP.out _ HS.out.t).mono ?_
  rintro e w7 ⟨rfl, hb⟩
  replace HS := hid (HS.out.next hb)
  clear hb
  go_wp2_with fail
  refine (HTC.out _ HS.out.p).mono ?_
  rintro e w8 ⟨rfl, hb⟩
  replace HS := hid (HS.out.next hb)
  clear hb
  go_wp2_with fail
  refine (equal_ok none none 0 0 0 (fun _ => 0) (fun _ => 0) _ (by omega) (fun h => absurd h (by omega)) (fun h => absurd h (by omega)) fun _ _ => rfl).mono ?_
  rintro e w9 ⟨rfl, hb⟩
  replace HS := hid (HS.out.next hb)
  clear hb
  go_wp2_with fail
  go_ret
  exact ⟨rfl, HS.out.bel⟩

set_option maxHeartbeats 1000000 in
set_option maxRecDepth 100000 in
theorem tsays_T2_many (T : TreeC) (n N b off cap : Nat) (i : Int) (f : Nat → Int) (leaf : Int) (po : Option Addr) (np pc : Nat) (p : Nat → Int) (w : World) (hn : n ≤ 5) (hN : N = 2 ^ n) (hc : N ≤ cap) (hi : i < 0 ∨ (N : Int) ≤ i) (hp : 8 < np) (hpm : np ≤ maxLen) (hpc : np ≤ pc) (h63 : i ≤ 9223372036854775807) (h64 : -9223372036854775808 ≤ i) (ht : Tab w) (hr : PRow w (some ⟨b, off, none⟩) N f) (hv : Nums f) (hpr : PRow w po np p) (hpv : Nums p) (l0 : 0 ≤ leaf) (l1 : leaf ≤ 18446744073709551615) :
    Calls Tryd.prog 3 #[.slice (some ⟨b, off, none⟩) N cap, .int .i64 i, .int .u64 leaf, .slice po np pc] w fun e w' => e = .returned (.bool true) ∧ Below w.heap.size w w' := by
  have HS : Hid (TSt w w (some ⟨b, off, none⟩) N f po np p) := hid ⟨Below.refl _ _, ht, hr, hpr⟩
  have HV := hid hv
  have HPV := hid hpv
  have HT := hid T
  have hN1 : 1 ≤ N := by rw [hN]; exact Nat.one_le_two_pow
  have hN2 : N ≤ 256 := by rw [hN]; exact pow_256 (by omega)
  have HN := hid hN
  have HVA := hid (rvars_ok (some ⟨b, off, none⟩) n N cap w (by omega) hN)
  have n5 : ¬ (5 : Int) < (n : Int) := by omega
  have n0 : ¬ (n : Int) < 0 := by omega
  have rr := rootQ_rng n f
  obtain ⟨x, hx⟩ : ∃ x, rootQ n f = x := ⟨_, rfl⟩
  rw [hx] at rr
  have HRR := hid (fun W (h : Row W b off N f) => (by have := rroot_any n N b off cap f W (by omega) hN hc h hv; rw [hx] at this; exact this : Calls Tryd.prog 7 #[.slice (some ⟨b, off, none⟩) N cap] W fun e w' => e = .returned (.int .u64 x) ∧ Below W.heap.size W w'))
  have HTR := hid (fun W (h : Row W b off N f) (ht : Tab W) => (by have := T.root_ok n N b off cap f W (by omega) hN hc ht h hv; rw [hx] at this; exact this : Calls Tryd.prog 11 #[.slice (some ⟨b, off, none⟩) N cap] W fun e w' => e = .returned (.tuple #[.int .u64 x, .int .i64 0]) ∧ Below W.heap.size W w'))
  have wN : IntKind.i64.wrap ((N : Int) - 1) = (N : Int) - 1 := IntWalk.i64_in _ (by omega)
  have hin : (decide ((0 : Int) ≤ i) && decide (i ≤ (N : Int) - 1)) = false := by rcases hi with h | h <;> simp <;> omega
  have HTP := hid (fun W (ht : Tab W) => T.path_arg n N cap (some ⟨b, off, none⟩) i W (by omega) hN ht hi)
  have HIN := hid (fun W => (by have := rin_any i 0 ((N : Int) - 1) W; rw [hin] at this; exact this : Calls Tryd.prog 8 #[.int .i64 i, .int .i64 0, .int .i64 ((N : Int) - 1)] W fun e w' => e = .returned (.bool false) ∧ w' = W))
  have HTC := hid (fun W => T.climb_arg np pc i po leaf W hpm (.inl hp) h63 h64)
  have p8 : ¬ (np : Int) ≤ 8 := by omega
  clear hN hx
  clear ht hr hv hpr hpv T
  go_enter Tryd.func3, Tryd.ntmps3
  go_wp2_with fail
  refine (HVA.out).mono ?_
  rintro e w1 ⟨rfl, hw⟩
  obtain rfl := hw.symm
  go_wp2_with fail
  refine (HRR.out _ (some_row HS.out.r hN1)).mono ?_
  rintro e w2 ⟨rfl, hb⟩
  replace HS := hid (HS.out.next hb)
  clear hb
  go_wp2_with fail
  refine (HIN.out _).mono ?_
  rintro e w3 ⟨rfl, hw⟩
  obtain rfl := hw.symm
  clear wN hin HIN
  go_wp2_with fail
  refine (HTR.out _ (some_row HS.out.r hN1) HS.out.t).mono ?_
  rintro e w6 ⟨rfl, hb⟩
  replace HS := hid (HS.out.next hb)
  clear hb
  go_wp2_with fail
  refine (HTP.out _ HS.out.t).mono ?_
  rintro e w7 ⟨rfl, hb⟩
  replace HS := hid (HS.out.next hb)
  clear hb
  go_wp2_with fail
  refine (HTC.out _).mono ?_
  rintro e w8 ⟨rfl, hb⟩
  replace HS := hid (HS.out.next hb)
  clear hb
  go_wp2_with fail
  refine (equal_ok none none 0 0 0 (fun _ => 0) (fun _ => 0) _ (by omega) (fun h => absurd h (by omega)) (fun h => absurd h (by omega)) fun _ _ => rfl).mono ?_
  rintro e w9 ⟨rfl, hb⟩
  replace HS := hid (HS.out.next hb)
  clear hb
  go_wp2_with fail
  go_ret
  exact ⟨rfl, HS.out.bel⟩

set_option maxHeartbeats 1000000 in
set_option maxRecDepth 100000 in
theorem tsays_T2_neg (T : TreeC) (n N b off cap : Nat) (i : Int) (f : Nat → Int) (leaf : Int) (po : Option Addr) (np pc : Nat) (p : Nat → Int) (w : World) (hn : n ≤ 5) (hN : N = 2 ^ n) (hc : N ≤ cap) (hi : i < 0 ∨ (N : Int) ≤ i) (hp : np ≤ 8) (hneg : i < 0) (hpm : np ≤ maxLen) (hpc : np ≤ pc) (h63 : i ≤ 9223372036854775807) (h64 : -9223372036854775808 ≤ i) (ht : Tab w) (hr : PRow w (some ⟨b, off, none⟩) N f) (hv : Nums f) (hpr : PRow w po np p) (hpv : Nums p) (l0 : 0 ≤ leaf) (l1 : leaf ≤ 18446744073709551615) :
    Calls Tryd.prog 3 #[.slice (some ⟨b, off, none⟩) N cap, .int .i64 i, .int .u64 leaf, .slice po np pc] w fun e w' => e = .returned (.bool true) ∧ Below w.heap.size w w' := by
  have HS : Hid (TSt w w (some ⟨b, off, none⟩) N f po np p) := hid ⟨Below.refl _ _, ht, hr, hpr⟩
  have HV := hid hv
  have HPV := hid hpv
  have HT := hid T
  have hN1 : 1 ≤ N := by rw [hN]; exact Nat.one_le_two_pow
  have hN2 : N ≤ 256 := by rw [hN]; exact pow_256 (by omega)
  have HN := hid hN
  have HVA := hid (rvars_ok (some ⟨b, off, none⟩) n N cap w (by omega) hN)
  have n5 : ¬ (5 : Int) < (n : Int) := by omega
  have n0 : ¬ (n : Int) < 0 := by omega
  have rr := rootQ_rng n f
  obtain ⟨x, hx⟩ : ∃ x, rootQ n f = x := ⟨_, rfl⟩
  rw [hx] at rr
  have HRR := hid (fun W (h : Row W b off N f) => (by have := rroot_any n N b off cap f W (by omega) hN hc h hv; rw [hx] at this; exact this : Calls Tryd.prog 7 #[.slice (some ⟨b, off, none⟩) N cap] W fun e w' => e = .returned (.int .u64 x) ∧ Below W.heap.size W w'))
  have HTR := hid (fun W (h : Row W b off N f) (ht : Tab W) => (by have := T.root_ok n N b off cap f W (by omega) hN hc ht h hv; rw [hx] at this; exact this : Calls Tryd.prog 11 #[.slice (some ⟨b, off, none⟩) N cap] W fun e w' => e = .returned (.tuple #[.int .u64 x, .int .i64 0]) ∧ Below W.heap.size W w'))
  have wN : IntKind.i64.wrap ((N : Int) - 1) = (N : Int) - 1 := IntWalk.i64_in _ (by omega)
  have hin : (decide ((0 : Int) ≤ i) && decide (i ≤ (N : Int) - 1)) = false := by rcases hi with h | h <;> simp <;> omega
  have HTP := hid (fun W (ht : Tab W) => T.path_arg n N cap (some ⟨b, off, none⟩) i W (by omega) hN ht hi)
  have HIN := hid (fun W => (by have := rin_any i 0 ((N : Int) - 1) W; rw [hin] at this; exact this : Calls Tryd.prog 8 #[.int .i64 i, .int .i64 0, .int .i64 ((N : Int) - 1)] W fun e w' => e = .returned (.bool false) ∧ w' = W))
  have HTC := hid (fun W => T.climb_arg np pc i po leaf W hpm (.inr (.inl hneg)) h63 h64)
  have p8 : (np : Int) ≤ 8 := by omega
  have i0 : ¬ (0 : Int) ≤ i := by omega
  clear hN hx
  clear ht hr hv hpr hpv T
  go_enter Tryd.func3, Tryd.ntmps3
  go_wp2_with fail
  refine (HVA.out).mono ?_
  rintro e w1 ⟨rfl, hw⟩
  obtain rfl := hw.symm
  go_wp2_with fail
  refine (HRR.out _ (some_row HS.out.r hN1)).mono ?_
  rintro e w2 ⟨rfl, hb⟩
  replace HS := hid (HS.out.next hb)
  clear hb
  go_wp2_with fail
  refine (HIN.out _).mono ?_
  rintro e w3 ⟨rfl, hw⟩
  obtain rfl := hw.symm
  clear wN hin HIN
  go_wp2_with fail
  refine (HTR.out _ (some_row HS.out.r hN1) HS.out.t).mono ?_
  rintro e w6 ⟨rfl, hb⟩
  replace HS := hid (HS.out.next hb)
  clear hb
  go_wp2_with fail
  refine (HTP.out _ HS.out.t).mono ?_
  rintro e w7 ⟨rfl, hb⟩
  replace HS := hid (HS.out.next hb)
  clear hb
  go_wp2_with fail
  refine (HTC.out _).mono ?_
  rintro e w8 ⟨rfl, hb⟩
  replace HS := hid (HS.out.next hb)
  clear hb
  go_wp2_with fail
  refine (equal_ok none none 0 0 0 (fun _ => 0) (fun _ => 0) _ (by omega) (fun h => absurd h (by omega)) (fun h => absurd h (by omega)) fun _ _ => rfl).mono ?_
  rintro e w9 ⟨rfl, hb⟩
  replace HS := hid (HS.out.next hb)
  clear hb
  go_wp2_with fail
  go_ret
  exact ⟨rfl, HS.out.bel⟩

set_option maxHeartbeats 1000000 in
set_option maxRecDepth 100000 in
theorem tsays_T2_far (T : TreeC) (n N b off cap : Nat) (i : Int) (f : Nat → Int) (leaf : Int) (po : Option Addr) (np pc : Nat) (p : Nat → Int) (w : World) (hn : n ≤ 5) (hN : N = 2 ^ n) (hc : N ≤ cap) (hi : i < 0 ∨ (N : Int) ≤ i) (hp : np ≤ 8) (hpos : 0 ≤ i) (hfar : ((2 ^ np : Nat) : Int) ≤ i) (hpm : np ≤ maxLen) (hpc : np ≤ pc) (h63 : i ≤ 9223372036854775807) (h64 : -9223372036854775808 ≤ i) (ht : Tab w) (hr : PRow w (some ⟨b, off, none⟩) N f) (hv : Nums f) (hpr : PRow w po np p) (hpv : Nums p) (l0 : 0 ≤ leaf) (l1 : leaf ≤ 18446744073709551615) :
    Calls Tryd.prog 3 #[.slice (some ⟨b, off, none⟩) N cap, .int .i64 i, .int .u64 leaf, .slice po np pc] w fun e w' => e = .returned (.bool true) ∧ Below w.heap.size w w' := by
  have HS : Hid (TSt w w (some ⟨b, off, none⟩) N f po np p) := hid ⟨Below.refl _ _, ht, hr, hpr⟩
  have HV := hid hv
  have HPV := hid hpv
  have HT := hid T
  have hN1 : 1 ≤ N := by rw [hN]; exact Nat.one_le_two_pow
  have hN2 : N ≤ 256 := by rw [hN]; exact pow_256 (by omega)
  have HN := hid hN
  have HVA := hid (rvars_ok (some ⟨b, off, none⟩) n N cap w (by omega) hN)
  have n5 : ¬ (5 : Int) < (n : Int) := by omega
  have n0 : ¬ (n : Int) < 0 := by omega
  have rr := rootQ_rng n f
  obtain ⟨x, hx⟩ : ∃ x, rootQ n f = x := ⟨_, rfl⟩
  rw [hx] at rr
  have HRR := hid (fun W (h : Row W b off N f) => (by have := rroot_any n N b off cap f W (by omega) hN hc h hv; rw [hx] at this; exact this : Calls Tryd.prog 7 #[.slice (some ⟨b, off, none⟩) N cap] W fun e w' => e = .returned (.int .u64 x) ∧ Below W.heap.size W w'))
  have HTR := hid (fun W (h : Row W b off N f) (ht : Tab W) => (by have := T.root_ok n N b off cap f W (by omega) hN hc ht h hv; rw [hx] at this; exact this : Calls Tryd.prog 11 #[.slice (some ⟨b, off, none⟩) N cap] W fun e w' => e = .returned (.tuple #[.int .u64 x, .int .i64 0]) ∧ Below W.heap.size W w'))
  have wN : IntKind.i64.wrap ((N : Int) - 1) = (N : Int) - 1 := IntWalk.i64_in _ (by omega)
  have hin : (decide ((0 : Int) ≤ i) && decide (i ≤ (N : Int) - 1)) = false := by rcases hi with h | h <;> simp <;> omega
  have HTP := hid (fun W (ht : Tab W) => T.path_arg n N cap (some ⟨b, off, none⟩) i W (by omega) hN ht hi)
  have HIN := hid (fun W => (by have := rin_any i 0 ((N : Int) - 1) W; rw [hin] at this; exact this : Calls Tryd.prog 8 #[.int .i64 i, .int .i64 0, .int .i64 ((N : Int) - 1)] W fun e w' => e = .returned (.bool false) ∧ w' = W))
  have HTC := hid (fun W => T.climb_arg np pc i po leaf W hpm (.inr (.inr ⟨hp, hfar⟩)) h63 h64)
  have p8 : (np : Int) ≤ 8 := by omega
  obtain ⟨P, hP⟩ : ∃ P, 2 ^ np = P := ⟨_, rfl⟩
  rw [hP] at hfar
  have HSH : Hid (¬ i < wrap64 ((2 : Int) ^ np)) := hid (by rw [shl_one (by omega), hP]; omega)
  clear hP
  clear hN hx
  clear ht hr hv hpr hpv T
  go_enter Tryd.func3, Tryd.ntmps3
  go_wp2_with fail
  refine (HVA.out).mono ?_
  rintro e w1 ⟨rfl, hw⟩
  obtain rfl := hw.symm
  go_wp2_with fail
  refine (HRR.out _ (some_row HS.out.r hN1)).mono ?_
  rintro e w2 ⟨rfl, hb⟩
  replace HS := hid (HS.out.next hb)
  clear hb
  go_wp2_with fail
  refine (HIN.out _).mono ?_
  rintro e w3 ⟨rfl, hw⟩
  obtain rfl := hw.symm
  clear wN hin HIN
  go_wp2_with fail
  · exact absurd (by assumption) (Int.not_lt.2 HSH.out)
  refine (HTR.out _ (some_row HS.out.r hN1) HS.out.t).mono ?_
  rintro e w6 ⟨rfl, hb⟩
  replace HS := hid (HS.out.next hb)
  clear hb
  go_wp2_with fail
  refine (HTP.out _ HS.out.t).mono ?_
  rintro e w7 ⟨rfl, hb⟩
  replace HS := hid (HS.out.next hb)
  clear hb
  go_wp2_with fail
  refine (HTC.out _).mono ?_
  rintro e w8 ⟨rfl, hb⟩
  replace HS := hid (HS.out.next hb)
  clear hb
  go_wp2_with fail
  refine (equal_ok none none 0 0 0 (fun _ => 0) (fun _ => 0) _ (by omega) (fun h => absurd h (by omega)) (fun h => absurd h (by omega)) fun _ _ => rfl).mono ?_
  rintro e w9 ⟨rfl, hb⟩
  replace HS := hid (HS.out.next hb)
  clear hb
  go_wp2_with fail
  go_ret
  exact ⟨rfl, HS.out.bel⟩

set_option maxHeartbeats 1000000 in
set_option maxRecDepth 100000 in
theorem tsays_T3_ok (T : TreeC) (n N b off cap k : Nat) (f : Nat → Int) (leaf : Int) (po : Option Addr) (np pc : Nat) (p : Nat → Int) (w : World) (hn : n ≤ 5) (hN : N = 2 ^ n) (hc : N ≤ cap) (hi : k < N) (hp : np ≤ 8) (q : Nat) (hq : (k : Int) = (q : Int)) (hq2 : q < 2 ^ np) (hpm : np ≤ maxLen) (hpc : np ≤ pc) (h63 : (k : Int) ≤ 9223372036854775807) (h64 : -9223372036854775808 ≤ (k : Int)) (ht : Tab w) (hr : PRow w (some ⟨b, off, none⟩) N f) (hv : Nums f) (hpr : PRow w po np p) (hpv : Nums p) (l0 : 0 ≤ leaf) (l1 : leaf ≤ 18446744073709551615) :
    Calls Tryd.prog 3 #[.slice (some ⟨b, off, none⟩) N cap, .int .i64 (k : Int), .int .u64 leaf, .slice po np pc] w fun e w' => e = .returned (.bool true) ∧ Below w.heap.size w w' := by
  have HS : Hid (TSt w w (some ⟨b, off, none⟩) N f po np p) := hid ⟨Below.refl _ _, ht, hr, hpr⟩
  have HV := hid hv
  have HPV := hid hpv
  have HT := hid T
  have hN1 : 1 ≤ N := by rw [hN]; exact Nat.one_le_two_pow
  have hN2 : N ≤ 256 := by rw [hN]; exact pow_256 (by omega)
  have HN := hid hN
  have HVA := hid (rvars_ok (some ⟨b, off, none⟩) n N cap w (by omega) hN)
  have n5 : ¬ (5 : Int) < (n : Int) := by omega
  have n0 : ¬ (n : Int) < 0 := by omega
  have rr := rootQ_rng n f
  obtain ⟨x, hx⟩ : ∃ x, rootQ n f = x := ⟨_, rfl⟩
  rw [hx] at rr
  have HRR := hid (fun W (h : Row W b off N f) => (by have := rroot_any n N b off cap f W (by omega) hN hc h hv; rw [hx] at this; exact this : Calls Tryd.prog 7 #[.slice (some ⟨b, off, none⟩) N cap] W fun e w' => e = .returned (.int .u64 x) ∧ Below W.heap.size W w'))
  have HTR := hid (fun W (h : Row W b off N f) (ht : Tab W) => (by have := T.root_ok n N b off cap f W (by omega) hN hc ht h hv; rw [hx] at this; exact this : Calls Tryd.prog 11 #[.slice (some ⟨b, off, none⟩) N cap] W fun e w' => e = .returned (.tuple #[.int .u64 x, .int .i64 0]) ∧ Below W.heap.size W w'))
  have wN : IntKind.i64.wrap ((N : Int) - 1) = (N : Int) - 1 := IntWalk.i64_in _ (by omega)
  have hin : (decide ((0 : Int) ≤ (k : Int)) && decide ((k : Int) ≤ (N : Int) - 1)) = true := by simp; omega
  have HRP := hid (fun W (h : Row W b off N f) => rpath_any n N b off cap k f W (by omega) hN hc h hv hi)
  have HTP := hid (fun W (h : Row W b off N f) (ht : Tab W) => T.path_ok n N b off cap k f W (by omega) hN hc ht h hv hi)
  have HIN := hid (fun W => (by have := rin_any (k : Int) 0 ((N : Int) - 1) W; rw [hin] at this; exact this : Calls Tryd.prog 8 #[.int .i64 (k : Int), .int .i64 0, .int .i64 ((N : Int) - 1)] W fun e w' => e = .returned (.bool true) ∧ w' = W))
  have cr := climbQ_rng np q leaf p
  obtain ⟨y, hy⟩ : ∃ y, climbQ np q leaf p = y := ⟨_, rfl⟩
  rw [hy] at cr
  have HRC := hid (fun W (h : PRow W po np p) => (by have := rclimb_any np pc q po leaf p W hp hpc h hpv hq2 l0 l1; rw [hy, ← hq] at this; exact this : Calls Tryd.prog 10 #[.int .i64 (k : Int), .int .u64 leaf, .slice po np pc] W fun e w' => e = .returned (.int .u64 y) ∧ Below W.heap.size W w'))
  have HTC := hid (fun W (h : PRow W po np p) => (by have := T.climb_ok np pc q po leaf p W hp hpc h hpv hq2 l0 l1; rw [hy, ← hq] at this; exact this : Calls Tryd.prog 13 #[.int .i64 (k : Int), .int .u64 leaf, .slice po np pc] W fun e w' => e = .returned (.tuple #[.int .u64 y, .int .i64 0]) ∧ Below W.heap.size W w'))
  have p8 : (np : Int) ≤ 8 := by omega
  have i0 : (0 : Int) ≤ (k : Int) := by omega
  obtain ⟨P, hP⟩ : ∃ P, 2 ^ np = P := ⟨_, rfl⟩
  rw [hP] at hq2
  have HSH : Hid ((k : Int) < wrap64 ((2 : Int) ^ np)) := hid (by rw [shl_one (by omega), hP]; omega)
  clear hP hy hq hq2
  clear hN hx
  clear ht hr hv hpr hpv T
  go_enter Tryd.func3, Tryd.ntmps3
  go_wp2_with fail
  refine (HVA.out).mono ?_
  rintro e w1 ⟨rfl, hw⟩
  obtain rfl := hw.symm
  go_wp2_with fail
  refine (HRR.out _ (some_row HS.out.r hN1)).mono ?_
  rintro e w2 ⟨rfl, hb⟩
  replace HS := hid (HS.out.next hb)
  clear hb
  go_wp2_with fail
  refine (HIN.out _).mono ?_
  rintro e w3 ⟨rfl, hw⟩
  obtain rfl := hw.symm
  clear wN hin HIN
  go_wp2_with fail
  refine (HRP.out _ (some_row HS.out.r hN1)).mono ?_
  rintro e w4 ⟨v, rfl, ho, hb⟩
  obtain ⟨vo, vc, rfl, hvp, _⟩ := ho.is
  have HVP := hid hvp
  replace HS := hid (HS.out.next hb)
  clear hb ho hvp
  have hsh := HSH.out
  go_wp2_with fail
  clear hsh
  refine (HRC.out _ HS.out.p).mono ?_
  rintro e w5 ⟨rfl, hb⟩
  replace HS := hid (HS.out.next hb)
  replace HVP := hid (HVP.out.kept hb)
  clear hb
  go_wp2_with fail
  refine (HTR.out _ (some_row HS.out.r hN1) HS.out.t).mono ?_
  rintro e w6 ⟨rfl, hb⟩
  replace HS := hid (HS.out.next hb)
  replace HVP := hid (HVP.out.kept hb)
  clear hb
  go_wp2_with fail
  refine (HTP.out _ (some_row HS.out.r hN1) HS.out.t).mono ?_
  rintro e w7 ⟨lo, lc, rfl, _, hlp, hb⟩
  have HLP := hid hlp
  replace HVP := hid (HVP.out.kept hb)
  clear hlp
  replace HS := hid (HS.out.next hb)
  clear hb
  go_wp2_with fail
  refine (HTC.out _ HS.out.p).mono ?_
  rintro e w8 ⟨rfl, hb⟩
  replace HS := hid (HS.out.next hb)
  replace HVP := hid (HVP.out.kept hb)
  replace HLP := hid (HLP.out.kept hb)
  clear hb
  go_wp2_with fail
  refine (equal_ok lo vo n lc vc (pathQ n f k) (pathQ n f k) _ (by omega) HLP.out HVP.out fun _ _ => rfl).mono ?_
  rintro e w9 ⟨rfl, hb⟩
  replace HS := hid (HS.out.next hb)
  clear hb
  go_wp2_with fail
  go_ret
  exact ⟨rfl, HS.out.bel⟩

set_option maxHeartbeats 1000000 in
set_option maxRecDepth 100000 in
theorem tsays_T3_many (T : TreeC) (n N b off cap k : Nat) (f : Nat → Int) (leaf : Int) (po : Option Addr) (np pc : Nat) (p : Nat → Int) (w : World) (hn : n ≤ 5) (hN : N = 2 ^ n) (hc : N ≤ cap) (hi : k < N) (hp : 8 < np) (hpm : np ≤ maxLen) (hpc : np ≤ pc) (h63 : (k : Int) ≤ 9223372036854775807) (h64 : -9223372036854775808 ≤ (k : Int)) (ht : Tab w) (hr : PRow w (some ⟨b, off, none⟩) N f) (hv : Nums f) (hpr : PRow w po np p) (hpv : Nums p) (l0 : 0 ≤ leaf) (l1 : leaf ≤ 18446744073709551615) :
    Calls Tryd.prog 3 #[.slice (some ⟨b, off, none⟩) N cap, .int .i64 (k : Int), .int .u64 leaf, .slice po np pc] w fun e w' => e = .returned (.bool true) ∧ Below w.heap.size w w' := by
  have HS : Hid (TSt w w (some ⟨b, off, none⟩) N f po np p) := hid ⟨Below.refl _ _, ht, hr, hpr⟩
  have HV := hid hv
  have HPV := hid hpv
  have HT := hid T
  have hN1 : 1 ≤ N := by rw [hN]; exact Nat.one_le_two_pow
  have hN2 : N ≤ 256 := by rw [hN]; exact pow_256 (by omega)
  have HN := hid hN
  have HVA := hid (rvars_ok (some ⟨b, off, none⟩) n N cap w (by omega) hN)
  have n5 : ¬ (5 : Int) < (n : Int) := by omega
  have n0 : ¬ (n : Int) < 0 := by omega
  have rr := rootQ_rng n f
  obtain ⟨x, hx⟩ : ∃ x, rootQ n f = x := ⟨_, rfl⟩
  rw [hx] at rr
  have HRR := hid (fun W (h : Row W b off N f) => (by have := rroot_any n N b off cap f W (by omega) hN hc h hv; rw [hx] at this; exact this : Calls Tryd.prog 7 #[.slice (some ⟨b, off, none⟩) N cap] W fun e w' => e = .returned (.int .u64 x) ∧ Below W.heap.size W w'))
  have HTR := hid (fun W (h : Row W b off N f) (ht : Tab W) => (by have := T.root_ok n N b off cap f W (by omega) hN hc ht h hv; rw [hx] at this; exact this : Calls Tryd.prog 11 #[.slice (some ⟨b, off, none⟩) N cap] W fun e w' => e = .returned (.tuple #[.int .u64 x, .int .i64 0]) ∧ Below W.heap.size W w'))
  have wN : IntKind.i64.wrap ((N : Int) - 1) = (N : Int) - 1 := IntWalk.i64_in _ (by omega)
  have hin : (decide ((0 : Int) ≤ (k : Int)) && decide ((k : Int) ≤ (N : Int) - 1)) = true := by simp; omega
  have HRP := hid (fun W (h : Row W b off N f) => rpath_any n N b off cap k f W (by omega) hN hc h hv hi)
  have HTP := hid (fun W (h : Row W b off N f) (ht : Tab W) => T.path_ok n N b off cap k f W (by omega) hN hc ht h hv hi)
  have HIN := hid (fun W => (by have := rin_any (k : Int) 0 ((N : Int) - 1) W; rw [hin] at this; exact this : Calls Tryd.prog 8 #[.int .i64 (k : Int), .int .i64 0, .int .i64 ((N : Int) - 1)] W fun e w' => e = .returned (.bool true) ∧ w' = W))
  have HTC := hid (fun W => T.climb_arg np pc (k : Int) po leaf W hpm (.inl hp) h63 h64)
  have p8 : ¬ (np : Int) ≤ 8 := by omega
  clear hN hx
  clear ht hr hv hpr hpv T
  go_enter Tryd.func3, Tryd.ntmps3
  go_wp2_with fail
  refine (HVA.out).mono ?_
  rintro e w1 ⟨rfl, hw⟩
  obtain rfl := hw.symm
  go_wp2_with fail
  refine (HRR.out _ (some_row HS.out.r hN1)).mono ?_
  rintro e w2 ⟨rfl, hb⟩
  replace HS := hid (HS.out.next hb)
  clear hb
  go_wp2_with fail
  refine (HIN.out _).mono ?_
  rintro e w3 ⟨rfl, hw⟩
  obtain rfl := hw.symm
  clear wN hin HIN
  go_wp2_with fail
  refine (HRP.out _ (some_row HS.out.r hN1)).mono ?_
  rintro e w4 ⟨v, rfl, ho, hb⟩
  obtain ⟨vo, vc, rfl, hvp, _⟩ := ho.is
  have HVP := hid hvp
  replace HS := hid (HS.out.next hb)
  clear hb ho hvp
  go_wp2_with fail
  refine (HTR.out _ (some_row HS.out.r hN1) HS.out.t).mono ?_
  rintro e w6 ⟨rfl, hb⟩
  replace HS := hid (HS.out.next hb)
  replace HVP := hid (HVP.out.kept hb)
  clear hb
  go_wp2_with fail
  refine (HTP.out _ (some_row HS.out.r hN1) HS.out.t).mono ?_
  rintro e w7 ⟨lo, lc, rfl, _, hlp, hb⟩
  have HLP := hid hlp
  replace HVP := hid (HVP.out.kept hb)
  clear hlp
  replace HS := hid (HS.out.next hb)
  clear hb
  go_wp2_with fail
  refine (HTC.out _).mono ?_
  rintro e w8 ⟨rfl, hb⟩
  replace HS := hid (HS.out.next hb)
  replace HVP := hid (HVP.out.kept hb)
  replace HLP := hid (HLP.out.kept hb)
  clear hb
  go_wp2_with fail
  refine (equal_ok lo vo n lc vc (pathQ n f k) (pathQ n f k) _ (by omega) HLP.out HVP.out fun _ _ => rfl).mono ?_
  rintro e w9 ⟨rfl, hb⟩
  replace HS := hid (HS.out.next hb)
  clear hb
  go_wp2_with fail
  go_ret
  exact ⟨rfl, HS.out.bel⟩

set_option maxHeartbeats 1000000 in
set_option maxRecDepth 100000 in
theorem tsays_T3_far (T : TreeC) (n N b off cap k : Nat) (f : Nat → Int) (leaf : Int) (po : Option Addr) (np pc : Nat) (p : Nat → Int) (w : World) (hn : n ≤ 5) (hN : N = 2 ^ n) (hc : N ≤ cap) (hi : k < N) (hp : np ≤ 8) (hpos : 0 ≤ (k : Int)) (hfar : ((2 ^ np : Nat) : Int) ≤ (k : Int)) (hpm : np ≤ maxLen) (hpc : np ≤ pc) (h63 : (k : Int) ≤ 9223372036854775807) (h64 : -9223372036854775808 ≤ (k : Int)) (ht : Tab w) (hr : PRow w (some ⟨b, off, none⟩) N f) (hv : Nums f) (hpr : PRow w po np p) (hpv : Nums p) (l0 : 0 ≤ leaf) (l1 : leaf ≤ 18446744073709551615) :
    Calls Tryd.prog 3 #[.slice (some ⟨b, off, none⟩) N cap, .int .i64 (k : Int), .int .u64 leaf, .slice po np pc] w fun e w' => e = .returned (.bool true) ∧ Below w.heap.size w w' := by
  have HS : Hid (TSt w w (some ⟨b, off, none⟩) N f po np p) := hid ⟨Below.refl _ _, ht, hr, hpr⟩
  have HV := hid hv
  have HPV := hid hpv
  have HT := hid T
  have hN1 : 1 ≤ N := by rw [hN]; exact Nat.one_le_two_pow
  have hN2 : N ≤ 256 := by rw [hN]; exact pow_256 (by omega)
  have HN := hid hN
  have HVA := hid (rvars_ok (some ⟨b, off, none⟩) n N cap w (by omega) hN)
  have n5 : ¬ (5 : Int) < (n : Int) := by omega
  have n0 : ¬ (n : Int) < 0 := by omega
  have rr := rootQ_rng n f
  obtain ⟨x, hx⟩ : ∃ x, rootQ n f = x := ⟨_, rfl⟩
  rw [hx] at rr
  have HRR := hid (fun W (h : Row W b off N f) => (by have := rroot_any n N b off cap f W (by omega) hN hc h hv; rw [hx] at this; exact this : Calls Tryd.prog 7 #[.slice (some ⟨b, off, none⟩) N cap] W fun e w' => e = .returned (.int .u64 x) ∧ Below W.heap.size W w'))
  have HTR := hid (fun W (h : Row W b off N f) (ht : Tab W) => (by have := T.root_ok n N b off cap f W (by omega) hN hc ht h hv; rw [hx] at this; exact this : Calls Tryd.prog 11 #[.slice (some ⟨b, off, none⟩) N cap] W fun e w' => e = .returned (.tuple #[.int .u64 x, .int .i64 0]) ∧ Below W.heap.size W w'))
  have wN : IntKind.i64.wrap ((N : Int) - 1) = (N : Int) - 1 := IntWalk.i64_in _ (by omega)
  have hin : (decide ((0 : Int) ≤ (k : Int)) && decide ((k : Int) ≤ (N : Int) - 1)) = true := by simp; omega
  have HRP := hid (fun W (h : Row W b off N f) => rpath_any n N b off cap k f W (by omega) hN hc h hv hi)
  have HTP := hid (fun W (h : Row W b off N f) (ht : Tab W) => T.path_ok n N b off cap k f W (by omega) hN hc ht h hv hi)
  have HIN := hid (fun W => (by have := rin_any (k : Int) 0 ((N : Int) - 1) W; rw [hin] at this; exact this : Calls Tryd.prog 8 #[.int .i64 (k : Int), .int .i64 0, .int .i64 ((N : Int) - 1)] W fun e w' => e = .returned (.bool true) ∧ w' = W))
  have HTC := hid (fun W => T.climb_arg np pc (k : Int) po leaf W hpm (.inr (.inr ⟨hp, hfar⟩)) h63 h64)
  have p8 : (np : Int) ≤ 8 := by omega
  obtain ⟨P, hP⟩ : ∃ P, 2 ^ np = P := ⟨_, rfl⟩
  rw [hP] at hfar
  have HSH : Hid (¬ (k : Int) < wrap64 ((2 : Int) ^ np)) := hid (by rw [shl_one (by omega), hP]; omega)
  clear hP
  clear hN hx
  clear ht hr hv hpr hpv T
  go_enter Tryd.func3, Tryd.ntmps3
  go_wp2_with fail
  refine (HVA.out).mono ?_
  rintro e w1 ⟨rfl, hw⟩
  obtain rfl := hw.symm
  go_wp2_with fail
  refine (HRR.out _ (some_row HS.out.r hN1)).mono ?_
  rintro e w2 ⟨rfl, hb⟩
  replace HS := hid (HS.out.next hb)
  clear hb
  go_wp2_with fail
  refine (HIN.out _).mono ?_
  rintro e w3 ⟨rfl, hw⟩
  obtain rfl := hw.symm
  clear wN hin HIN
  go_wp2_with fail
  refine (HRP.out _ (some_row HS.out.r hN1)).mono ?_
  rintro e w4 ⟨v, rfl, ho, hb⟩
  obtain ⟨vo, vc, rfl, hvp, _⟩ := ho.is
  have HVP := hid hvp
  replace HS := hid (HS.out.next hb)
  clear hb ho hvp
  go_wp2_with fail
  · exact absurd (by assumption) (Int.not_lt.2 HSH.out)
  refine (HTR.out _ (some_row HS.out.r hN1) HS.out.t).mono ?_
  rintro e w6 ⟨rfl, hb⟩
  replace HS := hid (HS.out.next hb)
  replace HVP := hid (HVP.out.kept hb)
  clear hb
  go_wp2_with fail
  refine (HTP.out _ (some_row HS.out.r hN1) HS.out.t).mono ?_
  rintro e w7 ⟨lo, lc, rfl, _, hlp, hb⟩
  have HLP := hid hlp
  replace HVP := hid (HVP.out.kept hb)
  clear hlp
  replace HS := hid (HS.out.next hb)
  clear hb
  go_wp2_with fail
  refine (HTC.out _).mono ?_
  rintro e w8 ⟨rfl, hb⟩
  replace HS := hid (HS.out.next hb)
  replace HVP := hid (HVP.out.kept hb)
  replace HLP := hid (HLP.out.kept hb)
  clear hb
  go_wp2_with fail
  refine (equal_ok lo vo n lc vc (pathQ n f k) (pathQ n f k) _ (by omega) HLP.out HVP.out fun _ _ => rfl).mono ?_
  rintro e w9 ⟨rfl, hb⟩
  replace HS := hid (HS.out.next hb)
  clear hb
  go_wp2_with fail
  go_ret
  exact ⟨rfl, HS.out.bel⟩

theorem tsays_all (T : TreeC) (ao : Option Addr) (N cap : Nat) (i : Int) (f : Nat → Int) (leaf : Int) (po : Option Addr) (np pc : Nat) (p : Nat → Int) (w : World) (hc : N ≤ cap) (hmax : N ≤ maxLen) (hpm : np ≤ maxLen) (hpc : np ≤ pc) (h63 : i ≤ 9223372036854775807) (h64 : -9223372036854775808 ≤ i) (ht : Tab w) (hr : PRow w ao N f) (hv : Nums f) (hpr : PRow w po np p) (hpv : Nums p) (l0 : 0 ≤ leaf) (l1 : leaf ≤ 18446744073709551615) :
    Calls Tryd.prog 3 #[.slice ao N cap, .int .i64 i, .int .u64 leaf, .slice po np pc] w fun e w' => e = .returned (.bool true) ∧ Below w.heap.size w w' := by
  have hC : 8 < np ∨ (np ≤ 8 ∧ i < 0) ∨ (np ≤ 8 ∧ 0 ≤ i ∧ ((2 ^ np : Nat) : Int) ≤ i) ∨ (np ≤ 8 ∧ ∃ q : Nat, i = (q : Int) ∧ q < 2 ^ np) := by
    by_cases h8 : 8 < np
    · exact .inl h8
    · by_cases h0 : i < 0
      · exact .inr (.inl ⟨by omega, h0⟩)
      · obtain ⟨q, hq⟩ := Int.eq_ofNat_of_zero_le (show 0 ≤ i by omega)
        by_cases hf : q < 2 ^ np
        · exact .inr (.inr (.inr ⟨by omega, q, hq, hf⟩))
        · exact .inr (.inr (.inl ⟨by omega, by omega, by rw [hq]; exact Int.ofNat_le.2 (by omega)⟩))
  by_cases hT : ∃ n, n ≤ 8 ∧ N = 2 ^ n
  · obtain ⟨n, hn, hN⟩ := hT
    by_cases h5 : 5 < n
    · exact tsays_big n N cap ao i leaf po np pc w h5 hn hN
    · have hN1 : 0 < N := by rw [hN]; exact Nat.two_pow_pos n
      obtain ⟨b, off, rfl, _⟩ := hr hN1
      by_cases hi : 0 ≤ i ∧ i < (N : Int)
      · obtain ⟨k, rfl⟩ := Int.eq_ofNat_of_zero_le hi.1
        rcases hC with h | ⟨h, g⟩ | ⟨h, g, g2⟩ | ⟨h, q, g, g2⟩
        · exact tsays_T3_many T n N b off cap k f leaf po np pc p w (by omega) hN hc (by omega) h hpm hpc h63 h64 ht hr hv hpr hpv l0 l1
        · omega
        · exact tsays_T3_far T n N b off cap k f leaf po np pc p w (by omega) hN hc (by omega) h g g2 hpm hpc h63 h64 ht hr hv hpr hpv l0 l1
        · exact tsays_T3_ok T n N b off cap k f leaf po np pc p w (by omega) hN hc (by omega) h q g g2 hpm hpc h63 h64 ht hr hv hpr hpv l0 l1
      · rcases hC with h | ⟨h, g⟩ | ⟨h, g, g2⟩ | ⟨h, q, g, g2⟩
        · exact tsays_T2_many T n N b off cap i f leaf po np pc p w (by omega) hN hc (by omega) h hpm hpc h63 h64 ht hr hv hpr hpv l0 l1
        · exact tsays_T2_neg T n N b off cap i f leaf po np pc p w (by omega) hN hc (by omega) h g hpm hpc h63 h64 ht hr hv hpr hpv l0 l1
        · exact tsays_T2_far T n N b off cap i f leaf po np pc p w (by omega) hN hc (by omega) h g g2 hpm hpc h63 h64 ht hr hv hpr hpv l0 l1
        · exact tsays_T2_ok T n N b off cap i f leaf po np pc p w (by omega) hN hc (by omega) h q g g2 hpm hpc h63 h64 ht hr hv hpr hpv l0 l1
  · have hb : ∀ n, n ≤ 8 → N ≠ 2 ^ n := fun n hn e => hT ⟨n, hn, e⟩
    rcases hC with h | ⟨h, g⟩ | ⟨h, g, g2⟩ | ⟨h, q, g, g2⟩
    · exact tsays_T1_many T ao N cap i f leaf po np pc p w hb hmax h hpm hpc h63 h64 ht hr hv hpr hpv l0 l1
    · exact tsays_T1_neg T ao N cap i f leaf po np pc p w hb hmax h g hpm hpc h63 h64 ht hr hv hpr hpv l0 l1
    · exact tsays_T1_far T ao N cap i f leaf po np pc p w hb hmax h g g2 hpm hpc h63 h64 ht hr hv hpr hpv l0 l1
    · exact tsays_T1_ok T ao N cap i f leaf po np pc p w hb hmax h q g g2 hpm hpc h63 h64 ht hr hv hpr hpv l0 l1

end Go.Proofs.YtoogpkcpheannabDoor
