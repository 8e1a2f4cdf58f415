/-
  Contracts of package open's halfOf, between, leadsTo, arePlaces and hasForm, for every input; they write nothing that was there.
-/
import Derived.Test.YtnnjajmkfgnhcaaDoorOpn
import Derived.Test.YtnnjajmkfgnhcaaDoorTreeCl
import Derived.BigQuiet
namespace Go.Proofs.YtnnjajmkfgnhcaaDoor
open Go.RowKit
set_option linter.unusedVariables false
attribute [local go_sem ↓] Go.wp_at_zero Go.wp_at_succ

/-- A box of three cells. -/
structure Bx3 (w : World) (B : Nat) (p q r : Value) : Prop where
  c0 : w.cell? ⟨B, 0, none⟩ = some p
  c1 : w.cell? ⟨B, 1, none⟩ = some q
  c2 : w.cell? ⟨B, 2, none⟩ = some r
theorem Bx3.new (w : World) (p q r : Value) (t : TypeId) : Bx3 (w.alloc (.cells #[p, q, r] t)) w.heap.size p q r :=
  ⟨by rw [World.cell?_alloc_new]; rfl, by rw [World.cell?_alloc_new]; rfl, by rw [World.cell?_alloc_new]; rfl⟩
theorem Bx3.kept {w w' : World} {B : Nat} {p q r : Value} (h : Bx3 w B p q r) (hb : Below w.heap.size w w') : Bx3 w' B p q r := by
  have hl : B < w.heap.size := World.block_lt_of_cell? w _ h.c0
  exact ⟨(hb.cell hl).trans h.c0, (hb.cell hl).trans h.c1, (hb.cell hl).trans h.c2⟩
/-- A box of two cells. -/
structure Bx2 (w : World) (B : Nat) (p q : Value) : Prop where
  c0 : w.cell? ⟨B, 0, none⟩ = some p
  c1 : w.cell? ⟨B, 1, none⟩ = some q
theorem Bx2.new (w : World) (p q : Value) (t : TypeId) : Bx2 (w.alloc (.cells #[p, q] t)) w.heap.size p q :=
  ⟨by rw [World.cell?_alloc_new]; rfl, by rw [World.cell?_alloc_new]; rfl⟩
theorem Bx2.kept {w w' : World} {B : Nat} {p q : Value} (h : Bx2 w B p q) (hb : Below w.heap.size w w') : Bx2 w' B p q := by
  have hl : B < w.heap.size := World.block_lt_of_cell? w _ h.c0
  exact ⟨(hb.cell hl).trans h.c0, (hb.cell hl).trans h.c1⟩
theorem Below.drewN' {w w' : World} {B : Nat} (h : Below B w w') (n : Nat) : Below B w (w'.drewN n) := ⟨h.os, h.tape, h.output, h.size, h.block⟩
theorem bel_new (w : World) (x : Obj) : Below w.heap.size w (w.alloc x) := (Below.refl _ w).alloc (Nat.le_refl _) _

set_option maxHeartbeats 400000 in
theorem halfOf_at (n k q H : Nat) (w : World) (hn : n ≤ 8) (hq : q ≤ 8) (HQ : Hid ((n : Int) - (k : Int) - 1 = (q : Int))) (HS : Hid (wrap64 ((2 : Int) ^ q) = (H : Int))) (hk : k ≤ 8) :
    Calls Tryd.prog 67 #[.int .i64 (n : Int), .int .i64 (k : Int)] w fun e w' => e = .returned (.int .i64 (H : Int)) ∧ w' = w := by
  have hq2 := HQ.out
  go_enter Tryd.func67, Tryd.ntmps67
  go_wp2_with fail
  go_ret
  exact ⟨congrArg (fun x => Ending.returned (.int .i64 x)) HS.out, rfl⟩
theorem halfOf_any (n k : Nat) (w : World) (hn : n ≤ 8) (hk : k < n) :
    Calls Tryd.prog 67 #[.int .i64 (n : Int), .int .i64 (k : Int)] w fun e w' => e = .returned (.int .i64 (hfQ n k : Int)) ∧ w' = w :=
  halfOf_at n k (n - 1 - k) (hfQ n k) w hn (by omega) (hid (by omega)) (hid (shl_c8 (by omega))) (by omega)

set_option maxHeartbeats 1000000 in
theorem obetw_any (a c x : Int) (w : World) (a0 : 0 ≤ a) (a1 : a ≤ 18446744073709551615) (c0 : 0 ≤ c) (c1 : c ≤ 18446744073709551615) (x0 : 0 ≤ x) (x1 : x ≤ 18446744073709551615) :
    Calls Tryd.prog 78 #[.agg #[.int .u64 a, .int .u64 c], .int .u64 x] w fun e w' => e = .returned (.int .u64 (addQ a (mulQ x (subQ c a)))) ∧ Below w.heap.size w w' := by
  have HB := hid (bel_new w (.cells #[.int .u64 a, .int .u64 c] 41))
  obtain ⟨s0, s1⟩ := subQ_rng c a
  obtain ⟨m0, m1⟩ := mulQ_rng x (subQ c a)
  go_enter Tryd.func78, Tryd.ntmps78
  go_wp2_with fail
  go_quiet (first | (go_at_call 31; exact Calls.quiet_of_same (sub_any _ _ _ (by omega) (by omega) (by omega) (by omega))) | (go_at_call 52; exact Calls.quiet_of_same (mul_any _ _ _ (by omega) (by omega) (by omega) (by omega))) | (go_at_call 25; exact Calls.quiet_of_same (add_any _ _ _ (by omega) (by omega) (by omega) (by omega))))
  go_wp2_with fail
  go_ret
  exact ⟨rfl, Below.drewN' HB.out _⟩

set_option maxHeartbeats 1000000 in
theorem leadsTo_any (n cap i : Nat) (ao : Option Addr) (x root : Int) (p : Nat → Int) (w : World) (hn : n ≤ 8) (hr : PRow w ao n p) (hv : Nums p) (hi : i < 2 ^ n) (x0 : 0 ≤ x) (x1 : x ≤ 18446744073709551615) (r0 : 0 ≤ root) (r1 : root ≤ 18446744073709551615) :
    Calls Tryd.prog 59 #[.int .i64 (i : Int), .int .u64 x, .slice ao n cap, .int .u64 root] w fun e w' => e = .returned (.bool (climbQ n i x p == nrm root)) ∧ Below w.heap.size w w' := by
  have hc := tclimb_ok n cap i ao x p w hn hr hv hi x0 x1
  obtain ⟨y, hy⟩ : ∃ y, climbQ n i x p = y := ⟨_, rfl⟩
  rw [hy] at hc ⊢
  obtain ⟨r, hrr⟩ : ∃ r, (y == nrm root) = r := ⟨_, rfl⟩
  rw [hrr]
  have HC := hid hc
  clear hc hr hv hi hy
  go_enter Tryd.func59, Tryd.ntmps59
  go_wp2_with (first | (go_at_call 15; refine (HC.out).mono ?_; rintro e w1 ⟨rfl, hb⟩; have HB := hid hb; clear hb) | (go_at_call 16; refine (norm_any _ _ (by omega) (by omega)).mono ?_; rintro e w' ⟨rfl, hw⟩; obtain rfl := hw.symm))
  go_ret
  exact ⟨rfl, HB.out⟩

/-- They may be: at most 32 places, each of a pair. -/
def plOk (m n : Nat) (p : Nat → Int) : Prop := m ≤ 32 ∧ ∀ j, j < m → 0 ≤ p j ∧ p j < ((hfQ n 0 : Nat) : Int)
set_option maxHeartbeats 4000000 in
set_option maxRecDepth 100000 in
theorem arePlaces_any (m cap n : Nat) (ao : Option Addr) (p : Nat → Int) (w : World) (hn1 : 1 ≤ n) (hn : n ≤ 8) (hm : m ≤ maxLen) (hr : IRowP w ao m p) :
    Calls Tryd.prog 38 #[.slice ao m cap, .int .i64 (n : Int)] w fun e w' => ∃ r : Bool, e = .returned (.bool r) ∧ (r = true ↔ plOk m n p) ∧ w' = w := by
  by_cases h32 : m ≤ 32
  · have HR := hid hr
    have HH := hid (fun W => halfOf_any n 0 W hn (by omega))
    have h0 : hfQ n 0 ≤ 256 := hfQ_le hn
    obtain ⟨H, hH⟩ : ∃ H, hfQ n 0 = H := ⟨_, rfl⟩
    have HPL : Hid (∀ q : Prop, (q ↔ plOk m n p) ↔ (q ↔ ∀ j, j < m → 0 ≤ p j ∧ p j < (H : Int))) := hid (fun q => by unfold plOk; rw [hH]; constructor <;> intro h <;> rw [h] <;> constructor <;> intro h2; exact h2.2; exact ⟨h32, h2⟩; exact ⟨h32, h2⟩; exact h2.2)
    rw [hH] at HH h0
    have m32 : ¬ (32 : Int) < (m : Int) := by omega
    clear hr hH
    go_enter Tryd.func38, Tryd.ntmps38
    go_wp2_with fail
    go_loopg [12] m (fun q x wr => ∃ k : Nat, k ≤ m ∧ q = m - k ∧ x = .int .i64 (k : Int) ∧ Hid (wr = w) ∧ Hid (∀ j, j < k → 0 ≤ p j ∧ p j < (H : Int)))
    case atStart => exact ⟨0, by omega, rfl, rfl, hid rfl, hid (fun j hj => absurd hj (by omega))⟩
    case round =>
      obtain ⟨k, hk, rfl, rfl, HW, HJ⟩ := hrel
      obtain rfl := HW.out
      clear HW
      by_cases hlt : k < m
      · obtain ⟨b, off, rfl, hrp⟩ := HR.out (by omega)
        have c1 := hrp k hlt
        obtain ⟨x, hx⟩ : ∃ x, p k = x := ⟨_, rfl⟩
        rw [hx] at c1
        have HX := hid hx
        clear hrp hx
        have k0 : (0 : Int) ≤ (k : Int) := by omega
        have k1 : (k : Int) < (m : Int) := by omega
        by_cases hneg : x < 0
        · have d2 : decide (x < 0) = true := decide_eq_true hneg
          go_wp2_with fail
          go_ret
          exact ⟨false, rfl, (HPL.out _).2 ⟨fun h => (by cases h), fun h => by have := (h k hlt).1; rw [HX.out] at this; omega⟩, rfl⟩
        · have d2 : decide (x < 0) = false := decide_eq_false hneg
          by_cases hge : (H : Int) ≤ x
          · have d3 : decide ((H : Int) ≤ x) = true := decide_eq_true hge
            go_wp2_with (go_at_call 67; refine (HH.out _).mono ?_; rintro e w' ⟨rfl, hw⟩; obtain rfl := hw.symm)
            go_ret
            exact ⟨false, rfl, (HPL.out _).2 ⟨fun h => (by cases h), fun h => by have := (h k hlt).2; rw [HX.out] at this; omega⟩, rfl⟩
          · have d3 : decide ((H : Int) ≤ x) = false := decide_eq_false hge
            have HJ2 : Hid (∀ j, j < k + 1 → 0 ≤ p j ∧ p j < (H : Int)) := hid (fun j hj => by
              by_cases e : j = k
              · rw [e, HX.out]; omega
              · exact HJ.out j (by omega))
            clear HJ
            go_wp2_with (go_at_call 67; refine (HH.out _).mono ?_; rintro e w' ⟨rfl, hw⟩; obtain rfl := hw.symm)
            go_roundg (m - (k + 1))
            case measure => go_light; omega
            case rel => exact ⟨k + 1, by omega, rfl, by go_num, hid rfl, HJ2⟩
      · have e : k = m := by omega
        subst e
        go_wp2_with fail
        go_ret
        exact ⟨true, rfl, (HPL.out _).2 ⟨fun _ => HJ.out, fun _ => rfl⟩, rfl⟩
  · have m32 : (32 : Int) < (m : Int) := by omega
    go_enter Tryd.func38, Tryd.ntmps38
    go_wp2_with fail
    go_ret
    exact ⟨false, rfl, ⟨fun h => (by cases h), fun h => absurd h.1 h32⟩, rfl⟩

end Go.Proofs.YtnnjajmkfgnhcaaDoor
