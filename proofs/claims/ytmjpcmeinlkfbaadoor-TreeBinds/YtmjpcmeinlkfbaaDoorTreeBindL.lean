/-
  The law TreeBinds, over what is asked of package tree (TreeC): it answers true and writes nothing that was there.
-/
import Derived.Test.YtmjpcmeinlkfbaaDoorTreeKeepL
import Derived.Test.YtmjpcmeinlkfbaaDoorArr2
import Derived.Deep.RegionHeld3
import Derived.StillTailTactics
namespace Go.Proofs.YtmjpcmeinlkfbaaDoor
open Go.RowKit
set_option linter.unusedVariables false
attribute [local go_sem ↓] Go.wp_at_zero Go.wp_at_succ

/-- The least of two lengths and 8, as Go's min finds it. -/
structure Least (lp lq n : Nat) : Prop where
  p : n ≤ lp
  q : n ≤ lq
  e : n ≤ 8
theorem PRow.upto {w : World} {ao : Option Addr} {n m : Nat} {f : Nat → Int} (h : PRow w ao n f) (hm : m ≤ n) : PRow w ao m f := fun h0 => by
  obtain ⟨b, off, e, r⟩ := h (by omega)
  exact ⟨b, off, e, fun j hj => r j (by omega)⟩

/-- Two pairs stand side by side; nothing that was there is written. -/
structure Two (w W : World) (ub vb : Nat) (u0 u1 v0 v1 : Int) : Prop where
  bel : Below w.heap.size w W
  u : Row W ub 0 2 (pairF u0 u1)
  uf : Free W ub 0 2
  v : Row W vb 0 2 (pairF v0 v1)
  vf : Free W vb 0 2
theorem Two.next {w W W' : World} {ub vb : Nat} {u0 u1 v0 v1 : Int} (h : Two w W ub vb u0 u1 v0 v1) (hb : Below W.heap.size W W') : Two w W' ub vb u0 u1 v0 v1 :=
  ⟨h.bel.trans (hb.mono h.bel.size), h.u.kept hb (h.u.lt (by omega)), h.uf.kept hb (h.u.lt (by omega)), h.v.kept hb (h.v.lt (by omega)), h.vf.kept hb (h.v.lt (by omega))⟩
theorem Two.cells {w W : World} {ub vb : Nat} {u0 u1 v0 v1 : Int} (h : Two w W ub vb u0 u1 v0 v1) : W.cell? ⟨ub, 0, none⟩ = some (.int .u64 u0) ∧ W.cell? ⟨ub, 1, none⟩ = some (.int .u64 u1) ∧ W.cell? ⟨vb, 0, none⟩ = some (.int .u64 v0) ∧ W.cell? ⟨vb, 1, none⟩ = some (.int .u64 v1) :=
  ⟨h.u 0 (by omega), h.u 1 (by omega), h.v 0 (by omega), h.v 1 (by omega)⟩
theorem Two.start {w W : World} (hb : Below w.heap.size w W) (u0 u1 v0 v1 : Int) (t : TypeId) : Two w ((W.alloc (.cells #[.int .u64 u0, .int .u64 u1] t)).alloc (.cells #[.int .u64 v0, .int .u64 v1] t)) W.heap.size (W.heap.size + 1) u0 u1 v0 v1 := by
  have h1 : Below W.heap.size W (W.alloc (.cells #[.int .u64 u0, .int .u64 u1] t)) := (Below.refl _ W).alloc (Nat.le_refl _) _
  have hs : (W.alloc (.cells #[.int .u64 u0, .int .u64 u1] t)).heap.size = W.heap.size + 1 := by simp
  have hu : Row (W.alloc (.cells #[.int .u64 u0, .int .u64 u1] t)) W.heap.size 0 2 (pairF u0 u1) := pair_lit W u0 u1 t
  have huf : Free (W.alloc (.cells #[.int .u64 u0, .int .u64 u1] t)) W.heap.size 0 2 := fun j _ => by rw [Nat.zero_add, World.frozen?_alloc_new]
  generalize W.alloc (.cells #[.int .u64 u0, .int .u64 u1] t) = W1 at h1 hs hu huf ⊢
  have h2 : Below W1.heap.size W1 (W1.alloc (.cells #[.int .u64 v0, .int .u64 v1] t)) := (Below.refl _ W1).alloc (Nat.le_refl _) _
  have hv := pair_lit W1 v0 v1 t
  have hvf : Free (W1.alloc (.cells #[.int .u64 v0, .int .u64 v1] t)) W1.heap.size 0 2 := fun j _ => by rw [Nat.zero_add, World.frozen?_alloc_new]
  rw [hs] at hv hvf h2
  exact ⟨hb.trans ((h1.trans (h2.mono (by omega))).mono hb.size), hu.kept h2 (by omega), huf.kept h2 (by omega), hv, hvf⟩

theorem pair_prQ (a b : Int) (W : World) (h0 : 0 ≤ a) (h1 : a ≤ 18446744073709551615) (g0 : 0 ≤ b) (g1 : b ≤ 18446744073709551615) : Calls Tryd.prog 29 #[.int .u64 a, .int .u64 b] W fun e w' => e = .returned (.int .u64 (prQ a b)) ∧ Below W.heap.size W w' := pair_any a b W h0 h1 g0 g1
theorem Two.drew {w W : World} {ub vb : Nat} {u0 u1 v0 v1 : Int} (h : Two w W ub vb u0 u1 v0 v1) : Two w W.drew ub vb u0 u1 v0 v1 := ⟨h.bel.drew, h.u, h.uf, h.v, h.vf⟩
theorem Two.put {w W : World} {ub vb : Nat} {u0 u1 v0 v1 : Int} (h : Two w W ub vb u0 u1 v0 v1) (hne : ub ≠ vb) (hu : w.heap.size ≤ ub) (hv : w.heap.size ≤ vb) (x0 x1 y0 y1 : Int) :
    Two w ((((W.setCell ⟨ub, 0, none⟩ (.int .u64 x0)).setCell ⟨ub, 1, none⟩ (.int .u64 x1)).setCell ⟨vb, 0, none⟩ (.int .u64 y0)).setCell ⟨vb, 1, none⟩ (.int .u64 y1)) ub vb x0 x1 y0 y1 := by
  have a0 := h.u.store 0 x0 (by omega)
  have a1 := a0.store 1 x1 (by omega)
  rw [Nat.zero_add] at a0 a1
  rw [Nat.zero_add] at a1
  have wu : Wrote ub 0 2 W ((W.setCell ⟨ub, 0, none⟩ (.int .u64 x0)).setCell ⟨ub, 1, none⟩ (.int .u64 x1)) := ((Wrote.refl _ _ _ _).store (by omega) (by omega) _).store (by omega) (by omega) _
  have b0 := (h.v.other wu (Ne.symm hne)).store 0 y0 (by omega)
  have b1 := b0.store 1 y1 (by omega)
  rw [Nat.zero_add] at b0 b1
  rw [Nat.zero_add] at b1
  have uf1 : Free ((W.setCell ⟨ub, 0, none⟩ (.int .u64 x0)).setCell ⟨ub, 1, none⟩ (.int .u64 x1)) ub 0 2 := h.uf.wrote wu
  have vf1 : Free ((W.setCell ⟨ub, 0, none⟩ (.int .u64 x0)).setCell ⟨ub, 1, none⟩ (.int .u64 x1)) vb 0 2 := fun j hj => by rw [World.frozen?_setCell, World.frozen?_setCell]; exact h.vf j hj
  generalize (W.setCell ⟨ub, 0, none⟩ (.int .u64 x0)).setCell ⟨ub, 1, none⟩ (.int .u64 x1) = W1 at a1 wu b0 b1 uf1 vf1 ⊢
  have wv : Wrote vb 0 2 W1 ((W1.setCell ⟨vb, 0, none⟩ (.int .u64 y0)).setCell ⟨vb, 1, none⟩ (.int .u64 y1)) := ((Wrote.refl _ _ _ _).store (by omega) (by omega) _).store (by omega) (by omega) _
  refine ⟨h.bel.trans ((wu.below hu).trans (wv.below hv)), (a1.congr fun j hj => ?_).other wv hne, fun j hj => by rw [World.frozen?_setCell, World.frozen?_setCell]; exact uf1 j hj, b1.congr fun j hj => ?_, vf1.wrote wv⟩
  · match j, hj with
    | 0, _ => rfl
    | 1, _ => rfl
  · match j, hj with
    | 0, _ => rfl
    | 1, _ => rfl
theorem far1 {W : World} {c o b p : Nat} {v x : Value} (h : c ≠ b) (hc : W.cell? ⟨c, o, none⟩ = some v) : (W.setCell ⟨b, p, none⟩ x).cell? ⟨c, o, none⟩ = some v := by
  rw [World.cell?_setCell_other _ _ _ _ (by intro e; simp only [Addr.mk.injEq] at e; exact h e.1.symm)]
  exact hc
theorem cell_drew (W : World) (a : Addr) : W.drew.cell? a = W.cell? a := rfl
theorem far2 {W : World} {c o c' o' b : Nat} {v v' x0 x1 : Value} (h : c ≠ b) (h' : c' ≠ b) (hc : W.cell? ⟨c, o, none⟩ = some v) (hc' : W.cell? ⟨c', o', none⟩ = some v') :
    ((W.setCell ⟨b, 0, none⟩ x0).setCell ⟨b, 1, none⟩ x1).drew.cell? ⟨c, o, none⟩ = some v ∧ ((W.setCell ⟨b, 0, none⟩ x0).setCell ⟨b, 1, none⟩ x1).drew.cell? ⟨c', o', none⟩ = some v' := by
  have e := far1 (p := 1) (x := x1) h (far1 (p := 0) (x := x0) h hc)
  have e' := far1 (p := 1) (x := x1) h' (far1 (p := 0) (x := x0) h' hc')
  rw [cell_drew, cell_drew]
  exact ⟨e, e'⟩
theorem far4 {W : World} {c o c' o' b d : Nat} {v v' x0 x1 y0 y1 : Value} (h : c ≠ b) (g : c ≠ d) (h' : c' ≠ b) (g' : c' ≠ d) (hc : W.cell? ⟨c, o, none⟩ = some v) (hc' : W.cell? ⟨c', o', none⟩ = some v') :
    ((((W.setCell ⟨b, 0, none⟩ x0).setCell ⟨b, 1, none⟩ x1).setCell ⟨d, 0, none⟩ y0).setCell ⟨d, 1, none⟩ y1).drew.cell? ⟨c, o, none⟩ = some v ∧ ((((W.setCell ⟨b, 0, none⟩ x0).setCell ⟨b, 1, none⟩ x1).setCell ⟨d, 0, none⟩ y0).setCell ⟨d, 1, none⟩ y1).drew.cell? ⟨c', o', none⟩ = some v' := by
  have e := far1 (p := 1) (x := y1) g (far1 (p := 0) (x := y0) g (far1 (p := 1) (x := x1) h (far1 (p := 0) (x := x0) h hc)))
  have e' := far1 (p := 1) (x := y1) g' (far1 (p := 0) (x := y0) g' (far1 (p := 1) (x := x1) h' (far1 (p := 0) (x := x0) h' hc')))
  rw [cell_drew, cell_drew]
  exact ⟨e, e'⟩
theorem bit_and (m : Nat) (h : m ≤ 100000) : bits .and .i64 (m : Int) 1 = ((m % 2 : Nat) : Int) := by
  have h1 : (BitVec.ofInt 64 (m : Int)).toNat = m := by
    rw [BitVec.ofInt_natCast, BitVec.toNat_ofNat]; exact Nat.mod_eq_of_lt (by omega)
  have h2 : (BitVec.ofInt 64 (1 : Int)).toNat = 1 := rfl
  have e : m &&& 1 = m % 2 := Nat.and_two_pow_sub_one_eq_mod m 1
  show IntKind.i64.wrap ((BitVec.ofInt 64 (m : Int) &&& BitVec.ofInt 64 (1 : Int)).toNat : Int) = _
  rw [BitVec.toNat_and, h1, h2, e]
  exact IntWalk.i64_in _ (by omega)
theorem mixed_b : Tryd.prog.follows .mixedOrders = true := by kernel_rfl
theorem min3 (lp lq n : Nat) (h : min (min lp lq) 8 = n) (ts : Array TypeId) (t : TypeId) (W : World) : (Builtin.min_ ts t #[.int .i64 (lp : Int), .int .i64 (lq : Int), .int .i64 8]).run Tryd.prog W = .ok (.int .i64 (n : Int)) W := by
  simp [Builtin.min_, Builtin.min2]
  split <;> split <;> omega

set_option maxHeartbeats 8000000 in
set_option maxRecDepth 100000 in
theorem binds_any (T : TreeC) (i a b : Int) (po qo : Option Addr) (lp cp lq cq n : Nat) (p q : Nat → Int) (w : World) (ht : Tab w) (hp : PRow w po lp p) (hpv : Nums p) (hq : PRow w qo lq q) (hqv : Nums q) (hcp : lp ≤ cp) (hcq : lq ≤ cq) (i0 : -9223372036854775808 ≤ i) (i1 : i ≤ 9223372036854775807) (a0 : 0 ≤ a) (a1 : a ≤ 18446744073709551615) (b0 : 0 ≤ b) (b1 : b ≤ 18446744073709551615) (hmin : min (min lp lq) 8 = n) :
    Calls Tryd.prog 6 #[.int .i64 i, .int .u64 a, .int .u64 b, .slice po lp cp, .slice qo lq cq] w fun e w' => e = .returned (.bool true) ∧ Below w.heap.size w w' := by
  have hm3 := min3 lp lq n hmin
  have np : n ≤ lp := by omega
  have nq : n ≤ lq := by omega
  have n8 : n ≤ 8 := by omega
  obtain ⟨N, hN⟩ : ∃ N, N = 2 ^ n := ⟨_, rfl⟩
  have hN1 : 1 ≤ N := by rw [hN]; exact Nat.one_le_two_pow
  have hN2 : N ≤ 256 := by rw [hN]; exact pow_256 n8
  obtain ⟨k, hk⟩ : ∃ k : Nat, i % (N : Int) = (k : Int) := ⟨(i % (N : Int)).toNat, by have := Int.emod_nonneg i (show (N : Int) ≠ 0 by omega); omega⟩
  have hkN : k < N := by have := Int.emod_lt_of_pos i (show (0 : Int) < N by omega); omega
  have HSH : Hid (wrap64 ((2 : Int) ^ n) = (N : Int)) := hid (by rw [hN]; exact shl_one n8)
  have HGR := hid (grown_any T w ht)
  have HRE := hid (fun W => (by have := rest_any i (N : Int) W i0 i1 (by omega) (by omega); rw [hk] at this; exact this : Calls Tryd.prog 23 #[.int .i64 i, .int .i64 (N : Int)] W fun e w' => e = .returned (.int .i64 (k : Int)) ∧ w' = W))
  obtain ⟨X, hX⟩ : ∃ X, climbQ n k a p = X := ⟨_, rfl⟩
  obtain ⟨Y, hY⟩ : ∃ Y, climbQ n k b q = Y := ⟨_, rfl⟩
  have HXU : Hid (upC k a p n = X) := hid (by rw [← hX, climb_up a p n k (by rw [← hN]; exact hkN)])
  have HYU : Hid (upC k b q n = Y) := hid (by rw [← hY, climb_up b q n k (by rw [← hN]; exact hkN)])
  have HC1 := hid (fun W (h : PRow W po n p) => (by have := T.climb_ok n cp k po a p W n8 (by omega) h hpv (by rw [← hN]; exact hkN) a0 a1; rw [hX] at this; exact this : Calls Tryd.prog 26 #[.int .i64 (k : Int), .int .u64 a, .slice po n cp] W fun e w' => e = .returned (.tuple #[.int .u64 X, .int .i64 0]) ∧ Below W.heap.size W w'))
  have HC2 := hid (fun W (h : PRow W qo n q) => (by have := T.climb_ok n cq k qo b q W n8 (by omega) h hqv (by rw [← hN]; exact hkN) b0 b1; rw [hY] at this; exact this : Calls Tryd.prog 26 #[.int .i64 (k : Int), .int .u64 b, .slice qo n cq] W fun e w' => e = .returned (.tuple #[.int .u64 Y, .int .i64 0]) ∧ Below W.heap.size W w'))
  have HP := hid (hp.upto np)
  have HQ := hid (hq.upto nq)
  have HPV := hid hpv
  have HQV := hid hqv
  have e1 : (n : Int) ≤ (cp : Int) := by omega
  have e2 : (n : Int) ≤ (cq : Int) := by omega
  have e3 : (0 : Int) ≤ (n : Int) := by omega
  have HN := hid hN
  clear hp hq hmin hN hX hY hpv hqv hk T ht
  go_enter Tryd.func6, Tryd.ntmps6
  go_wp2_with fail
  refine (HGR.out).mono ?_
  rintro e w1 ⟨rfl, hb⟩
  have HB := hid hb
  clear hb HGR
  go_wp2_with fail
  clear hm3
  go_region_held3 (fun _ => True) (trivial) (fail)
  have hsh := HSH.out
  go_wp2_with fail
  clear hsh
  refine (HRE.out _).mono ?_
  rintro e w2 ⟨rfl, hw⟩
  obtain rfl := hw.symm
  clear HRE
  replace HB := hid HB.out.drew
  go_wp2_with fail
  refine (HC1.out _ (HP.out.kept HB.out)).mono ?_
  rintro e w3 ⟨rfl, hb⟩
  replace HB := hid (HB.out.trans (hb.mono HB.out.size))
  clear hb HC1
  go_wp2_with fail
  refine (HC2.out _ (HQ.out.kept HB.out)).mono ?_
  rintro e w4 ⟨rfl, hb⟩
  replace HB := hid (HB.out.trans (hb.mono HB.out.size))
  clear hb HC2
  by_cases hXY : X = Y
  · subst hXY
    by_cases hab : nrm a = nrm b
    · have hbb : (nrm a == nrm b) = true := beq_iff_eq.2 hab
      clear hab
      go_wp2_with (go_at_call 28; refine (norm_any _ _ (by omega) (by omega)).mono ?_; rintro e w' ⟨rfl, hw⟩; obtain rfl := hw.symm)
      go_ret
      exact ⟨rfl, HB.out⟩
    · have hbb : (nrm a == nrm b) = false := beq_eq_false_iff_ne.2 hab
      have HAB := hid hab
      clear hab
      go_wp2_with (go_at_call 28; refine (norm_any _ _ (by omega) (by omega)).mono ?_; rintro e w' ⟨rfl, hw⟩; obtain rfl := hw.symm)
      have HTW : Hid (Two w ((w4.alloc (.cells #[.int .u64 (nrm a), .int .u64 0] 64)).alloc (.cells #[.int .u64 (nrm b), .int .u64 0] 64)) w4.heap.size (w4.heap.size + 1) (nrm a) 0 (nrm b) 0) := hid (Two.start HB.out _ _ _ _ _)
      have hub : w.heap.size ≤ w4.heap.size := HB.out.size
      obtain ⟨ub, hubb⟩ : ∃ x, w4.heap.size = x := ⟨_, rfl⟩
      rw [hubb] at hub HTW ⊢
      generalize ((w4.alloc (.cells #[.int .u64 (nrm a), .int .u64 0] 64)).alloc (.cells #[.int .u64 (nrm b), .int .u64 0] 64)) = W0 at HTW ⊢
      clear hubb HB
      have HUB := hid hub
      clear hub hbb
      have hra := nrm_rng a
      have hrb := nrm_rng b
      have HS0 : Hid (prQ (nrm a) 0 = upC k a p 0) := hid (prQ_nrm_l a 0)
      have HS1 : Hid (prQ (nrm b) 0 = upC k b q 0) := hid (prQ_nrm_l b 0)
      obtain ⟨na, hna⟩ : ∃ x, nrm a = x := ⟨_, rfl⟩
      obtain ⟨nb, hnb⟩ : ∃ x, nrm b = x := ⟨_, rfl⟩
      rw [hna] at hra HS0 HTW HAB
      rw [hnb] at hrb HS1 HTW HAB
      have HNE : Hid (¬ (na = nb ∧ (0 : Int) = 0)) := hid (fun h => HAB.out h.1)
      clear hna hnb HAB
      go_loopg [77, 19, 20, 21] (n + 1) (fun g x1 x2 x3 x4 wr => ∃ (j : Nat) (u0 u1 v0 v1 : Int), j ≤ n ∧ g = n + 1 - j ∧ x1 = .int .i64 (j : Int) ∧ 0 ≤ u0 ∧ u0 ≤ 18446744073709551615 ∧ 0 ≤ u1 ∧ u1 ≤ 18446744073709551615 ∧ 0 ≤ v0 ∧ v0 ≤ 18446744073709551615 ∧ 0 ≤ v1 ∧ v1 ≤ 18446744073709551615 ∧ Hid (Two w wr ub (ub + 1) u0 u1 v0 v1) ∧ Hid (prQ u0 u1 = upC k a p j) ∧ Hid (prQ v0 v1 = upC k b q j) ∧ Hid (¬ (u0 = v0 ∧ u1 = v1)))
      case atStart => exact ⟨0, na, 0, nb, 0, by omega, rfl, rfl, by omega, by omega, by omega, by omega, by omega, by omega, by omega, by omega, HTW, HS0, HS1, HNE⟩
      case round =>
        clear HTW HS0 HS1 HNE hra hrb
        obtain ⟨j, u0, u1, v0, v1, hj, rfl, rfl, u00, u01, u10, u11, v00, v01, v10, v11, HTW, HS0, HS1, HNE⟩ := hrel
        obtain ⟨c0, c1, c2, c3⟩ := HTW.out.cells
        obtain ⟨s, hs⟩ : ∃ s, prQ u0 u1 = s := ⟨_, rfl⟩
        obtain ⟨t, hst⟩ : ∃ t, prQ v0 v1 = t := ⟨_, rfl⟩
        have sr := prQ_rng u0 u1
        have tr := prQ_rng v0 v1
        rw [hs] at HS0 sr
        rw [hst] at HS1 tr
        have j1 : (j : Int) < (n : Int) + 1 := by omega
        go_wp2_with fail
        go_region_held3 (fun w' => w'.cell? ⟨ub, 0, none⟩ = some (.int .u64 u0) ∧ w'.cell? ⟨ub, 1, none⟩ = some (.int .u64 u1) ∧ w'.cell? ⟨ub + 1, 0, none⟩ = some (.int .u64 v0) ∧ w'.cell? ⟨ub + 1, 1, none⟩ = some (.int .u64 v1)) (first | assumption | exact HTW.out.cells | go_keep) (first | (go_at_call 29; refine (pair_prQ _ _ _ (by assumption) (by assumption) (by assumption) (by assumption)).mono ?_; rintro e w5 ⟨rfl, hb⟩; have HT5 : Hid (Two w w5 ub (ub + 1) u0 u1 v0 v1) := hid (by first | exact HT5.out.next hb | exact HTW.out.next hb | exact HTW.out.next ((Below.refl _ wr).drew.trans hb)); have hc5 := HT5.out.cells; clear hb))
        all_goals (have HT6 := HT5; clear HTW c0 c1 c2 c3)
        obtain ⟨c0, c1, c2, c3⟩ := HT6.out.cells
        clear hc5
        have huv := arr_ne HNE.out u00 u01 u10 u11 v00 v01 v10 v11
        by_cases hsteq : s = t
        · have hsb : (s == t) = true := beq_iff_eq.2 hsteq
          clear hs hst hsteq
          go_wp2_with fail
          go_ret
          exact ⟨rfl, HT6.out.bel⟩
        · have hsb : (s == t) = false := beq_eq_false_iff_ne.2 hsteq
          have hjn : j < n := by
            by_cases h : j < n
            · exact h
            · have e : j = n := by omega
              subst e
              exact absurd (by rw [HS0.out, HS1.out, HXU.out, HYU.out]) hsteq
          have HNS := hid hsteq
          have j2 : (j : Int) < (n : Int) := by omega
          have j3 : (0 : Int) ≤ (j : Int) := by omega
          obtain ⟨pb, poff, hpa, hpr⟩ := HP.out (by omega)
          obtain ⟨qb, qoff, hqa, hqr⟩ := HQ.out (by omega)
          subst hpa
          subst hqa
          have cp1 := (hpr.kept HT6.out.bel (hpr.lt (by omega))) j hjn
          have cq1 := (hqr.kept HT6.out.bel (hqr.lt (by omega))) j hjn
          have pv := HPV.out j
          have qv := HQV.out j
          obtain ⟨pj, hpj⟩ : ∃ x, p j = x := ⟨_, rfl⟩
          obtain ⟨qj, hqj⟩ : ∃ x, q j = x := ⟨_, rfl⟩
          rw [hpj] at cp1 pv
          rw [hqj] at cq1 qv
          obtain ⟨pv0, pv1⟩ := pv
          obtain ⟨qv0, qv1⟩ := qv
          have f0 := HT6.out.uf 0 (by omega)
          have f1 := HT6.out.uf 1 (by omega)
          have f2 := HT6.out.vf 0 (by omega)
          have f3 := HT6.out.vf 1 (by omega)
          rw [Nat.zero_add] at f0 f1 f2 f3
          have HPJ := hid (And.intro hpj hqj)
          have HLP := hid (hpr.lt (by omega))
          have HLQ := hid (hqr.lt (by omega))
          clear hs hst hsteq hpr hqr hpj hqj
          go_wp2_with fail
          have n1 : pb ≠ ub := by have := HUB.out; have := HLP.out; omega
          have n2 : pb ≠ ub + 1 := by have := HUB.out; have := HLP.out; omega
          have n3 : qb ≠ ub := by have := HUB.out; have := HLQ.out; omega
          have n4 : qb ≠ ub + 1 := by have := HUB.out; have := HLQ.out; omega
          go_region_held3 (fun w' => w'.cell? ⟨pb, poff + j, none⟩ = some (.int .u64 pj) ∧ w'.cell? ⟨qb, qoff + j, none⟩ = some (.int .u64 qj)) (first | assumption | exact ⟨cp1, cq1⟩ | exact far2 n1 n3 cp1 cq1 | exact far4 n1 n2 n3 n4 cp1 cq1 | go_keep) (first
            | (go_at_call 28; refine (norm_any _ _ (by assumption) (by assumption)).mono ?_; rintro e w' ⟨rfl, hw⟩; obtain rfl := hw.symm))
          have HPUT : Hid (Two w (((((w5.setCell ⟨ub, 0, none⟩ (.int .u64 s)).setCell ⟨ub, 1, none⟩ (.int .u64 (nrm pj))).setCell ⟨ub + 1, 0, none⟩ (.int .u64 t)).setCell ⟨ub + 1, 1, none⟩ (.int .u64 (nrm qj))).drew) ub (ub + 1) s (nrm pj) t (nrm qj)) := hid ((HT6.out.put (by omega) HUB.out (by have := HUB.out; omega) s (nrm pj) t (nrm qj)).drew)
          obtain ⟨pr0, pr1⟩ := nrm_rng pj
          obtain ⟨qr0, qr1⟩ := nrm_rng qj
          obtain ⟨m, hm⟩ : ∃ m : Nat, k / 2 ^ j = m := ⟨_, rfl⟩
          have hmk : m ≤ 100000 := by rw [← hm]; exact Nat.le_trans (Nat.div_le_self _ _) (by omega)
          have hmi : (k : Int) / 2 ^ j = (m : Int) := by rw [← hm]; simp
          have hba := bit_and m hmk
          by_cases hbit : m % 2 = 1
          · rw [hbit] at hba
            have hbt : (bits .and .i64 (m : Int) 1 == 1) = true := by rw [hba]; rfl
            have HU1 : Hid (prQ (nrm pj) s = upC k a p (j + 1)) := hid (by rw [upC, hm, if_neg (by omega), HPJ.out.1, ← HS0.out, prQ_nrm_l])
            have HV1 : Hid (prQ (nrm qj) t = upC k b q (j + 1)) := hid (by rw [upC, hm, if_neg (by omega), HPJ.out.2, ← HS1.out, prQ_nrm_l])
            clear hba hbit hm
            obtain ⟨np1, hnp1⟩ : ∃ x, nrm pj = x := ⟨_, rfl⟩
            obtain ⟨nq1, hnq1⟩ : ∃ x, nrm qj = x := ⟨_, rfl⟩
            rw [hnp1] at HPUT HU1 pr0 pr1 ⊢
            rw [hnq1] at HPUT HV1 qr0 qr1 ⊢
            generalize (((((w5.setCell ⟨ub, 0, none⟩ (.int .u64 s)).setCell ⟨ub, 1, none⟩ (.int .u64 np1)).setCell ⟨ub + 1, 0, none⟩ (.int .u64 t)).setCell ⟨ub + 1, 1, none⟩ (.int .u64 nq1)).drew) = W7 at HPUT ⊢
            clear c0 c1 c2 c3 f0 f1 f2 f3 cp1 cq1 HT6 HT5 hnp1 hnq1
            obtain ⟨c0, c1, c2, c3⟩ := HPUT.out.cells
            have f0 := HPUT.out.uf 0 (by omega)
            have f1 := HPUT.out.uf 1 (by omega)
            have f2 := HPUT.out.vf 0 (by omega)
            have f3 := HPUT.out.vf 1 (by omega)
            rw [Nat.zero_add] at f0 f1 f2 f3
            have HSW : Hid (Two w (((((W7.setCell ⟨ub, 0, none⟩ (.int .u64 np1)).setCell ⟨ub, 1, none⟩ (.int .u64 s)).setCell ⟨ub + 1, 0, none⟩ (.int .u64 nq1)).setCell ⟨ub + 1, 1, none⟩ (.int .u64 t)).drew) ub (ub + 1) np1 s nq1 t) := hid ((HPUT.out.put (by omega) HUB.out (by have := HUB.out; omega) np1 s nq1 t).drew)
            go_wp2_with fail
            have HRG : Hid (0 ≤ np1 ∧ np1 ≤ 18446744073709551615 ∧ 0 ≤ s ∧ s ≤ 18446744073709551615 ∧ 0 ≤ nq1 ∧ nq1 ≤ 18446744073709551615 ∧ 0 ≤ t ∧ t ≤ 18446744073709551615) := hid (by omega)
            have HJ := hid hjn
            have hj8 : j ≤ 100 := by omega
            clear hbt hmk hmi HPUT pr0 pr1 qr0 qr1 sr tr n1 n2 n3 n4 j1 j2 j3 hjn hj huv hsb pv0 pv1 qv0 qv1 u00 u01 u10 u11 v00 v01 v10 v11 HS0 HS1 HNE HPJ HLP HLQ HUB HXU HYU HPV HQV HP HQ HN HSH e1 e2 e3 hcp hcq i0 i1 a0 a1 b0 b1 np nq n8 hN1 hN2 hkN
            go_region_with (first | fail)
            all_goals (go_wp2_with fail)
            all_goals (go_roundg (n + 1 - (j + 1)))
            all_goals first | (have := HJ.out; go_light; omega) | exact ⟨j + 1, np1, s, nq1, t, by have := HJ.out; omega, rfl, by go_num, HRG.out.1, HRG.out.2.1, HRG.out.2.2.1, HRG.out.2.2.2.1, HRG.out.2.2.2.2.1, HRG.out.2.2.2.2.2.1, HRG.out.2.2.2.2.2.2.1, HRG.out.2.2.2.2.2.2.2, HSW, HU1, HV1, hid (fun h => HNS.out h.2)⟩
          · have hbit0 : m % 2 = 0 := by omega
            rw [hbit0] at hba
            have hbt : (bits .and .i64 (m : Int) 1 == 1) = false := by rw [hba]; rfl
            have HU1 : Hid (prQ s (nrm pj) = upC k a p (j + 1)) := hid (by rw [upC, hm, if_pos hbit0, HPJ.out.1, ← HS0.out, prQ_nrm_r])
            have HV1 : Hid (prQ t (nrm qj) = upC k b q (j + 1)) := hid (by rw [upC, hm, if_pos hbit0, HPJ.out.2, ← HS1.out, prQ_nrm_r])
            clear hba hbit hm hbit0
            go_wp2_with fail
            go_roundg (n + 1 - (j + 1))
            case measure => go_light; omega
            case rel => exact ⟨j + 1, s, nrm pj, t, nrm qj, by omega, rfl, by go_num, by omega, by omega, by omega, by omega, by omega, by omega, by omega, by omega, HPUT, HU1, HV1, hid (fun h => HNS.out h.1)⟩
  · have hxb : (X != Y) = true := bne_iff_ne.2 hXY
    clear hXY
    go_wp2_with fail
    go_ret
    exact ⟨rfl, HB.out⟩

end Go.Proofs.YtmjpcmeinlkfbaaDoor
