/-
  A contract of the law CircuitLayers, for every circuit and all lists: it answers true.
-/
import Derived.Test.YtoogpkcpheannafCircR2
import Derived.Test.YtoogpkcpheannafTiny
import Derived.Test.YtoogpkcpheannafKeep
import Derived.Test.YtoogpkcpheannafEqual
import Derived.Deep.RegionHeld3
namespace Go.Proofs.Ytoogpkcpheannaf
open Go.RowKit
set_option linter.unusedVariables false
attribute [local go_sem ↓] Go.wp_at_zero Go.wp_at_succ

/-- What holds of the world all along. -/
structure StL (w W : World) (B : Nat) (g : Int) (v : Value) : Prop where
  bel : Below w.heap.size w W
  box : Box2 W B (.int .i64 g) v
theorem StL.next {w W W' : World} {B : Nat} {g : Int} {v : Value} (h : StL w W B g v) (hb : Below W.heap.size W W') : StL w W' B g v := ⟨h.bel.trans (hb.mono h.bel.size), h.box.kept hb⟩
theorem StL.start (w : World) (g : Int) (v : Value) (t : TypeId) : StL w (w.alloc (.cells #[.int .i64 g, v] t)) w.heap.size g v := ⟨(Below.refl _ w).alloc (Nat.le_refl _) _, Box2.new w _ _ _⟩
/-- A list of two numbers that is written out. -/
def twoF (x y : Int) (j : Nat) : Int := if j = 0 then x else y
theorem row_two (w : World) (x y : Int) (t : TypeId) : Row (w.alloc (.cells #[.int .u64 x, .int .u64 y] t)) w.heap.size 0 2 (twoF x y) := fun j hj => by
  rw [Nat.zero_add, World.cell?_alloc_new]
  match j, hj with
  | 0, _ => rfl
  | 1, _ => rfl
theorem tiny_vals : ∀ j, j < 2 → valsQ tinyQ (twoF 3 4) 1 j = twoF 12 7 j := fun j hj => by
  match j, hj with
  | 0, _ => decide
  | 1, _ => decide

theorem layersR_take : ∀ (ls : List LQ) (k : Int) (m : Nat), layersR k ls → layersR k (ls.take m)
  | _, _, 0, _ => by simp [layersR]
  | [], _, m + 1, _ => by simp [layersR]
  | l :: r, k, m + 1, h => ⟨h.1, layersR_take r l.log m h.2⟩
theorem right_take {c : CQ} (h : c.right) (m : Nat) (hm : 1 ≤ m) : CQ.right ⟨c.log, c.layers.take m⟩ :=
  ⟨h.log, fun e => by have h1 := h.some; have e2 : c.layers.take m = [] := e; rcases List.take_eq_nil_iff.1 e2 with h2 | h2; omega; exact h1 h2, by show (c.layers.take m).length ≤ 4; rw [List.length_take]; have := h.few; omega, layersR_take _ _ _ h.each⟩
theorem lenQ_take (c : CQ) (m : Nat) : ∀ i, i ≤ m → lenQ ⟨c.log, c.layers.take m⟩ i = lenQ c i := fun i hi => by
  unfold lenQ
  congr 2
  cases i with
  | zero => rfl
  | succ i => simp only [belowQ]; rw [List.getElem?_take_of_lt (by omega)]
theorem crow_take {w : World} {ao : Option Addr} {ls : List LQ} {A : Nat → Option Addr} {C : Nat → Nat} (h : CRow w ao ls A C) (m : Nat) (hm : 1 ≤ m) : CRow w ao (ls.take m) A C := fun hn => by
  obtain ⟨b, off, e, hr⟩ := h (fun e => hn (by rw [e]; simp))
  refine ⟨b, off, e, fun i l hl => hr i l ?_⟩
  rw [List.getElem?_take] at hl
  split at hl
  · exact hl
  · cases hl

set_option maxHeartbeats 4000000 in
set_option maxRecDepth 100000 in
theorem layl_any (c : CQ) (g : Int) (ao : Option Addr) (n cap : Nat) (A : Nat → Option Addr) (C : Nat → Nat) (aa ab : Option Addr) (la ca lb cb : Nat) (fa fb : Nat → Int) (k : Int) (w : World) (hg : c.log = g) (hn : c.layers.length = n) (hcap : n ≤ cap) (hr : CRow w ao c.layers A C) (ha : PRow w aa la fa) (hfa : Nums fa) (hb : PRow w ab lb fb) (hfb : Nums fb) (k0 : -9223372036854775808 ≤ k) (k1 : k ≤ 9223372036854775807) :
    Calls Try.prog 3 #[.agg #[.int .i64 g, .slice ao n cap], .slice aa la ca, .slice ab lb cb, .int .i64 k] w fun e w' => e = .returned (.bool true) ∧ Below w.heap.size w w' := by
  have HR := hid hr
  have HG := hid hg
  have HN := hid hn
  have HA := hid ha
  have HFA := hid hfa
  have HB := hid hb
  have HFB := hid hfb
  have HK := hid (And.intro k0 k1)
  have HS0 := hid (StL.start w g (.slice ao n cap) 24)
  clear hr hg hn ha hfa hb hfb k0 k1
  go_enter Try.func3, Try.ntmps3
  go_wp2_with fail
  obtain ⟨B, hB⟩ : ∃ B, w.heap.size = B := ⟨_, rfl⟩
  have HBE := hid hB
  have HS1 : Hid (StL w (w.alloc (.cells #[.int .i64 g, .slice ao n cap] 24)) B g (.slice ao n cap)) := hid (by rw [← hB]; exact HS0.out)
  rw [hB]
  clear hB HS0
  generalize w.alloc (.cells #[.int .i64 g, .slice ao n cap] 24) = W1 at HS1 ⊢
  refine (tiny_any W1).mono ?_
  rintro e w1 ⟨tb, tA, tC, rfl, htr, hb⟩
  have hal := (Below.refl w1.heap.size w1).alloc (Nat.le_refl _) (.cells #[.int .u64 3, .int .u64 4] 31)
  have HRT := hid (run_ok tinyQ 1 tb 0 1 1 tA tC w1.heap.size 0 2 2 (twoF 3 4) _ rfl rfl (htr.kept hal) tiny_right (by rw [shl_pow (by omega)]) (by rfl) (by omega) (by omega) (row_two w1 3 4 31) (fun j => by unfold twoF; split <;> omega))
  have HS2 := hid ((HS1.out.next hb).next hal)
  clear hb htr HS1 hal
  go_wp2_with fail
  refine (HRT.out).mono ?_
  rintro e w2 ⟨V, D, rfl, hout⟩
  have HS3 := hid (HS2.out.next hout.below)
  have cl : w2.cell? ⟨V, 1, none⟩ = some (.slice (some ⟨D 1, 0, none⟩) 2 2) := hout.cell 1 (by omega)
  have HRW : Hid (Row w2 (D 1) 0 2 (valsQ tinyQ (twoF 3 4) 1)) := hid (hout.row 1 (by omega))
  have hal := (Below.refl w2.heap.size w2).alloc (Nat.le_refl _) (.cells #[.int .u64 12, .int .u64 7] 31)
  have HEQ := hid (equal_ok (some ⟨D 1, 0, none⟩) (some ⟨w2.heap.size, 0, none⟩) 2 2 2 _ _ _ (by omega) ((PRow.of HRW.out).kept hal) (PRow.of (row_two w2 12 7 31)) tiny_vals)
  have HS4 := hid (HS3.out.next hal)
  clear hout HRT HS2 HRW hal HS3
  go_wp2_with fail
  refine (HEQ.out).mono ?_
  rintro e w3 ⟨rfl, hb⟩
  have HS5 := hid (HS4.out.next hb)
  clear hb HS4 HEQ cl
  obtain ⟨z0, z1, zl⟩ := HS5.out.box
  go_wp2_with fail
  refine (check_any c g ao n cap A C w3 HG.out HN.out (HR.out.kept HS5.out.bel)).mono ?_
  rintro e w4 ⟨y, rfl, hy, hb⟩
  have HY := hid hy
  have HS6 := hid (HS5.out.next hb)
  clear hb hy HS5 z0 z1 zl
  obtain ⟨z0, z1, zl⟩ := HS6.out.box
  by_cases h0 : y = 0
  · subst h0
    have HC := hid (checkE_zero.1 HY.out)
    obtain ⟨b, off, rfl, _⟩ := HR.out HC.out.some
    have hlog := HC.out.log
    rw [HG.out] at hlog
    obtain ⟨gn, rfl⟩ : ∃ q : Nat, g = (q : Int) := ⟨g.toNat, by omega⟩
    have g4 : gn ≤ 4 := by omega
    have hlen : lenQ c 0 = 2 ^ gn := by rw [lenQ, belowQ, HG.out]; simp
    have hrn := lenQ_rng HC.out 0 (Nat.zero_le _)
    have shN := shl_pow (k := gn) (by omega)
    have n4 : n ≤ 4 := by have := HC.out.few; rw [HN.out] at this; exact this
    have n1 : 1 ≤ n := by have := List.length_pos_iff.2 HC.out.some; rw [HN.out] at this; exact this
    obtain ⟨N, hN⟩ : ∃ N, 2 ^ gn = N := ⟨_, rfl⟩
    rw [hN] at hlen shN
    rw [hlen] at hrn
    obtain ⟨N1, N16⟩ := hrn
    have HLN := hid hlen
    have HSH := hid shN
    have shN2 : IntKind.i64.wrap ((2 : Int) ^ gn) = (N : Int) := by rw [IntWalk.i64_left]; exact shN
    clear hlog hlen hN
    go_wp2_with fail
    have mark : Hid True := hid trivial
    go_region_held3 (fun W => W.cell? ⟨B, 0, none⟩ = some (.int .i64 (gn : Int))) (first | assumption | exact z0 | exact zx | exact zy) (first | (go_at_call 8; first | (clear mark; refine (point_any aa la ca N fa _ (by omega) (HA.out.kept HS6.out.bel.drew)).mono ?_; rintro e w5 ⟨rfl, hm⟩; have HMX : Hid (Made w4 w5 N (padF la fa)) := hid ⟨(Below.refl _ w4).drew.trans hm.below, hm.row, hm.free⟩; have HSX := hid (HS6.out.next HMX.out.below); have zx := HSX.out.box.c0; clear hm) | (refine (point_any ab lb cb N fb _ (by omega) (HB.out.kept HSX.out.bel)).mono ?_; rintro e w6 ⟨rfl, hm⟩; have HMY : Hid (Made w5 w6 N (padF lb fb)) := hid ⟨hm.below, hm.row, hm.free⟩; have HSY := hid (HSX.out.next HMY.out.below); have zy := HSY.out.box.c0; clear hm)))
    clear z0 z1 zl zx zy
    have HXR := hid (HMX.out.row.kept HMY.out.below (by have := HMX.out.row.lt (by omega); exact this))
    have HYR := hid HMY.out.row
    have HXF := hid (Nums_pad HFA.out la)
    have HYF := hid (Nums_pad HFB.out lb)
    obtain ⟨xb, hxb⟩ : ∃ x, w4.heap.size = x := ⟨_, rfl⟩
    obtain ⟨yb, hyb⟩ : ∃ x, w5.heap.size = x := ⟨_, rfl⟩
    obtain ⟨fx, hfx⟩ : ∃ x, padF la fa = x := ⟨_, rfl⟩
    obtain ⟨fy, hfy⟩ : ∃ x, padF lb fb = x := ⟨_, rfl⟩
    rw [hxb, hfx] at HXR
    rw [hyb, hfy] at HYR
    rw [hfx] at HXF
    rw [hfy] at HYF
    rw [hxb, hyb]
    clear hxb hyb hfx hfy HMX HMY HSX HA HB HFA HFB HS6
    obtain ⟨z0, z1, zl⟩ := HSY.out.box
    go_wp2_with fail
    refine (run_ok c gn b off n cap A C xb 0 N N fx w6 HG.out HN.out (HR.out.kept HSY.out.bel) HC.out HSH.out HLN.out N16 N1 HXR.out HXF.out).mono ?_
    rintro e w7 ⟨VL, DL, rfl, hout⟩
    have HS7 := hid (HSY.out.next hout.below)
    have HOL := hid hout
    have HXR7 := hid (HXR.out.kept hout.below (HXR.out.lt (by omega)))
    have HYR7 := hid (HYR.out.kept hout.below (HYR.out.lt (by omega)))
    clear hout HXR HYR HSY z0 z1 zl
    obtain ⟨z0, z1, zl⟩ := HS7.out.box
    go_wp2_with fail
    refine (rest_any k (n : Int) w7 HK.out.1 HK.out.2 (by omega) (by omega)).mono ?_
    rintro e w7' ⟨rfl, hw⟩
    obtain rfl := hw.symm
    have q0 := Int.emod_nonneg k (show (n : Int) ≠ 0 by omega)
    have q1 := Int.emod_lt_of_pos k (show (0 : Int) < (n : Int) by omega)
    obtain ⟨q, hq⟩ : ∃ q, k % (n : Int) = q := ⟨_, rfl⟩
    rw [hq] at q0 q1 ⊢
    obtain ⟨m, hm⟩ : ∃ m : Nat, 1 + q = (m : Int) := ⟨(1 + q).toNat, by omega⟩
    have HQM := hid hm
    have m1 : 1 ≤ m := by omega
    have mn : m ≤ n := by omega
    clear hm hq
    go_wp2_with fail
    rw [HQM.out]
    have mc0 : (0 : Int) ≤ (m : Int) := by omega
    have mc1 : (m : Int) ≤ (cap : Int) := by omega
    have HD := hid (right_take HC.out m m1)
    have HDL := hid (lenQ_take c m)
    have HRD := hid (crow_take HR.out m m1)
    have HND : Hid ((c.layers.take m).length = m) := hid (by rw [List.length_take, HN.out]; omega)
    go_region_held3 (fun W => W.cell? ⟨B, 0, none⟩ = some (.int .i64 (gn : Int)) ∧ W.cell? ⟨B, 1, none⟩ = some (.slice (some ⟨b, off, none⟩) n cap)) (first | assumption | exact ⟨z0, z1⟩ | exact hz8) (first | (go_at_call 4; refine (run_ok ⟨c.log, c.layers.take m⟩ gn b off m cap A C xb 0 N N fx _ HG.out HND.out (HRD.out.kept HS7.out.bel.drew) HD.out HSH.out ((HDL.out 0 (by omega)).trans HLN.out) N16 N1 HXR7.out HXF.out).mono ?_; rintro e w8 ⟨VP, DP, rfl, hout8⟩; have hb8 : Below w7.heap.size w7 w8 := (Below.refl _ w7).drew.trans hout8.below; have HS8 := hid (HS7.out.next hb8); have hz8 : w8.cell? ⟨B, 0, none⟩ = some (.int .i64 (gn : Int)) ∧ w8.cell? ⟨B, 1, none⟩ = some (.slice (some ⟨b, off, none⟩) n cap) := ⟨HS8.out.box.c0, HS8.out.box.c1⟩))
    have HOP := hid hout8
    have HOL8 := hid (HOL.out.kept hb8)
    have HXR8 := hid (HXR7.out.kept hb8 (HXR7.out.lt (by omega)))
    have HYR8 := hid (HYR7.out.kept hb8 (HYR7.out.lt (by omega)))
    clear hout8 hb8 hz8 HOL HXR7 HYR7 HS7 z0 z1 zl HRD
    obtain ⟨Lm, hLm⟩ : ∃ x, lenQ c m = x := ⟨_, rfl⟩
    have L16 := (lenQ_rng HC.out m (by rw [HN.out]; exact mn)).2
    rw [hLm] at L16
    have cp := HOP.out.cell m (by omega)
    have cl := HOL8.out.cell m (by omega)
    have rp := PRow.of (HOP.out.row m (by omega))
    have rl := PRow.of (HOL8.out.row m (by omega))
    have hLd : lenQ ⟨c.log, c.layers.take m⟩ m = Lm := (HDL.out m (Nat.le_refl _)).trans hLm
    rw [hLd] at cp rp
    rw [hLm] at cl rl
    obtain ⟨dp, hdp⟩ : ∃ x, DP m = x := ⟨_, rfl⟩
    obtain ⟨dl, hdl⟩ : ∃ x, DL m = x := ⟨_, rfl⟩
    rw [hdp] at cp rp
    rw [hdl] at cl rl
    have HRP := hid rp
    have HRL := hid rl
    have HVP : Hid (valsQ ⟨c.log, c.layers.take m⟩ fx m = valsQ c fx m) := hid (vals_part c ⟨c.log, c.layers.take m⟩ fx m (fun i hi => by show (c.layers.take m)[i]? = _; rw [List.getElem?_take_of_lt hi]) m (Nat.le_refl _))
    clear hLm hLd hdp hdl rp rl
    have mb1 : (m : Int) < (m : Int) + 1 := by omega
    have mb2 : (m : Int) < (n : Int) + 1 := by omega
    go_wp2_with fail
    go_region_held3 (fun W => W.cell? ⟨VP, m, none⟩ = some (.slice (some ⟨dp, 0, none⟩) Lm Lm) ∧ W.cell? ⟨VL, m, none⟩ = some (.slice (some ⟨dl, 0, none⟩) Lm Lm)) (first | assumption | exact ⟨cp, cl⟩ | exact hz9) (first | (go_at_call 6; refine (equal_ok _ _ Lm Lm Lm _ _ _ (by omega) (HRP.out.kept (Below.refl _ w8).drew) (HRL.out.kept (Below.refl _ w8).drew) (fun j _ => by rw [HVP.out])).mono ?_; rintro e w9 ⟨rfl, hb⟩; have hb9 : Below w8.heap.size w8 w9 := (Below.refl _ w8).drew.trans hb; have hz9 : w9.cell? ⟨VP, m, none⟩ = some (.slice (some ⟨dp, 0, none⟩) Lm Lm) ∧ w9.cell? ⟨VL, m, none⟩ = some (.slice (some ⟨dl, 0, none⟩) Lm Lm) := ⟨(hb9.cell HOP.out.lt).trans cp, (hb9.cell HOL8.out.lt).trans cl⟩; clear hb))
    have HS9 := hid (HS8.out.next hb9)
    have HOL9 := hid (HOL8.out.kept hb9)
    have HXR9 := hid (HXR8.out.kept hb9 (HXR8.out.lt (by omega)))
    have HYR9 := hid (HYR8.out.kept hb9 (HYR8.out.lt (by omega)))
    clear hz9 hb9 HOL8 HXR8 HYR8 HS8 HOP HRP HRL HVP cp cl HDL HD HND HQM mb1 mb2 mc0 mc1 q0 q1
    obtain ⟨z0, z1, zl⟩ := HS9.out.box
    go_wp2_with fail
    have HC0 := hid (Below.refl w9.heap.size w9)
    go_loopg [124] n (fun g i wr => ∃ t : Nat, t ≤ n ∧ g = n - t ∧ i = .int .i64 (t : Int) ∧ Hid (Below w9.heap.size w9 wr) ∧ Hid (∀ j, j < t → ∀ l, c.layers[j]? = some l → ∀ q ∈ l.gates, q.mul = false))
    case atStart => exact ⟨0, by omega, rfl, rfl, HC0, hid (fun j hj => absurd hj (by omega))⟩
    case round =>
      clear HC0
      obtain ⟨t, ht, rfl, rfl, HBW, HAL⟩ := hrel
      by_cases htl : t < n
      · obtain ⟨l, hl⟩ : ∃ x, c.layers[t]? = some x := ⟨c.layers[t]'(by rw [HN.out]; exact htl), by simp⟩
        have HSW := hid (HS9.out.next HBW.out)
        obtain ⟨b2, off2, eb, hlc⟩ := HR.out.kept HSW.out.bel HC.out.some
        cases eb
        obtain ⟨l0, l1, l2, _⟩ := hlc t l hl
        rw [Nat.mul_comm 2 t] at l0 l1
        have hl16 := (right_small HC.out l (List.mem_of_getElem? hl)).2.1
        obtain ⟨lg, hlg⟩ : ∃ x, l.gates.length = x := ⟨_, rfl⟩
        obtain ⟨ll, hll⟩ : ∃ x, l.log = x := ⟨_, rfl⟩
        obtain ⟨gA, hgA⟩ : ∃ x, A t = x := ⟨_, rfl⟩
        obtain ⟨gC, hgC⟩ : ∃ x, C t = x := ⟨_, rfl⟩
        rw [hlg, hgA, hgC] at l1
        rw [hll] at l0
        rw [hgA] at l2
        rw [hlg] at hl16
        have HGR := hid l2
        have HL := hid hl
        have HLG := hid hlg
        clear hlc hl hlg hll hgA hgC l2
        have t0 : (0 : Int) ≤ (t : Int) := by omega
        have t1 : (t : Int) < (n : Int) := by omega
        go_wp2_with fail
        have HBA := hid ((Below.refl wr.heap.size wr).alloc (Nat.le_refl _) (.cells #[.int .i64 ll, .slice gA lg gC] 38))
        obtain ⟨qb, hqb⟩ : ∃ x, wr.heap.size = x := ⟨_, rfl⟩
        clear l0 l1 t0 t1
        generalize wr.alloc (.cells #[.int .i64 ll, .slice gA lg gC] 38) = W9 at HBA ⊢
        go_loopg [131] lg (fun g i wq => ∃ u : Nat, u ≤ lg ∧ g = lg - u ∧ i = .int .i64 (u : Int) ∧ Hid (Below wr.heap.size wr wq) ∧ Hid (∀ j, j < u → ∀ q, l.gates[j]? = some q → q.mul = false))
        case atStart => exact ⟨0, by omega, rfl, rfl, HBA, hid (fun j hj => absurd hj (by omega))⟩
        case round =>
          clear HBA
          obtain ⟨u, hu, rfl, rfl, HBQ, HAQ⟩ := hrel
          by_cases hul : u < lg
          · obtain ⟨x, hx⟩ : ∃ x, l.gates[u]? = some x := ⟨l.gates[u]'(by rw [HLG.out]; exact hul), by simp⟩
            obtain ⟨gb, go, rfl, hgc⟩ := HGR.out.kept HBQ.out (by intro e; have := HLG.out; rw [e] at this; simp at this; omega)
            obtain ⟨q0, q1, q2⟩ := hgc u x hx
            rw [Nat.mul_comm 3 u] at q0 q1 q2
            obtain ⟨xm, hxm⟩ : ∃ v, x.mul = v := ⟨_, rfl⟩
            rw [hxm] at q0
            have HX := hid hx
            have HXM := hid hxm
            obtain ⟨xa, hxa⟩ : ∃ v, x.a = v := ⟨_, rfl⟩
            obtain ⟨xc, hxc⟩ : ∃ v, x.b = v := ⟨_, rfl⟩
            rw [hxa] at q1
            rw [hxc] at q2
            clear hgc hx hxm hxa hxc
            have u0 : (0 : Int) ≤ (u : Int) := by omega
            have u1 : (u : Int) < (lg : Int) := by omega
            cases xm with
            | true =>
              have HBE := hid (HSW.out.bel.trans ((HBQ.out.alloc HBQ.out.size (.cells #[.bool true, .int .i64 xa, .int .i64 xc] 40)).mono HSW.out.bel.size))
              go_wp2_with fail
              go_ret
              exact ⟨rfl, HBE.out⟩
            | false =>
              have HBN := hid (HBQ.out.alloc HBQ.out.size (.cells #[.bool false, .int .i64 xa, .int .i64 xc] 40))
              go_wp2_with fail
              go_roundg (lg - (u + 1))
              case measure => go_light; omega
              case rel =>
                refine ⟨u + 1, by omega, rfl, by go_num, HBN, hid (fun j hj q hq => ?_)⟩
                by_cases e : j = u
                · subst e
                  rw [HX.out] at hq
                  injection hq with hq
                  subst hq
                  exact HXM.out
                · exact HAQ.out j (by omega) q hq
          · have e : u = lg := by omega
            subst e
            have HBN := hid (HBW.out.trans (HBQ.out.mono HBW.out.size))
            have HAN : Hid (∀ j, j < t + 1 → ∀ l, c.layers[j]? = some l → ∀ q ∈ l.gates, q.mul = false) := hid fun j hj l' hl' q hq => by
              by_cases e : j = t
              · subst e
                rw [HL.out] at hl'
                injection hl' with hl'
                subst hl'
                obtain ⟨i, hi, he⟩ := List.getElem_of_mem hq
                exact HAQ.out i (by rw [← HLG.out]; exact hi) q (by rw [← he]; simp)
              · exact HAL.out j (by omega) l' hl' q hq
            clear HBQ HAQ HGR HL HSW
            go_wp2_with fail
            go_roundg (n - (t + 1))
            case measure => go_light; omega
            case rel => exact ⟨t + 1, by omega, rfl, by go_num, HBN, HAN⟩
      · have e : t = n := by omega
        subst e
        have HSA := hid (HS9.out.next HBW.out)
        have HXA := hid (HXR9.out.kept HBW.out (HXR9.out.lt (by omega)))
        have HYA := hid (HYR9.out.kept HBW.out (HYR9.out.lt (by omega)))
        have HOA := hid (HOL9.out.kept HBW.out)
        have HAD : Hid (∀ l ∈ c.layers, ∀ q ∈ l.gates, q.mul = false) := hid fun l hl q hq => by
          obtain ⟨i, hi, he⟩ := List.getElem_of_mem hl
          exact HAL.out i (by rw [← HN.out]; exact hi) l (by rw [← he]; simp) q hq
        clear HBW HAL HXR9 HYR9 HOL9 HS9 hcap ht htl m1 mn L16
        have hmk := run_make_row' (P := Try.prog) 25 31 (.int .u64 0) 8 Try.underlying25 Try.infoR rfl .i64 .i64 N (by omega) (by omega)
        go_wp2_with fail
        clear hmk
        have HMS := hid ((Made.start wr N 31).congr fun j _ => (show (fun _ => (0 : Int)) j = (fun j => if j < 0 then addQ (fx j) (fy j) else 0) j from by dsimp only; rw [if_neg (by omega)]))
        obtain ⟨sb, hsb⟩ : ∃ x, wr.heap.size = x := ⟨_, rfl⟩
        have HSB := hid hsb
        rw [hsb]
        clear hsb
        generalize wr.alloc (.cells (madeCells #[.int .u64 0] N) 31) = W10 at HMS ⊢
        go_loopg [144] N (fun g i ws => ∃ u : Nat, u ≤ N ∧ g = N - u ∧ i = .int .i64 (u : Int) ∧ Hid (Made wr ws N (fun j => if j < u then addQ (fx j) (fy j) else 0)))
        case atStart => exact ⟨0, by omega, rfl, rfl, HMS⟩
        case round =>
          clear HMS
          obtain ⟨u, hu, rfl, rfl, HM⟩ := hrel
          by_cases hul : u < N
          · have hbM := HM.out.below
            have cx := (HXA.out.kept hbM (HXA.out.lt (by omega))) u hul
            have cy := (HYA.out.kept hbM (HYA.out.lt (by omega))) u hul
            have cs := HM.out.cell u hul
            have fs := HM.out.frozen u hul
            rw [Nat.zero_add] at cx cy
            rw [HSB.out] at cs fs
            have nx : xb ≠ sb := by have h1 := HXA.out.lt (by omega); have h2 := HSB.out; omega
            have ny : yb ≠ sb := by have h1 := HYA.out.lt (by omega); have h2 := HSB.out; omega
            obtain ⟨vx, hvx⟩ : ∃ v, fx u = v := ⟨_, rfl⟩
            obtain ⟨vy, hvy⟩ : ∃ v, fy u = v := ⟨_, rfl⟩
            obtain ⟨x0, x1⟩ := HXF.out u
            obtain ⟨y0, y1⟩ := HYF.out u
            rw [hvx] at cx x0 x1
            rw [hvy] at cy y0 y1
            have HV := hid (And.intro hvx hvy)
            have HZS : Hid (∀ v, (wr.setCell ⟨sb, u, none⟩ v).cell? ⟨xb, u, none⟩ = some (.int .u64 vx) ∧ (wr.setCell ⟨sb, u, none⟩ v).cell? ⟨yb, u, none⟩ = some (.int .u64 vy)) := hid (fun v => ⟨by rw [World.cell?_setCell_other _ _ _ _ (by intro e; simp only [Addr.mk.injEq] at e; omega)]; exact cx, by rw [World.cell?_setCell_other _ _ _ _ (by intro e; simp only [Addr.mk.injEq] at e; omega)]; exact cy⟩)
            clear hvx hvy hbM nx ny
            have u0 : (0 : Int) ≤ (u : Int) := by omega
            have u1 : (u : Int) < (N : Int) := by omega
            go_wp2_with fail
            go_region_held3 (fun W => W.cell? ⟨xb, u, none⟩ = some (.int .u64 vx) ∧ W.cell? ⟨yb, u, none⟩ = some (.int .u64 vy)) (first | assumption | exact ⟨cx, cy⟩ | exact HZS.out _) (first | (go_at_call 10; refine (add_any _ _ _ (by omega) (by omega) (by omega) (by omega)).mono ?_; rintro e w' ⟨rfl, hw⟩; obtain rfl := hw.symm))
            all_goals (go_wp2_with fail)
            all_goals (go_roundg (N - (u + 1)))
            all_goals first | (go_light; omega) | skip
            all_goals
              have hst := HM.out.store u (addQ vx vy) hul
              rw [HSB.out] at hst
              have hst2 := hst.congr fun j _ => put_step (fun j => addQ (fx j) (fy j)) u j _ (by show addQ (fx u) (fy u) = _; rw [HV.out.1, HV.out.2])
              exact ⟨u + 1, by omega, rfl, by go_num, hid hst2.drew⟩
          · have e : u = N := by omega
            subst e
            have HMF := hid (HM.out.congr fun j hj => (show (if j < u then addQ (fx j) (fy j) else 0) = (fun j => addQ (fx j) (fy j)) j from by rw [if_pos hj]))
            have HFS : Hid (Nums (fun j => addQ (fx j) (fy j))) := hid (fun j => by have := addQ_rng (fx j) (fy j); show 0 ≤ addQ (fx j) (fy j) ∧ addQ (fx j) (fy j) ≤ 18446744073709551615; omega)
            have HFD : Hid (∀ j, (fun j => addQ (fx j) (fy j)) j = addQ (fx j) (fy j)) := hid (fun _ => rfl)
            have HSF := hid (HSA.out.next HMF.out.below)
            have HYF2 := hid (HYA.out.kept HMF.out.below (HYA.out.lt (by omega)))
            have HOF := hid (HOA.out.kept HMF.out.below)
            have hsr := HMF.out.row
            rw [HSB.out] at hsr
            obtain ⟨fs, hfs⟩ : ∃ x, (fun j => addQ (fx j) (fy j)) = x := ⟨_, rfl⟩
            rw [hfs] at hsr HFS HFD
            have HSR := hid hsr
            clear hsr hfs HMF HSA HYA HOA HXA HM HSB
            obtain ⟨z0, z1, zl⟩ := HSF.out.box
            go_wp2_with fail
            refine (run_ok c gn b off t cap A C yb 0 u u fy wr HG.out HN.out (HR.out.kept HSF.out.bel) HC.out HSH.out HLN.out N16 N1 HYF2.out HYF.out).mono ?_
            rintro e w11 ⟨VM, DM, rfl, hout⟩
            have HS11 := hid (HSF.out.next hout.below)
            have HOM := hid hout
            have HOL11 := hid (HOF.out.kept hout.below)
            have HSR11 := hid (HSR.out.kept hout.below (HSR.out.lt (by omega)))
            clear hout HSF HOF HSR HYF2 z0 z1 zl
            obtain ⟨z0, z1, zl⟩ := HS11.out.box
            go_wp2_with fail
            refine (run_ok c gn b off t cap A C sb 0 u u fs w11 HG.out HN.out (HR.out.kept HS11.out.bel) HC.out HSH.out HLN.out N16 N1 HSR11.out HFS.out).mono ?_
            rintro e w12 ⟨VT, DT, rfl, hout⟩
            have HS12 := hid (HS11.out.next hout.below)
            have HOT := hid hout
            have HOM12 := hid (HOM.out.kept hout.below)
            have HOL12 := hid (HOL11.out.kept hout.below)
            clear hout HS11 HOM HOL11 HSR11 z0 z1 zl
            obtain ⟨Ln, hLn⟩ : ∃ x, lenQ c t = x := ⟨_, rfl⟩
            have L16 := (lenQ_rng HC.out t (by rw [HN.out]; exact Nat.le_refl _)).2
            have ct := HOT.out.cell t (by omega)
            have cm := HOM12.out.cell t (by omega)
            have cl := HOL12.out.cell t (by omega)
            have rt := HOT.out.row t (by omega)
            have rm := HOM12.out.row t (by omega)
            have rl := HOL12.out.row t (by omega)
            rw [hLn] at L16 ct cm cl rt rm rl
            have HVA : Hid (∀ j, j < Ln → valsQ c fs t j = addQ (valsQ c fx t j) (valsQ c fy t j)) := hid (fun j hj => vals_add c fx fy fs (fun j _ => HFD.out j) HC.out HAD.out t (by rw [HN.out]; exact Nat.le_refl _) j (by rw [← hLn] at hj; exact hj))
            obtain ⟨dt, hdt⟩ : ∃ x, DT t = x := ⟨_, rfl⟩
            obtain ⟨dm, hdm⟩ : ∃ x, DM t = x := ⟨_, rfl⟩
            obtain ⟨dl, hdl⟩ : ∃ x, DL t = x := ⟨_, rfl⟩
            rw [hdt] at ct rt
            rw [hdm] at cm rm
            rw [hdl] at cl rl
            have HRT := hid rt
            have HRM := hid rm
            have HRL := hid rl
            clear hLn hdt hdm hdl rt rm rl HFD HAD
            have tb0 : (0 : Int) ≤ (t : Int) := by omega
            have tb1 : (t : Int) < (t : Int) + 1 := by omega
            go_wp2_with fail
            have HC0 := hid (Below.refl w12.heap.size w12)
            go_loopg [180] Ln (fun g i wz => ∃ v : Nat, v ≤ Ln ∧ g = Ln - v ∧ i = .int .i64 (v : Int) ∧ Hid (Below w12.heap.size w12 wz))
            case atStart => exact ⟨0, by omega, rfl, rfl, HC0⟩
            case round =>
              clear HC0
              obtain ⟨v, hv, rfl, rfl, HBZ⟩ := hrel
              by_cases hvl : v < Ln
              · have ct1 := (HBZ.out.cell HOT.out.lt).trans ct
                have cm1 := (HBZ.out.cell HOM12.out.lt).trans cm
                have cl1 := (HBZ.out.cell HOL12.out.lt).trans cl
                have et := (HRT.out.kept HBZ.out (HRT.out.lt (by omega))) v hvl
                have em := (HRM.out.kept HBZ.out (HRM.out.lt (by omega))) v hvl
                have el := (HRL.out.kept HBZ.out (HRL.out.lt (by omega))) v hvl
                rw [Nat.zero_add] at et em el
                rw [HVA.out v hvl] at et
                obtain ⟨a0, a1⟩ := Nums_vals c fx t v
                obtain ⟨b0, b1⟩ := Nums_vals c fy t v
                obtain ⟨va, hva⟩ : ∃ x, valsQ c fx t v = x := ⟨_, rfl⟩
                obtain ⟨vb, hvb⟩ : ∃ x, valsQ c fy t v = x := ⟨_, rfl⟩
                rw [hva, hvb] at et
                rw [hva] at el a0 a1
                rw [hvb] at em b0 b1
                clear hva hvb ct cm cl
                have v0 : (0 : Int) ≤ (v : Int) := by omega
                have v1 : (v : Int) < (Ln : Int) := by omega
                go_wp2_with fail
                go_quiet (first | (go_at_call 10; exact Calls.quiet_of_same (add_any _ _ _ (by omega) (by omega) (by omega) (by omega))))
                go_wp2_with fail
                go_roundg (Ln - (v + 1))
                case measure => go_light; omega
                case rel => exact ⟨v + 1, by omega, rfl, by go_num, hid ⟨HBZ.out.os, HBZ.out.tape, HBZ.out.output, HBZ.out.size, HBZ.out.block⟩⟩
              · have e : v = Ln := by omega
                subst e
                go_wp2_with fail
                go_ret
                exact ⟨rfl, HS12.out.bel.trans (HBZ.out.mono HS12.out.bel.size)⟩
  · have e0 : (y != 0) = true := by simp; exact h0
    go_wp2_with fail
    refine (run_bad c g ao n cap A C aa la ca y w4 HG.out HN.out (HR.out.kept HS6.out.bel) HY.out h0).mono ?_
    rintro e w5 ⟨rfl, hb⟩
    have HS7 := hid (HS6.out.next hb)
    clear hb HS6
    go_wp2_with fail
    go_ret
    exact ⟨rfl, HS7.out.bel⟩

end Go.Proofs.Ytoogpkcpheannaf
