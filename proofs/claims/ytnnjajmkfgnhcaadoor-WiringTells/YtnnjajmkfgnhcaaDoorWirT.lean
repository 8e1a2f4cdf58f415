/-
  A contract of the law WiringTells, for every circuit, all lists and every number: it answers true.
-/
import Derived.Test.YtnnjajmkfgnhcaaDoorWirT1
import Derived.Test.YtnnjajmkfgnhcaaDoorWirV
import Derived.Test.YtnnjajmkfgnhcaaDoorRefC2
import Derived.Test.YtnnjajmkfgnhcaaDoorCircR2
import Derived.Test.YtnnjajmkfgnhcaaDoorTiny
import Derived.Test.YtnnjajmkfgnhcaaDoorKeep
import Derived.Test.YtnnjajmkfgnhcaaDoorMleEv
import Derived.Deep.RegionHeld3
namespace Go.Proofs.YtnnjajmkfgnhcaaDoor
open Go.RowKit
set_option linter.unusedVariables false
attribute [local go_sem ↓] Go.wp_at_zero Go.wp_at_succ

theorem row_one (w : World) (x : Int) (t : TypeId) : Row (w.alloc (.cells #[.int .u64 x] t)) w.heap.size 0 1 (fun _ => x) := fun j hj => by
  rw [Nat.zero_add, World.cell?_alloc_new]
  obtain rfl : j = 0 := by omega
  rfl
theorem tiny_ask : askE tinyQ 0 1 1 1 0 := .inr (.inr ⟨tiny_right, ⟨0, ⟨1, [⟨true, 0, 1⟩, ⟨false, 0, 1⟩]⟩, rfl, rfl, rfl, rfl, rfl⟩, rfl⟩)
theorem tiny_step : wspQ tinyQ 0 (fun _ => 1) (fun _ => 0) (fun _ => 1) 3 4 = 7 := by kernel_rfl
/-- The law's own first step. -/
theorem tiny_calls (tb : Nat) (tA : Nat → Option Addr) (tC : Nat → Nat) (w : World) (hr : CRow w (some ⟨tb, 0, none⟩) tinyQ.layers tA tC) (t : TypeId) :
    Calls Tryd.prog 18 #[.agg #[.int .i64 1, .slice (some ⟨tb, 0, none⟩) 1 1], .int .i64 0, .slice (some ⟨w.heap.size, 0, none⟩) 1 1, .slice (some ⟨w.heap.size + 1, 0, none⟩) 1 1, .slice (some ⟨w.heap.size + 1 + 1, 0, none⟩) 1 1, .int .u64 3, .int .u64 4] (((w.alloc (.cells #[.int .u64 1] t)).alloc (.cells #[.int .u64 0] t)).alloc (.cells #[.int .u64 1] t)) fun e w' => e = .returned (.tuple #[.int .u64 7, .int .i64 0]) ∧ Below w.heap.size w w' := by
  have s1 : (w.alloc (.cells #[.int .u64 1] t)).heap.size = w.heap.size + 1 := by simp
  have b1 := (Below.refl w.heap.size w).alloc (Nat.le_refl _) (.cells #[.int .u64 1] t)
  have r1 := row_one w 1 t
  generalize w.alloc (.cells #[.int .u64 1] t) = w1 at s1 b1 r1 ⊢
  have s2 : (w1.alloc (.cells #[.int .u64 0] t)).heap.size = w.heap.size + 1 + 1 := by simp [s1]
  have b2 := (Below.refl w1.heap.size w1).alloc (Nat.le_refl _) (.cells #[.int .u64 0] t)
  have r2 := row_one w1 0 t
  rw [s1] at r2
  generalize w1.alloc (.cells #[.int .u64 0] t) = w2 at s2 b2 r2 ⊢
  have b3 := (Below.refl w2.heap.size w2).alloc (Nat.le_refl _) (.cells #[.int .u64 1] t)
  have r3 := row_one w2 1 t
  rw [s2] at r3
  generalize w2.alloc (.cells #[.int .u64 1] t) = w3 at b3 r3 ⊢
  have hb2 := b1.trans (b2.mono b1.size)
  have hb3 := hb2.trans (b3.mono hb2.size)
  refine (step_any tinyQ 1 (some ⟨tb, 0, none⟩) 1 1 tA tC 0 _ _ _ 1 1 1 1 1 1 (fun _ => 1) (fun _ => 0) (fun _ => 1) 3 4 w3 rfl rfl (hr.kept hb3) (((PRow.of r1).kept b2).kept b3) ((PRow.of r2).kept b3) (PRow.of r3) (fun _ => by dsimp only; omega) (fun _ => by dsimp only; omega) (fun _ => by dsimp only; omega) (by omega) (by omega) (by omega) (by omega)).mono ?_
  rintro e w4 ⟨v, x', rfl, hx, _, hv, hb⟩
  obtain rfl := askE_one hx tiny_ask
  obtain rfl := (hv rfl).trans tiny_step
  exact ⟨rfl, hb3.trans (hb.mono hb3.size)⟩
/-- What holds of the world in the loops. -/
structure StT (w W : World) (B : Nat) (g : Int) (v : Value) (Bn bn VL ki n d : Nat) (D : Nat) (F : Nat → Int) (qb lz : Nat) (q : Nat → Int) : Prop where
  bel : Below w.heap.size w W
  box : Box2 W B (.int .i64 g) v
  cn : W.cell? ⟨Bn, 0, none⟩ = some (.int .i64 (bn : Int))
  cl : W.cell? ⟨VL, ki, none⟩ = some (.slice (some ⟨d, 0, none⟩) D D)
  row : Row W d 0 D F
  qr : PRow W (some ⟨qb, 0, none⟩) lz q
theorem StT.next {w W W' : World} {B : Nat} {g : Int} {v : Value} {Bn bn VL ki n d : Nat} {D : Nat} {F : Nat → Int} {qb lz : Nat} {q : Nat → Int} (h : StT w W B g v Bn bn VL ki n d D F qb lz q) (hD : 0 < D) (hb : Below W.heap.size W W') : StT w W' B g v Bn bn VL ki n d D F qb lz q :=
  ⟨h.bel.trans (hb.mono h.bel.size), h.box.kept hb, (hb.cell (World.block_lt_of_cell? W _ h.cn)).trans h.cn, (hb.cell (World.block_lt_of_cell? W _ h.cl)).trans h.cl, h.row.kept hb (h.row.lt hD), h.qr.kept hb⟩

set_option maxHeartbeats 8000000 in
set_option maxRecDepth 100000 in
theorem wtells_any (c : CQ) (g : Int) (ao : Option Addr) (n cap : Nat) (A : Nat → Option Addr) (C : Nat → Nat) (aa ab : Option Addr) (la ca lb cb : Nat) (fa fb : Nat → Int) (k : Int) (w : World) (ht : Tab w) (hg : c.log = g) (hn : c.layers.length = n) (hr : CRow w ao c.layers A C) (ha : PRow w aa la fa) (hfa : Nums fa) (hb : PRow w ab lb fb) (hfb : Nums fb) (k0 : -9223372036854775808 ≤ k) (k1 : k ≤ 9223372036854775807) :
    Calls Tryd.prog 5 #[.agg #[.int .i64 g, .slice ao n cap], .slice aa la ca, .slice ab lb cb, .int .i64 k] w fun e w' => e = .returned (.bool true) ∧ Below w.heap.size w w' := by
  have HR := hid hr
  have HG := hid hg
  have HN := hid hn
  have HA := hid ha
  have HFA := hid hfa
  have HB := hid hb
  have HFB := hid hfb
  have HT := hid ht
  have HK := hid (And.intro k0 k1)
  have HS0 := hid (StW.start w g (.slice ao n cap) 46)
  clear hr hg hn ha hfa hb hfb k0 k1 ht
  go_enter Tryd.func5, Tryd.ntmps5
  go_wp2_with fail
  obtain ⟨B, hB⟩ : ∃ B, w.heap.size = B := ⟨_, rfl⟩
  have HS1 : Hid (StW w (w.alloc (.cells #[.int .i64 g, .slice ao n cap] 46)) B g (.slice ao n cap)) := hid (by rw [← hB]; exact HS0.out)
  rw [hB]
  clear hB HS0
  generalize w.alloc (.cells #[.int .i64 g, .slice ao n cap] 46) = W1 at HS1 ⊢
  refine (tiny_any W1).mono ?_
  rintro e w1 ⟨tb, tA, tC, rfl, htr, hb⟩
  have HTC := hid (tiny_calls tb tA tC w1 htr 26)
  have HS2 := hid (HS1.out.next hb)
  clear hb htr HS1
  go_wp2_with fail
  refine (HTC.out).mono ?_
  rintro e w2 ⟨rfl, hb⟩
  have HS3 := hid (HS2.out.next hb)
  clear hb HS2 HTC
  obtain ⟨z0, z1, zl⟩ := HS3.out.box
  go_wp2_with fail
  refine (rcirc_any c g ao n cap A C w2 HG.out HN.out (HR.out.kept HS3.out.bel)).mono ?_
  rintro e w3 ⟨y, rfl, hy, hb⟩
  have HY := hid hy
  have HS4 := hid (HS3.out.next hb)
  clear hb hy HS3 z0 z1 zl
  obtain ⟨z0, z1, zl⟩ := HS4.out.box
  by_cases h0 : y = 0
  · subst h0
    have HC := hid (checkE_zero.1 HY.out)
    obtain ⟨b, off, rfl, _⟩ := HR.out HC.out.some
    have hlog := HC.out.log
    rw [HG.out] at hlog
    obtain ⟨gn, rfl⟩ : ∃ q : Nat, g = (q : Int) := ⟨g.toNat, by omega⟩
    have g4 : gn ≤ 4 := by omega
    have hlen : lenQ c 0 = 2 ^ gn := by rw [lenQ, belowQ, HG.out]; simp
    have hrn := lenQ_rng HC.out 0 (Nat.zero_le _)
    have shN := shl_pow (k := gn) (by omega)
    have n4 : n ≤ 4 := by have := HC.out.few; rw [HN.out] at this; exact this
    have n1 : 1 ≤ n := by have := List.length_pos_iff.2 HC.out.some; rw [HN.out] at this; exact this
    obtain ⟨N, hN⟩ : ∃ N, 2 ^ gn = N := ⟨_, rfl⟩
    rw [hN] at hlen shN
    rw [hlen] at hrn
    obtain ⟨N1, N16⟩ := hrn
    have HLN := hid hlen
    have HSH := hid shN
    have shN2 : IntKind.i64.wrap ((2 : Int) ^ gn) = (N : Int) := by rw [IntWalk.i64_left]; exact shN
    clear hlog hlen hN
    go_wp2_with fail
    refine (rest_any k (n : Int) w3 HK.out.1 HK.out.2 (by omega) (by omega)).mono ?_
    rintro e w3' ⟨rfl, hw⟩
    obtain rfl := hw.symm
    have q0 := Int.emod_nonneg k (show (n : Int) ≠ 0 by omega)
    have q1 := Int.emod_lt_of_pos k (show (0 : Int) < (n : Int) by omega)
    obtain ⟨ki, hki⟩ : ∃ q : Nat, k % (n : Int) = (q : Int) := ⟨(k % (n : Int)).toNat, by omega⟩
    rw [hki] at q0 q1 ⊢
    have kn : ki < n := by omega
    clear hki
    go_wp2_with fail
    go_region_held3 (fun W => W.cell? ⟨B, 0, none⟩ = some (.int .i64 (gn : Int)) ∧ W.cell? ⟨B, 1, none⟩ = some (.slice (some ⟨b, off, none⟩) n cap)) (first | assumption | exact ⟨z0, z1⟩ | exact zx | exact zy) (first
      | (go_at_call 22; refine (point_any aa la ca N fa _ (by omega) (HA.out.kept HS4.out.bel.drew)).mono ?_; rintro e w5 ⟨rfl, hm⟩; have HMX : Hid (Made w3 w5 N (padF la fa)) := hid ⟨(Below.refl _ w3).drew.trans hm.below, hm.row, hm.free⟩; have HSX := hid (HS4.out.next HMX.out.below); have zx : w5.cell? ⟨B, 0, none⟩ = some (.int .i64 (gn : Int)) ∧ w5.cell? ⟨B, 1, none⟩ = some (.slice (some ⟨b, off, none⟩) n cap) := ⟨HSX.out.box.c0, HSX.out.box.c1⟩; clear hm)
      | (go_at_call 21; refine (run_ok c gn b off n cap A C _ 0 N N _ _ HG.out HN.out (HR.out.kept HSX.out.bel) HC.out HSH.out HLN.out N16 N1 HMX.out.row (Nums_pad HFA.out la)).mono ?_; rintro e w6 ⟨VL, DL, rfl, hout⟩; have HSY := hid (HSX.out.next hout.below); have zy : w6.cell? ⟨B, 0, none⟩ = some (.int .i64 (gn : Int)) ∧ w6.cell? ⟨B, 1, none⟩ = some (.slice (some ⟨b, off, none⟩) n cap) := ⟨HSY.out.box.c0, HSY.out.box.c1⟩; have HOL := hid hout; clear hout))
    clear z0 z1 zl zx zy HMX HSX HS4 shN shN2
    obtain ⟨fx, hfx⟩ : ∃ x, padF la fa = x := ⟨_, rfl⟩
    rw [hfx] at HOL
    clear hfx
    obtain ⟨z0, z1, zl⟩ := HSY.out.box
    obtain ⟨l, hl⟩ : ∃ l, c.layers[ki]? = some l := ⟨c.layers[ki]'(by rw [HN.out]; exact kn), by simp⟩
    obtain ⟨lz, hlz⟩ : ∃ x : Nat, l.log = (x : Int) := ⟨l.log.toNat, by have := (HC.out.layer ki l hl).1; omega⟩
    have lz4 : lz ≤ 4 := by have := (HC.out.layer ki l hl).1; omega
    obtain ⟨bn, hbn, bn4⟩ := below_rng (k := ki) rfl HC.out.log.1 HC.out.log.2 fun j _ x hx => HC.out.layer j x hx
    obtain ⟨b', off', eb, hcl⟩ := HR.out.kept HSY.out.bel HC.out.some
    cases eb
    have y0 := (hcl ki l hl).1
    rw [Nat.mul_comm 2 ki, hlz] at y0
    have HL := hid hl
    have HLZ := hid hlz
    have HBN := hid hbn
    clear hcl hl hlz hbn
    go_wp2_with fail
    refine (point_any ab lb cb lz fb w6 (by omega) (HB.out.kept HSY.out.bel)).mono ?_
    rintro e w7 ⟨rfl, hm⟩
    have HS7 := hid (HSY.out.next hm.below)
    have HOL7 := hid (HOL.out.kept hm.below)
    obtain ⟨fq, hfq⟩ : ∃ x, padF lb fb = x := ⟨_, rfl⟩
    obtain ⟨qb, hqb⟩ : ∃ x, w6.heap.size = x := ⟨_, rfl⟩
    have hqr := PRow.of hm.row
    have hqn := Nums_pad HFB.out lb
    rw [hfq, hqb] at hqr
    rw [hfq] at hqn
    rw [hqb]
    have HQR := hid hqr
    have HQN := hid hqn
    clear hm HSY HOL hfq hqb hqr hqn z0 z1 zl y0
    obtain ⟨z0, z1, zl⟩ := HS7.out.box
    go_wp2_with fail
    refine (rbelow_any c (gn : Int) b off n cap ki A C w7 HG.out HN.out n4 (by omega) (HR.out.kept HS7.out.bel)).mono ?_
    rintro e w8 ⟨rfl, hb⟩
    have HS8 := hid (HS7.out.next hb)
    have HOL8 := hid (HOL7.out.kept hb)
    have HQR8 := hid (HQR.out.kept hb)
    clear hb HS7 HOL7 HQR z0 z1 zl
    rw [HBN.out]
    have hal := (Below.refl w8.heap.size w8).alloc (Nat.le_refl _) (.cells #[.int .i64 (bn : Int)] 3)
    have HS9 := hid (HS8.out.next hal)
    have HOL9 := hid (HOL8.out.kept hal)
    have HQR9 := hid (HQR8.out.kept hal)
    have HCN : Hid ((w8.alloc (.cells #[.int .i64 (bn : Int)] 3)).cell? ⟨w8.heap.size, 0, none⟩ = some (.int .i64 (bn : Int))) := hid (by rw [World.cell?_alloc_new]; rfl)
    clear hal HS8 HOL8 HQR8
    by_cases hb3 : bn ≤ 3
    · have hb3i : ¬ ((3 : Int) < (bn : Int)) := by omega
      obtain ⟨D, hD⟩ : ∃ D, 2 ^ bn = D := ⟨_, rfl⟩
      have shD := shl_pow (k := bn) (by omega)
      rw [hD] at shD
      have D1 : 1 ≤ D := by rw [← hD]; exact Nat.one_le_two_pow
      have D8 : D ≤ 8 := by rw [← hD]; exact Nat.le_trans (Nat.pow_le_pow_right (by omega) hb3) (by decide)
      have HDD := hid hD
      have HSD := hid shD
      have hLk : lenQ c ki = D := by rw [lenQ, HBN.out, Int.toNat_natCast, hD]
      clear hD
      clear shD
      go_wp2_with fail
      obtain ⟨Bn, hBn⟩ : ∃ x, w8.heap.size = x := ⟨_, rfl⟩
      rw [hBn] at HCN ⊢
      clear hBn
      have cl := HOL9.out.cell ki (by omega)
      have rw9 := HOL9.out.row ki (by omega)
      rw [hLk] at cl rw9
      obtain ⟨d, hd⟩ : ∃ x, DL ki = x := ⟨_, rfl⟩
      rw [hd] at cl rw9
      have HST := hid (StT.mk (n := n) HS9.out.bel HS9.out.box HCN.out cl rw9 HQR9.out)
      have HOLA := hid HOL9.out
      clear cl rw9 hd hLk HS9 HCN HQR9 HOL9
      generalize w8.alloc (.cells #[.int .i64 (bn : Int)] 3) = W9 at HST HOLA ⊢
      have HE : Hid (askE c (ki : Int) lz bn bn 0) := hid (.inr (.inr ⟨HC.out, ⟨ki, l, rfl, HL.out, HLZ.out.symm, HBN.out.symm, HBN.out.symm⟩, rfl⟩))
      have HC0 := hid (Below.refl W9.heap.size W9)
      go_loopg [17, 73] D (fun q s i wo => ∃ (t : Nat) (p : Int), t ≤ D ∧ q = D - t ∧ s = .int .u64 p ∧ i = .int .i64 (t : Int) ∧ 0 ≤ p ∧ p ≤ 2305843009213693950 ∧ Hid (p = ofK (sK (fun a => sK (stpK c ki fq bn (valsQ c fx ki) a) D) t)) ∧ Hid (Below W9.heap.size W9 wo))
      case atStart => exact ⟨0, 0, by omega, rfl, rfl, rfl, by omega, by omega, hid rfl, HC0⟩
      case round =>
        clear HC0
        obtain ⟨t, p, ht, rfl, rfl, rfl, p0, p1, HP, HBO⟩ := hrel
        by_cases htl : t < D
        · have HSO := hid (HST.out.next (by omega) HBO.out)
          have cn := HSO.out.cn
          have hct : (t : Int) < wrap64 ((2 : Int) ^ bn) := by rw [HSD.out]; omega
          go_wp2_with fail
          clear hct cn
          obtain ⟨wo, hwo⟩ : ∃ x, x = wr := ⟨wr, rfl⟩
          have HC1 : Hid (Below W9.heap.size W9 wr) := HBO
          go_loopg [17, 78] D (fun q s i wx => ∃ (u : Nat) (p' : Int), u ≤ D ∧ q = D - u ∧ s = .int .u64 p' ∧ i = .int .i64 (u : Int) ∧ 0 ≤ p' ∧ p' ≤ 2305843009213693950 ∧ Hid (p' = ofK (sK (fun a => sK (stpK c ki fq bn (valsQ c fx ki) a) D) t + sK (stpK c ki fq bn (valsQ c fx ki) t) 0 + sK (stpK c ki fq bn (valsQ c fx ki) t) u)) ∧ Hid (Below W9.heap.size W9 wx))
          case atStart => exact ⟨0, p, by omega, rfl, rfl, rfl, p0, p1, hid (by rw [HP.out]; congr 1; show _ = _ + (0 : K) + 0; grind), HC1⟩
          case round =>
            clear HC1 HBO HSO
            obtain ⟨u, p', hu, rfl, rfl, rfl, p2, p3, HP2, HBI⟩ := hrel
            by_cases hul : u < D
            · have HSI := hid (HST.out.next (by omega) HBI.out)
              obtain ⟨z0, z1, zl⟩ := HSI.out.box
              have cl := HSI.out.cl
              have da := HSI.out.row t htl
              have db := HSI.out.row u hul
              rw [Nat.zero_add] at da db
              obtain ⟨va, hva⟩ : ∃ v, valsQ c fx ki t = v := ⟨_, rfl⟩
              obtain ⟨vb, hvb⟩ : ∃ v, valsQ c fx ki u = v := ⟨_, rfl⟩
              obtain ⟨a0, a1⟩ := Nums_vals c fx ki t
              obtain ⟨b0, b1⟩ := Nums_vals c fx ki u
              rw [hva] at da a0 a1
              rw [hvb] at db b0 b1
              have HVAB := hid (And.intro hva hvb)
              clear hva hvb
              have mark : Hid True := hid trivial
              have hcu : (u : Int) < wrap64 ((2 : Int) ^ bn) := by rw [HSD.out]; omega
              have t0 : (0 : Int) ≤ (t : Int) := by omega
              have u0 : (0 : Int) ≤ (u : Int) := by omega
              have u1 : (u : Int) < (D : Int) := by omega
              have ki0 : (0 : Int) ≤ (ki : Int) := by omega
              have ki1 : (ki : Int) < (n : Int) + 1 := by omega
              have t1 : (t : Int) < (D : Int) := by omega
              go_wp2_with fail
              clear hcu
              go_region_held3 (fun W => W.cell? ⟨B, 0, none⟩ = some (.int .i64 (gn : Int)) ∧ W.cell? ⟨B, 1, none⟩ = some (.slice (some ⟨b, off, none⟩) n cap) ∧ W.cell? ⟨VL, ki, none⟩ = some (.slice (some ⟨d, 0, none⟩) D D) ∧ W.cell? ⟨d, t, none⟩ = some (.int .u64 va) ∧ W.cell? ⟨d, u, none⟩ = some (.int .u64 vb)) (first | assumption | exact ⟨z0, z1, cl, da, db⟩ | exact zx | exact zy | exact zz) (first
                | (go_at_call 24; first | (clear mark; refine (corner_any Bn bn t _ (by omega) (by omega) (by exact HSI.out.cn)).mono ?_; rintro e wA ⟨rfl, hm⟩; have HMA : Hid (Made wr wA bn (bitF t bn)) := hid ⟨(Below.refl _ wr).drew.trans hm.below, hm.row, hm.free⟩; have HSX := hid (HSI.out.next (by omega) HMA.out.below); have zx : wA.cell? ⟨B, 0, none⟩ = some (.int .i64 (gn : Int)) ∧ wA.cell? ⟨B, 1, none⟩ = some (.slice (some ⟨b, off, none⟩) n cap) ∧ wA.cell? ⟨VL, ki, none⟩ = some (.slice (some ⟨d, 0, none⟩) D D) ∧ wA.cell? ⟨d, t, none⟩ = some (.int .u64 va) ∧ wA.cell? ⟨d, u, none⟩ = some (.int .u64 vb) := ⟨HSX.out.box.c0, HSX.out.box.c1, HSX.out.cl, (HMA.out.below.cell (World.block_lt_of_cell? wr _ da)).trans da, (HMA.out.below.cell (World.block_lt_of_cell? wr _ db)).trans db⟩; clear hm) | (refine (corner_any Bn bn u _ (by omega) (by omega) (by exact HSX.out.cn)).mono ?_; rintro e wB ⟨rfl, hm⟩; have HMB : Hid (Made wA wB bn (bitF u bn)) := hid hm; have HSY := hid (HSX.out.next (by omega) hm.below); have zy : wB.cell? ⟨B, 0, none⟩ = some (.int .i64 (gn : Int)) ∧ wB.cell? ⟨B, 1, none⟩ = some (.slice (some ⟨b, off, none⟩) n cap) ∧ wB.cell? ⟨VL, ki, none⟩ = some (.slice (some ⟨d, 0, none⟩) D D) ∧ wB.cell? ⟨d, t, none⟩ = some (.int .u64 va) ∧ wB.cell? ⟨d, u, none⟩ = some (.int .u64 vb) := ⟨HSY.out.box.c0, HSY.out.box.c1, HSY.out.cl, (hm.below.cell (World.block_lt_of_cell? wA _ zx.2.2.2.1)).trans zx.2.2.2.1, (hm.below.cell (World.block_lt_of_cell? wA _ zx.2.2.2.2)).trans zx.2.2.2.2⟩; clear hm))
                | (go_at_call 18; refine (step_any c (gn : Int) (some ⟨b, off, none⟩) n cap A C (ki : Int) _ _ _ lz lz bn bn bn bn fq (bitF t bn) (bitF u bn) va vb _ HG.out HN.out (HR.out.kept HSY.out.bel) HSY.out.qr ((PRow.of HMA.out.row).kept HMB.out.below) (PRow.of HMB.out.row) HQN.out (Nums_bitW _ _) (Nums_bitW _ _) (by omega) (by omega) (by omega) (by omega)).mono ?_; rintro e wS ⟨s, x', rfl, hx, _, hv, hb⟩; obtain rfl := askE_one hx HE.out; have HVS := hid (hv rfl); have HSZ := hid (HSY.out.next (by omega) hb); have zz : wS.cell? ⟨B, 0, none⟩ = some (.int .i64 (gn : Int)) ∧ wS.cell? ⟨B, 1, none⟩ = some (.slice (some ⟨b, off, none⟩) n cap) ∧ wS.cell? ⟨VL, ki, none⟩ = some (.slice (some ⟨d, 0, none⟩) D D) ∧ wS.cell? ⟨d, t, none⟩ = some (.int .u64 va) ∧ wS.cell? ⟨d, u, none⟩ = some (.int .u64 vb) := ⟨HSZ.out.box.c0, HSZ.out.box.c1, HSZ.out.cl, (hb.cell (World.block_lt_of_cell? wB _ zy.2.2.2.1)).trans zy.2.2.2.1, (hb.cell (World.block_lt_of_cell? wB _ zy.2.2.2.2)).trans zy.2.2.2.2⟩; have HBZ : Hid (Below wB.heap.size wB wS) := hid hb; clear hx hv hb))
              have HBN2 : Hid (Below W9.heap.size W9 wS) := hid (((HBI.out.trans (HMA.out.below.mono HBI.out.size)).trans (HMB.out.below.mono (Nat.le_trans HBI.out.size HMA.out.below.size))).trans (HBZ.out.mono (Nat.le_trans (Nat.le_trans HBI.out.size HMA.out.below.size) HMB.out.below.size)))
              obtain ⟨s0, s1⟩ := wspQ_rng c (ki : Int) fq (bitF t bn) (bitF u bn) va vb
              rw [← HVS.out] at s0 s1
              have HNX : Hid (addQ p' s = ofK (sK (fun a => sK (stpK c ki fq bn (valsQ c fx ki) a) D) t + sK (stpK c ki fq bn (valsQ c fx ki) t) 0 + sK (stpK c ki fq bn (valsQ c fx ki) t) (u + 1))) := hid (by
                have e0 : ∀ a r : K, a + sK (stpK c ki fq bn (valsQ c fx ki) t) 0 + r = a + r := fun a r => by show a + 0 + r = a + r; grind
                rw [e0]
                exact tells_next (by rw [HP2.out, e0]) (by rw [HVS.out, HVAB.out.1, HVAB.out.2]))
              clear z0 z1 zl cl da db zx zy zz HMA HMB HSX HSY HSZ HSI HVS HBZ HVAB
              obtain ⟨m0, m1⟩ := addQ_rng p' s
              go_wp2_with (go_at_call 25; refine (add_any _ _ _ (by omega) (by omega) (by omega) (by omega)).mono ?_; rintro e w' ⟨rfl, hw⟩; obtain rfl := hw.symm)
              go_roundg (D - (u + 1))
              case measure => go_light; omega
              case rel => exact ⟨u + 1, _, by omega, rfl, rfl, by go_num, m0, m1, HNX, HBN2⟩
            · have e : u = D := by omega
              subst e
              have HNX : Hid (p' = ofK (sK (fun a => sK (stpK c ki fq bn (valsQ c fx ki) a) u) (t + 1))) := hid (by
                rw [HP2.out]
                congr 1
                show _ + (0 : K) + _ = sK (fun a => sK (stpK c ki fq bn (valsQ c fx ki) a) u) t + sK (stpK c ki fq bn (valsQ c fx ki) t) u
                grind)
              have hcu : ¬ ((u : Int) < wrap64 ((2 : Int) ^ bn)) := by rw [HSD.out]; omega
              go_wp2_with fail
              go_roundg (u - (t + 1))
              case measure => go_light; omega
              case rel => exact ⟨t + 1, p', by omega, rfl, rfl, by go_num, p2, p3, HNX, HBI⟩
        · have e : t = D := by omega
          subst e
          have HSO := hid (HST.out.next (by omega) HBO.out)
          have HOB := hid (HOLA.out.kept HBO.out)
          have hlen : lenQ c (ki + 1) = 2 ^ lz := by rw [lenQ, belowQ, HL.out]; show 2 ^ (l.log).toNat = _; rw [HLZ.out, Int.toNat_natCast]
          have cl := HOB.out.cell (ki + 1) (by omega)
          have rl := HOB.out.row (ki + 1) (by omega)
          rw [hlen] at cl rl
          obtain ⟨d2, hd2⟩ : ∃ x, DL (ki + 1) = x := ⟨_, rfl⟩
          rw [hd2] at cl rl
          obtain ⟨E, hE⟩ : ∃ E, E = 2 ^ lz := ⟨_, rfl⟩
          rw [← hE] at cl rl
          have hT2 : 2 ≤ w.heap.size := HT.out.1
          have HEV := hid (eval_ok d2 0 lz E E lz (some ⟨qb, 0, none⟩) (valsQ c fx (ki + 1)) fq wr (by omega) hE (HT.out.kept HSO.out.bel hT2) rl (Nums_vals c fx (ki + 1)) HSO.out.qr HQN.out)
          have HFIN : Hid (ofK (evS (fun j => kk (valsQ c fx (ki + 1) j)) (fun j => kk (fq j)) lz) = p) := hid (by rw [HP.out, ← HDD.out, tells_sum HC.out HL.out HBN.out HLZ.out])
          rw [HFIN.out] at HEV
          have ki0 : (0 : Int) ≤ (ki : Int) + 1 := by omega
          have ki1 : (ki : Int) + 1 < (n : Int) + 1 := by omega
          clear rl hlen hd2 hE HFIN
          have hct : ¬ ((t : Int) < wrap64 ((2 : Int) ^ bn)) := by rw [HSD.out]; omega
          go_wp2_with fail
          refine (HEV.out).mono ?_
          rintro e w' ⟨rfl, hb⟩
          have HSF := hid (HSO.out.next (by omega) hb)
          clear hb
          go_wp2_with fail
          go_ret
          exact ⟨by first | rfl | simp, HSF.out.bel⟩
    · have hb3i : (3 : Int) < (bn : Int) := by omega
      go_wp2_with fail
      go_ret
      exact ⟨rfl, HS9.out.bel⟩
  · have e0 : (y != 0) = true := by simp; exact h0
    go_wp2_with fail
    go_ret
    exact ⟨rfl, HS4.out.bel⟩

end Go.Proofs.YtnnjajmkfgnhcaaDoor
