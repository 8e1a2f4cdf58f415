/-
  A contract of tallyref's Partial: for every list of one to three tables of like size, and whatever numbers ahead (no more than the tables have variables): the sum over all corners of what is left of the products of their values; it makes new rows and writes nothing that was there.
-/
import Derived.Test.YtoogpkcpheannaaDoorRefMle2
namespace Go.Proofs.YtoogpkcpheannaaDoor
open Go.RowKit
set_option linter.unusedVariables false
attribute [local go_sem ↓] Go.wp_at_zero Go.wp_at_succ

/-- The product of the first m. -/
def pKr (F : Nat → K) : Nat → K
  | 0 => 1
  | m + 1 => pKr F m * F m
/-- One corner's product: the tables' values at the numbers ahead and the corner's bits. -/
def partP (fv : Nat → Nat → Int) (ga : Nat → Int) (a d b : Nat) : Nat → K := pKr fun i => evS (fun j => kk (fv i j)) (fun j => kk (catF a ga (bitF b d) j)) (a + d)
/-- The sum over the first corners. -/
def partS (fv : Nat → Nat → Int) (ga : Nat → Int) (a d m : Nat) : Nat → K := sK fun b => partP fv ga a d b m
theorem part_mul (fv : Nat → Nat → Int) (ga : Nat → Int) (a d b i : Nat) (p : Int) (hp : p = ofK (partP fv ga a d b i)) : mulQ p (ofK (evS (fun j => kk (fv i j)) (fun j => kk (catF a ga (bitF b d) j)) (a + d))) = ofK (partP fv ga a d b (i + 1)) := by
  rw [mulQ_ofK, hp, kk_ofK, kk_ofK]; rfl
theorem part_add (fv : Nat → Nat → Int) (ga : Nat → Int) (a d m b : Nat) (z p : Int) (hz : z = ofK (partS fv ga a d m b)) (hp : p = ofK (partP fv ga a d b m)) : addQ z p = ofK (partS fv ga a d m (b + 1)) := by
  rw [addQ_ofK, hz, hp, kk_ofK, kk_ofK]; rfl
theorem Nums_catp (n : Nat) {f g : Nat → Int} (hf : Nums f) (hg : Nums g) : Nums (catF n f g) := fun j => by
  unfold catF
  split
  · exact hf j
  · exact hg _

/-- What holds where two lists have been laid beside each other. -/
structure Beside (w w1 W : World) (B q bt ot N n1 : Nat) (vt v0 v1 : Value) (ft : Nat → Int) (aa ab : Option Addr) (a d : Nat) (ga gb : Nat → Int) : Prop where
  b : Below w.heap.size w W
  c : W.cell? ⟨B, q, none⟩ = some vt
  lt : B < W.heap.size
  r : Row W bt ot N ft
  pa : PRow W aa a ga
  pb : PRow W ab d gb
  j0 : W.cell? ⟨n1, 0, none⟩ = some v0
  j1 : W.cell? ⟨n1, 1, none⟩ = some v1
theorem part_alloc {w w1 : World} {B q bt ot N : Nat} {vt : Value} {ft : Nat → Int} {aa ab : Option Addr} {a d ca cb : Nat} {ga gb : Nat → Int} (hb : Below w.heap.size w w1) (hc : w1.cell? ⟨B, q, none⟩ = some vt) (hr : Row w1 bt ot N ft) (hN : 0 < N) (pa : PRow w1 aa a ga) (pb : PRow w1 ab d gb) :
    Beside w w1 (w1.alloc (.cells #[.slice aa a ca, .slice ab d cb] 22)) B q bt ot N w1.heap.size vt (.slice aa a ca) (.slice ab d cb) ft aa ab a d ga gb := by
  have hA : Below w1.heap.size w1 (w1.alloc (.cells #[.slice aa a ca, .slice ab d cb] 22)) := (Below.refl _ w1).alloc (Nat.le_refl _) _
  have hB := World.block_lt_of_cell? w1 _ hc
  exact ⟨hb.trans (hA.mono hb.size), (hA.cell hB).trans hc, Nat.lt_of_lt_of_le hB hA.size, hr.kept hA (hr.lt hN), pa.kept hA, pb.kept hA, by rw [World.cell?_alloc_new]; rfl, by rw [World.cell?_alloc_new]; rfl⟩

set_option maxHeartbeats 8000000 in
set_option maxRecDepth 100000 in
theorem rpart_any (B o m cap : Nat) (bv ov cv : Nat → Nat) (fv : Nat → Nat → Int) (aa : Option Addr) (a ca d N D : Nat) (ga : Nat → Int) (w : World) (hm1 : 1 ≤ m) (hm : m ≤ 3) (hn : a + d ≤ 8) (hN : N = 2 ^ (a + d)) (hD : D = 2 ^ d)
    (hl : ∀ i, i < m → w.cell? ⟨B, o + i, none⟩ = some (.slice (some ⟨bv i, ov i, none⟩) N (cv i))) (hr : ∀ i, i < m → Row w (bv i) (ov i) N (fv i)) (hv : ∀ i, i < m → Nums (fv i)) (hp : PRow w aa a ga) (hg : Nums ga) :
    Calls Tryd.prog 7 #[.slice (some ⟨B, o, none⟩) m cap, .slice aa a ca] w fun e w' => e = .returned (.int .u64 (ofK (partS fv ga a d m D))) ∧ Below w.heap.size w w' := by
  have hN1 : 1 ≤ N := by rw [hN]; exact Nat.one_le_two_pow
  have hN2 : N ≤ 256 := by rw [hN]; exact Nat.pow_le_pow_right (j := 8) (by omega) hn
  have hD2 : D ≤ 256 := by rw [hD]; exact Nat.pow_le_pow_right (j := 8) (by omega) (by omega)
  have hBs : B < w.heap.size := World.block_lt_of_cell? w _ (hl 0 (by omega))
  have hs := shl_one (k := d) (by omega)
  rw [← hD] at hs
  have c0 := hl 0 (by omega)
  rw [Nat.add_zero] at c0
  have HVA := hid (rvars_ok (some ⟨bv 0, ov 0, none⟩) (a + d) N (cv 0) w hn hN)
  have HL := hid hl
  have HR := hid hr
  have HV := hid hv
  have HP := hid hp
  have HG := hid hg
  have HN := hid hN
  clear hl hr hv hp hg hN hD
  have ed : ((a : Int) + (d : Int) - (a : Int)) = (d : Int) := by omega
  have m1 : (0 : Int) < (m : Int) := by omega
  have wd : IntKind.i64.wrap (d : Int) = (d : Int) := IntWalk.i64_in _ (by omega)
  go_enter Tryd.func7, Tryd.ntmps7
  go_wp2_with (go_at_call 6; refine (HVA.out).mono ?_; rintro e w' ⟨rfl, hw⟩; obtain rfl := hw.symm)
  clear HVA c0
  go_loopg [6, 7] D (fun q x i wr => ∃ (k : Nat) (z : Int), k ≤ D ∧ q = D - k ∧ x = .int .u64 z ∧ i = .int .i64 (k : Int) ∧ 0 ≤ z ∧ z ≤ 2305843009213693950 ∧ Hid (z = ofK (partS fv ga a d m k)) ∧ Hid (Below w.heap.size w wr))
  case atStart => exact ⟨0, 0, by omega, rfl, rfl, rfl, by omega, by omega, hid rfl, hid (Below.refl _ _)⟩
  case round =>
    obtain ⟨k, z, hk, rfl, rfl, rfl, z0, z1, HZ, HB⟩ := hrel
    by_cases hlt : k < D
    · go_wp2_with fail
      clear hs
      go_loopg [8, 9] m (fun q x i wr => ∃ (t : Nat) (p : Int), t ≤ m ∧ q = m - t ∧ x = .int .u64 p ∧ i = .int .i64 (t : Int) ∧ 0 ≤ p ∧ p ≤ 2305843009213693950 ∧ Hid (p = ofK (partP fv ga a d k t)) ∧ Hid (Below w.heap.size w wr))
      case atStart => exact ⟨0, 1, by omega, rfl, rfl, rfl, by omega, by omega, hid rfl, HB⟩
      case round =>
        clear HB
        obtain ⟨t, p, ht, rfl, rfl, rfl, p0, p1, HPR, HB⟩ := hrel
        by_cases hlt2 : t < m
        · have c1 := (HB.out.cell hBs).trans (HL.out t hlt2)
          have hBw : B < wr.heap.size := Nat.lt_of_lt_of_le hBs HB.out.size
          have t0 : (0 : Int) ≤ (t : Int) := by omega
          have t1 : (t : Int) < (m : Int) := by omega
          have hrt := HR.out t hlt2
          have HRT := hid (hrt.kept HB.out (hrt.lt (by omega)))
          have HAP := hid (HP.out.kept HB.out)
          clear hrt
          have hmul := fun p h => part_mul fv ga a d k t p h
          have hev := fun w' b' c' (h1 : Row w' (bv t) (ov t) N (fv t)) h2 => reval_any (bv t) (ov t) (a + d) N (cv t) c' b' (fv t) (catF a ga (bitF k d)) w' (by omega) HN.out (by omega) h1 (HV.out t hlt2) h2 (Nums_catp a HG.out (Nums_bitF k d))
          obtain ⟨e0, e1⟩ := ofK_rng (evS (fun j => kk (fv t j)) (fun j => kk (catF a ga (bitF k d) j)) (a + d))
          generalize ofK (evS (fun j => kk (fv t j)) (fun j => kk (catF a ga (bitF k d) j)) (a + d)) = y at hmul hev e0 e1
          have HMU := hid (hmul p HPR.out)
          have HEV := hid hev
          clear hmul hev
          have hBr : bv t < wr.heap.size := HRT.out.lt (by omega)
          go_wp2_with fail
          go_region_with (first
            | (go_at_call 24; refine (rbits_any k d _ (by omega) (by omega)).mono ?_; rintro e w1 ⟨vb, rfl, hob, hbb, hzb⟩; obtain ⟨ab, cb, rfl, hpb, _⟩ := hob.is; have hb2 : Below wr.heap.size wr w1 := (by first | exact hbb | exact (Below.refl _ wr).drew.trans hbb); have c2 := (hb2.cell (p := ⟨B, o + t, none⟩) hBw).trans c1; have hB1 : B < w1.heap.size := Nat.lt_of_lt_of_le hBw hb2.size; have HC3 := hid (part_alloc (aa := aa) (a := a) (ca := ca) (ab := ab) (d := d) (cb := cb) (HB.out.trans (hb2.mono HB.out.size)) c2 (HRT.out.kept hb2 hBr) (by omega) (HAP.out.kept hb2) hpb); clear hob hbb hzb hpb hb2)
            | (go_at_call 23; refine (joined_two w1.heap.size 2 aa ab a ca d cb ga (bitF k d) _ (by exact HC3.out.j0) (by exact HC3.out.j1) (by exact HC3.out.pa) (by exact HC3.out.pb) (by omega) (by omega)).mono ?_; rintro e w2 ⟨vj, rfl, hoj, hbj⟩; obtain ⟨aj, cj, rfl, hpj, _⟩ := hoj.is; have c3 := (hbj.cell (p := ⟨B, o + t, none⟩) HC3.out.lt).trans HC3.out.c; have HRT2 := hid (HC3.out.r.kept hbj (HC3.out.r.lt (by omega))); have HPJ := hid hpj; have HB4 := hid (HC3.out.b.trans (hbj.mono HC3.out.b.size)); clear hoj hbj hpj)
            | (go_at_call 9; refine (HEV.out _ _ _ (by exact HRT2.out) (by exact HPJ.out)).mono ?_; rintro e w3 ⟨rfl, hb3⟩; have HB5 := hid (HB4.out.trans (hb3.mono HB4.out.size)); clear hb3)
            | (go_at_call 22; refine (rmul_any _ _ _ (by omega) (by omega) (by omega) (by omega)).mono ?_; rintro e w' ⟨rfl, hw⟩; obtain rfl := hw.symm))
          all_goals (go_wp2_with fail)
          all_goals (go_roundg (m - (t + 1)))
          all_goals first | (go_light; omega) | (exact ⟨t + 1, _, by omega, rfl, rfl, by go_num, (mulQ_rng _ _).1, (mulQ_rng _ _).2, HMU, HB5⟩)
        · have e : t = m := by omega
          subst e
          have HST := hid (part_add fv ga a d t k z p HZ.out HPR.out)
          go_wp2_with (go_at_call 25; refine (radd_any _ _ _ (by omega) (by omega) (by omega) (by omega)).mono ?_; rintro e w' ⟨rfl, hw⟩; obtain rfl := hw.symm)
          go_roundg (D - (k + 1))
          case measure => go_light; omega
          case rel => exact ⟨k + 1, _, by omega, rfl, rfl, by go_num, (addQ_rng _ _).1, (addQ_rng _ _).2, HST, HB⟩
    · have e : k = D := by omega
      subst e
      go_wp2_with fail
      go_ret
      exact ⟨ret_u64 HZ.out, HB.out⟩

end Go.Proofs.YtoogpkcpheannaaDoor
