/-
  A contract of tallyref's Holds, of right things; it makes new rows and writes nothing that was there.
-/
import Derived.Test.YtmhifjdgfhgajacDoorRefGk2
import Derived.Test.YtmhifjdgfhgajacDoorGkrH
import Derived.Test.YtmhifjdgfhgajacDoorRefTold
import Derived.Test.YtmhifjdgfhgajacDoorRefMle
import Derived.Test.YtmhifjdgfhgajacDoorRefWir2
import Derived.Test.YtmhifjdgfhgajacDoorRefN
import Derived.Deep.DeepCutAuto
import Derived.BigQuiet
import Derived.Test.YtmhifjdgfhgajacDoorRefAt
namespace Go.Proofs.YtmhifjdgfhgajacDoor
open Go.RowKit
set_option linter.unusedVariables false
attribute [local go_sem ↓] Go.wp_at_zero Go.wp_at_succ

theorem row_sub {w : World} {b o n : Nat} {f : Nat → Int} (h : Row w b o n f) (i k : Nat) (hk : i + k ≤ n) : Row w b (o + i) k (fun j => f (i + j)) := fun j hj => h.from i j (by omega)

set_option maxHeartbeats 8000000 in
set_option maxRecDepth 100000 in
theorem rholds_any (c : CQ) (g : Int) (b off n cap : Nat) (A : Nat → Option Addr) (C : Nat → Nat) (bi oi ni ci bo oo no co : Nat) (fi fo : Nat → Int) (ap : Option Addr) (np cp : Nat) (p : PQ) (m : PM) (bd od nd cd : Nat) (D : Nat → Int) (w : World)
    (hg : c.log = g) (hn : c.layers.length = n) (hr : CRow w (some ⟨b, off, none⟩) c.layers A C) (hc : c.right) (hp : p.n = np) (hpr : PfRow w ap p m) (hpn : p.nums) (hsh : shapedQ c p)
    (hi : Row w bi oi ni fi) (vi : Nums fi) (hni : ni = 2 ^ (partsQ c).lg n) (ho : Row w bo oo no fo) (vo : Nums fo) (hno : no = 2 ^ (partsQ c).lg 0) (hd : Row w bd od nd D) (vd : Nums D) (hnd : nd = needQ c) (hcd : nd ≤ cd) (hcd2 : cd ≤ maxLen) :
    Calls Tryd.prog 17 #[.agg #[.int .i64 g, .slice (some ⟨b, off, none⟩) n cap], .slice (some ⟨bi, oi, none⟩) ni ci, .slice (some ⟨bo, oo, none⟩) no co, .agg #[.slice ap np cp], .slice (some ⟨bd, od, none⟩) nd cd] w fun e w' =>
      ∃ r : Bool, e = .returned (.bool r) ∧ (r = true ↔ (partsQ c).holds D p.told (ofK (evS (fun j => kk (fo j)) (fun j => kk (D j)) ((partsQ c).lg 0))) (fun j => kk (fi j))) ∧ Below w.heap.size w w' := by
  have n4 : n ≤ 4 := by have := hc.few; omega
  have n1 : 1 ≤ n := by have := List.length_pos_iff.2 hc.some; omega
  have nd40 : nd ≤ 40 := by rw [hnd]; exact needQ_le hc
  obtain ⟨last, rfl⟩ : ∃ m, n = m + 1 := ⟨n - 1, by omega⟩
  obtain ⟨l0, hl0, hz0, _, _, _⟩ := parts_layer hc (j := 0) (by omega)
  rw [hn, show last + 1 - 1 - 0 = last from by omega] at hl0
  obtain ⟨lk0, hlk0⟩ : ∃ x, (partsQ c).lg 0 = x := ⟨_, rfl⟩
  have lk4 : lk0 ≤ 4 := by rw [← hlk0]; exact parts_lg hc 0
  have hlog0 : l0.log = (lk0 : Int) := by rw [← hlk0, hz0]; have := (hc.layer last l0 hl0).1; omega
  have hat0 : lk0 ≤ nd := by rw [hnd, ← hlk0]; exact Nat.le_trans (at_mono (partsQ c) (Nat.zero_le c.layers.length)) (Nat.le_refl _)
  obtain ⟨c0, hc0⟩ : ∃ x, ofK (evS (fun j => kk (fo j)) (fun j => kk (D j)) ((partsQ c).lg 0)) = x := ⟨_, rfl⟩
  have c00 : 0 ≤ c0 ∧ c0 ≤ 2305843009213693950 := by rw [← hc0]; exact ofK_rng _
  have HEV0 := hid (fun W (h : Below w.heap.size w W) => reval_any bo oo lk0 no co cd (some ⟨bd, od, none⟩) fo D W (by omega) (by rw [hno, hlk0]) (by rw [hno, hlk0]; exact Nat.le_trans (Nat.pow_le_pow_right (by omega) lk4) (by decide)) (ho.kept h (ho.lt (by rw [hno]; exact Nat.two_pow_pos _))) vo (PRow.of fun j hj => (hd.kept h (hd.lt (by omega))) j (by omega)) vd)
  rw [hc0]
  rw [hlk0] at hc0
  rw [hc0] at HEV0
  have HR := hid hr
  have HG := hid hg
  have HN := hid hn
  have HC := hid hc
  have HP := hid hp
  have HPR := hid hpr
  have HPN := hid hpn
  have HSH := hid hsh
  have HI := hid (And.intro hi (And.intro vi hni))
  have HD := hid hd
  have HVD := hid vd
  have HND := hid hnd
  have HLK := hid hlk0
  have HCC := hid c00
  have HS0 := hid (StP.start w g (.slice (some ⟨b, off, none⟩) (last + 1) cap) (.slice ap np cp) 24 33)
  obtain ⟨b', off', eb, hcl⟩ := hr hc.some
  cases eb
  have y0 := (hcl last l0 hl0).1
  rw [Nat.mul_comm 2 last, hlog0] at y0
  have HY0 := hid y0
  clear hr hg hn hc hp hpr hpn hsh hi vi hni ho vo hno hd vd hnd hlk0 hc0 c00 hcl hl0 hz0 hlog0 y0
  have s0 : (0 : Int) ≤ (last : Int) := by omega
  have s1 : (last : Int) < (last : Int) + 1 := by omega
  have s2 : (lk0 : Int) ≤ (cd : Int) := by omega
  have y0' : ∀ o o', ((w.alloc o).alloc o').cell? ⟨b, off + last * 2, none⟩ = some (.int .i64 (lk0 : Int)) := fun o o' => by
    have h1 := (Below.refl w.heap.size w).alloc (Nat.le_refl _) o
    have h2 := (Below.refl (w.alloc o).heap.size (w.alloc o)).alloc (Nat.le_refl _) o'
    have hb := World.block_lt_of_cell? w _ HY0.out
    exact (h2.cell (Nat.lt_of_lt_of_le hb h1.size)).trans ((h1.cell hb).trans HY0.out)
  go_enter Tryd.func17, Tryd.ntmps17
  go_wp2_with fail
  clear y0'
  obtain ⟨B, hB⟩ : ∃ B, w.heap.size = B := ⟨_, rfl⟩
  have HS1 : Hid (StP w ((w.alloc (.cells #[.int .i64 g, .slice (some ⟨b, off, none⟩) (last + 1) cap] 24)).alloc (.cells #[.slice ap np cp] 33)) B g (.slice (some ⟨b, off, none⟩) (last + 1) cap) (B + 1) (.slice ap np cp)) := hid (by rw [← hB]; exact HS0.out)
  rw [hB]
  clear hB HS0
  generalize (w.alloc (.cells #[.int .i64 g, .slice (some ⟨b, off, none⟩) (last + 1) cap] 24)).alloc (.cells #[.slice ap np cp] 33) = W1 at HS1 ⊢
  refine (HEV0.out _ HS1.out.st.bel).mono ?_
  rintro e w1 ⟨rfl, hb⟩
  have HS2 := hid (HS1.out.next hb)
  clear hb HS1 HEV0
  go_wp2_with fail
  have HZ0 : Hid (PRow w1 (some ⟨bd, od, none⟩) lk0 (zQ (partsQ c) D 0)) := hid (PRow.of fun j hj => (HD.out.kept HS2.out.st.bel (HD.out.lt (by omega))) j (by omega))
  go_loopg [12, 13, 14, 15] (last + 1) (fun q z a s j wr => ∃ (t at' : Nat) (az : Option Addr) (lk cz : Nat) (cl : Int), t ≤ last + 1 ∧ q = last + 1 - t ∧ z = .slice az lk cz ∧ a = .int .i64 (at' : Int) ∧ s = .int .u64 cl ∧ j = .int .i64 (t : Int) ∧ lk ≤ 4 ∧ at' ≤ nd ∧ 0 ≤ cl ∧ cl ≤ 2305843009213693950 ∧ Hid (at' = (partsQ c).at t) ∧ Hid ((partsQ c).lg t = lk) ∧ Hid (cl = (partsQ c).claim D p.told c0 t) ∧ Hid (PRow wr az lk (zQ (partsQ c) D t)) ∧ Hid (∀ j, j < t → (partsQ c).part D p.told c0 j) ∧ Hid (StP w wr B g (.slice (some ⟨b, off, none⟩) (last + 1) cap) (B + 1) (.slice ap np cp)))
  case atStart => exact ⟨0, lk0, _, lk0, cd, c0, by omega, rfl, rfl, rfl, rfl, rfl, lk4, hat0, HCC.out.1, HCC.out.2, hid HLK.out.symm, HLK, hid rfl, HZ0, hid (fun j hj => absurd hj (by omega)), HS2⟩
  case round =>
    clear HZ0 HS2
    obtain ⟨t, a, az, lk, cz, cl, ht, rfl, rfl, rfl, rfl, rfl, hlk, ha, cl0, cl1, HA, HLG, HCL, HZ, HOK, HS⟩ := hrel
    obtain ⟨z0, z1, zl⟩ := HS.out.st.box
    have zp := HS.out.pc
    by_cases htl : t < last + 1
    · obtain ⟨i, hi⟩ : ∃ i : Nat, i + t = last := ⟨last - t, by omega⟩
      obtain ⟨bk, hbk, bk4⟩ := belowQ_rng HC.out i
      have HBK := hid (lg_next HN.out (show i + t + 1 = last + 1 by omega) hbk)
      have HBE : Hid (∀ W, Below w.heap.size w W → Calls Tryd.prog 22 #[.agg #[.int .i64 g, .slice (some ⟨b, off, none⟩) (last + 1) cap], .int .i64 (i : Int)] W fun e w' => e = .returned (.int .i64 (bk : Int)) ∧ Below W.heap.size W w') := hid (fun W h => by rw [← hbk]; exact rbelow_any c g b off (last + 1) cap i A C W HG.out HN.out n4 (by omega) (HR.out.kept h))
      have hfit : a + 2 * bk + 1 ≤ nd := by have h := at_fits (c := c) (j := t) (by rw [HN.out]; exact htl); rw [← HA.out, HBK.out, ← HND.out] at h; exact h
      have hni : (last : Int) - (t : Int) = (i : Int) := by omega
      have t1 : (t : Int) ≤ (last : Int) := by omega
      have HII := hid hi
      clear hbk hi
      go_wp2_with fail
      refine (HBE.out _ HS.out.st.bel).mono ?_
      rintro e w2 ⟨rfl, hb⟩
      have HS3 := hid (HS.out.next hb)
      have HZ3 := hid (HZ.out.kept hb)
      clear hb HS z0 z1 zl zp hni HBE HZ t1
      obtain ⟨e1, he1⟩ : ∃ x, a + bk = x := ⟨_, rfl⟩
      obtain ⟨k2, hk2⟩ : ∃ x, 2 * bk = x := ⟨_, rfl⟩
      obtain ⟨e2, he2⟩ : ∃ x, a + k2 = x := ⟨_, rfl⟩
      have a0 : (0 : Int) ≤ (a : Int) := by omega
      have a1 : (a : Int) ≤ (e1 : Int) := by omega
      have a2 : (e1 : Int) ≤ (cd : Int) := by omega
      have a3 : (e1 : Int) ≤ (e2 : Int) := by omega
      have a4 : (e2 : Int) ≤ (cd : Int) := by omega
      have a5 : IntKind.i64.wrap ((a : Int) + (bk : Int)) = (e1 : Int) := by rw [show (a : Int) + (bk : Int) = (e1 : Int) from by omega]; exact IntWalk.i64_in _ (by omega)
      have a6 : IntKind.i64.wrap (2 * (bk : Int)) = (k2 : Int) := by rw [show 2 * (bk : Int) = (k2 : Int) from by omega]; exact IntWalk.i64_in _ (by omega)
      have a7 : IntKind.i64.wrap ((a : Int) + (k2 : Int)) = (e2 : Int) := by rw [show (a : Int) + (k2 : Int) = (e2 : Int) from by omega]; exact IntWalk.i64_in _ (by omega)
      have b0 : (0 : Int) ≤ (e1 : Int) := by omega
      have b1 : (0 : Int) ≤ (e2 : Int) := by omega
      have hs1 : e1 - a = bk := by omega
      have hs2 : e2 - e1 = bk := by omega
      have hs3 : e2 - a = k2 := by omega
      have hca : ¬ cd = a := by omega
      have hce : ¬ cd = e1 := by omega
      have HE := hid (And.intro he1 (And.intro hk2 he2))
      have hfit2 : e2 + 1 ≤ nd := by omega
      clear he1 hk2 he2
      go_wp2_with fail
      go_quiet (fail)
      have HS4 : Hid (StP w (w2.drewN nq) B g (.slice (some ⟨b, off, none⟩) (last + 1) cap) (B + 1) (.slice ap np cp)) := hid (HS3.out.next ⟨rfl, rfl, rfl, Nat.le_refl _, fun _ _ => rfl⟩)
      have HZ4 : Hid (PRow (w2.drewN nq) az lk (zQ (partsQ c) D t)) := hid HZ3.out
      clear HS3 HZ3 a5 a6 a7 a1 a2 a3 b0 hs1 hs2 hce
      generalize w2.drewN nq = w3 at HS4 HZ4 ⊢
      have HDR := hid (HD.out.kept HS4.out.st.bel (HD.out.lt (by omega)))
      have ct := HDR.out e2 (by omega)
      obtain ⟨tau, htau⟩ : ∃ x, D e2 = x := ⟨_, rfl⟩
      obtain ⟨tau0, tau1⟩ := HVD.out e2
      rw [htau] at ct tau0 tau1
      have HTAU := hid htau
      have h6 : 2 * (bk : Int) = (k2 : Int) := by have := HE.out.2.1; omega
      have h7 : (a : Int) + (k2 : Int) = (e2 : Int) := by have := HE.out.2.2; omega
      have h8 : (e2 : Int) < (nd : Int) := by omega
      clear htau
      go_upto_region 12 with fail
      clear ct h6 h7 h8
      have hpt : t < p.n := by rw [HSH.out.1, HN.out]; exact htl
      obtain ⟨pb, po, rfl, hcl⟩ := HPR.out.kept HS4.out.st.bel (by omega)
      obtain ⟨y0, y1, y2, y3⟩ := hcl t hpt
      obtain ⟨sh1, sh2, sh3⟩ := HSH.out.2 t hpt
      have hrn : p.rn t = k2 := by rw [sh1, HBK.out, HE.out.2.1]
      have hln : p.ln t = bk + 1 := by rw [sh2, HBK.out]
      rw [Nat.mul_comm 2 t] at y0 y1
      rw [hrn] at y0 y2 sh3
      rw [hln] at y1 y3
      obtain ⟨vR, vL⟩ := HPN.out t hpt
      rw [hrn] at vR
      obtain ⟨ra, hra⟩ : ∃ x, m.ra t = x := ⟨_, rfl⟩
      obtain ⟨rc, hrc⟩ : ∃ x, m.rc t = x := ⟨_, rfl⟩
      obtain ⟨la, hla⟩ : ∃ x, m.la t = x := ⟨_, rfl⟩
      obtain ⟨lc, hlc⟩ : ∃ x, m.lc t = x := ⟨_, rfl⟩
      rw [hra, hrc] at y0
      rw [hla, hlc] at y1
      rw [hra] at y2
      rw [hla] at y3
      have hnow : ∀ r, nrm (toldQ cl (p.R t) 3 (fun i => D (a + i)) r) = (partsQ c).now D p.told c0 t r := fun r => by rw [HCL.out, HA.out]; exact now_nrm HCC.out.1 HCC.out.2 (partsQ c) D p.told t r
      obtain ⟨tr, nw, nw0, nw1, htr, hnw, hto⟩ : ∃ (tr : Bool) (nw : Int), 0 ≤ nw ∧ nw ≤ 2305843009213693950 ∧ (tr = true ↔ ∀ r, r < k2 → addQ (p.R t r 0) (p.R t r 1) = (partsQ c).now D p.told c0 t r) ∧ (tr = true → nw = (partsQ c).now D p.told c0 t k2) ∧ ∀ W, Below w3.heap.size w3 W → Calls Tryd.prog 50 #[.int .u64 cl, .slice ra k2 rc, .slice (some ⟨bd, od + a, none⟩) k2 (cd - a)] W fun e w' => e = .returned (.tuple #[.int .u64 nw, .bool tr]) ∧ Below W.heap.size W w' := by
        have hk9 : k2 ≤ 8 := by have := HE.out.2.1; omega
        have hsub : ∀ W, Below w3.heap.size w3 W → PRow W (some ⟨bd, od + a, none⟩) k2 (fun i => D (a + i)) := fun W hW => PRow.of (row_sub (HDR.out.kept hW (HDR.out.lt (by omega))) a k2 (by have := HE.out.2.2; omega))
        rcases first_bad (fun r => addQ (p.R t r 0) (p.R t r 1) = (partsQ c).now D p.told c0 t r) k2 with hall | ⟨r, hr, hno, hall⟩
        · have hrg := nrm_rng (toldQ cl (p.R t) 3 (fun i => D (a + i)) k2)
          rw [hnow] at hrg
          refine ⟨true, _, hrg.1, hrg.2, ⟨fun _ => hall, fun _ => rfl⟩, fun _ => rfl, fun W hW => ?_⟩
          have h := told_ok ra (some ⟨bd, od + a, none⟩) k2 rc (cd - a) 3 (m.A t) (p.rl t) (m.C t) (p.R t) (fun i => D (a + i)) cl W (by omega) (by omega) (by omega) (by omega) (by omega) (y2.kept hW) sh3 vR (hsub W hW) (Nums_from HVD.out a) (fun k hk => by rw [hall k hk, hnow k])
          rw [hnow] at h
          exact h
        · refine ⟨false, 0, by omega, by omega, ⟨fun h => absurd h Bool.false_ne_true, fun h => absurd (h r hr) hno⟩, fun h => absurd h Bool.false_ne_true, fun W hW => ?_⟩
          exact told_bad ra (some ⟨bd, od + a, none⟩) k2 rc (cd - a) 3 (m.A t) (p.rl t) (m.C t) (p.R t) (fun i => D (a + i)) cl W (by omega) (by omega) (by omega) (by omega) (by omega) (y2.kept hW) sh3 vR (hsub W hW) (Nums_from HVD.out a) r hr (fun k hk => by rw [hall k hk, hnow k]) (by rw [hnow r]; exact hno)
      have HTO := hid hto
      have HTR := hid (And.intro htr hnw)
      have HY1 := hid y1
      have HY3 := hid y3
      have HVL := hid vL
      clear hto htr hnw hnow y1 y2 y3 hcl sh1 sh2 sh3 hrn hln vR vL hra hrc hla hlc
      have zp := HS4.out.pc
      have t0 : (0 : Int) ≤ (t : Int) := by omega
      have t1 : (t : Int) < (np : Int) := by have := HP.out; omega
      have i6 : IntKind.i64.wrap (2 * (bk : Int)) = (k2 : Int) := by rw [show 2 * (bk : Int) = (k2 : Int) from by have := HE.out.2.1; omega]; exact IntWalk.i64_in _ (by omega)
      have i7 : IntKind.i64.wrap ((a : Int) + (k2 : Int)) = (e2 : Int) := by rw [show (a : Int) + (k2 : Int) = (e2 : Int) from by have := HE.out.2.2; omega]; exact IntWalk.i64_in _ (by omega)
      have a1 : (a : Int) ≤ (e2 : Int) := by have := HE.out.2.2; omega
      go_region_held3 (fun W => W.cell? ⟨B + 1, 0, none⟩ = some (.slice (some ⟨pb, po, none⟩) np cp) ∧ W.cell? ⟨pb, po + t * 2, none⟩ = some (.slice ra k2 rc)) (first | assumption | exact ⟨zp, y0⟩ | exact zx) (first
        | (go_at_call 50; refine (HTO.out _ (Below.refl _ w3).drew).mono ?_; rintro e w4 ⟨rfl, hb⟩; have hbA : Below w3.heap.size w3 w4 := (Below.refl _ w3).drew.trans hb; have zx : w4.cell? ⟨B + 1, 0, none⟩ = some (.slice (some ⟨pb, po, none⟩) np cp) ∧ w4.cell? ⟨pb, po + t * 2, none⟩ = some (.slice ra k2 rc) := ⟨(hbA.cell (World.block_lt_of_cell? w3 _ zp)).trans zp, (hbA.cell (World.block_lt_of_cell? w3 _ y0)).trans y0⟩; clear hb))
      have HS5 := hid (HS4.out.next hbA)
      have HZ5 := hid (HZ4.out.kept hbA)
      have HDR5 := hid (HDR.out.kept hbA (HDR.out.lt (by omega)))
      have y1 := (hbA.cell (World.block_lt_of_cell? w3 _ HY1.out)).trans HY1.out
      obtain ⟨lb, lo, rfl, hlr⟩ := HY3.out.kept hbA (by omega)
      have HLR := hid hlr
      clear hbA zp zx y0 HS4 HZ4 HDR HTO HY1 HY3 hlr i6 i7 a1
      have zp := HS5.out.pc
      have v0 := HLR.out 0 (by omega)
      rw [Nat.add_zero] at v0
      obtain ⟨x0, hx0⟩ : ∃ x, p.L t 0 = x := ⟨_, rfl⟩
      obtain ⟨x00, x01⟩ := HVL.out 0
      rw [hx0] at v0 x00 x01
      have HX0 := hid hx0
      clear hx0
      have l1 : (0 : Int) < (bk : Int) + 1 := by omega
      obtain ⟨vy, hvy⟩ : ∃ x, nrm ((partsQ c).v1 p.told t) = x := ⟨_, rfl⟩
      have HVY := hid hvy
      clear hvy
      go_upto_if 109 with (go_at_call 51; refine (rnorm_any _ _ (by omega) (by omega)).mono ?_; rintro e w' ⟨rfl, hw⟩; obtain rfl := hw.symm)
      go_cut [24] (fun a24 wx => a24 = .int .u64 vy ∧ wx = w4)
      case first =>
        by_cases hb0 : bk = 0
        · have e3 : vy = nrm x0 := by rw [← HVY.out, Parts.v1, HBK.out, if_pos hb0, ← HX0.out]; rfl
          have hk0 : ¬ ((0 : Int) < (bk : Int)) := by omega
          clear hb0
          go_wp2_with fail
          go_meet
          exact ⟨by rw [e3], rfl⟩
        · have hk0 : (0 : Int) < (bk : Int) := by omega
          have v1 := HLR.out 1 (by omega)
          obtain ⟨x1, hx1⟩ : ∃ x, p.L t 1 = x := ⟨_, rfl⟩
          obtain ⟨x10, x11⟩ := HVL.out 1
          rw [hx1] at v1 x10 x11
          have e3 : vy = nrm x1 := by rw [← HVY.out, Parts.v1, HBK.out, if_neg hb0, ← hx1]; rfl
          have l2 : (1 : Int) < (bk : Int) + 1 := by omega
          clear hx1
          go_wp2_with (go_at_call 51; refine (rnorm_any _ _ (by omega) (by omega)).mono ?_; rintro e w' ⟨rfl, hw⟩; obtain rfl := hw.symm)
          go_meet
          exact ⟨by rw [e3], rfl⟩
      case rest =>
        obtain ⟨rfl, hwc⟩ := hcut
        subst hwc
        obtain ⟨vy0, vy1⟩ := nrm_rng ((partsQ c).v1 p.told t)
        rw [HVY.out] at vy0 vy1
        obtain ⟨l, hl, hlg, hlen, _, hgo⟩ := parts_layer HC.out (j := t) (by rw [HN.out]; exact htl)
        rw [HN.out, show last + 1 - 1 - t = i from by have := HII.out; omega] at hl
        rw [HLG.out] at hlen
        rw [HBK.out] at hgo
        have HL := hid hl
        have HASK : Hid (∀ W, Below wc.heap.size wc W → Ask W l b off (last + 1) i (A i) (C i) az (some ⟨bd, od + a, none⟩) (some ⟨bd, od + e1, none⟩) lk bk bk (2 ^ lk) (2 ^ bk) (zQ (partsQ c) D t) (fun i => D (a + i)) (fun i => D (e1 + i))) := hid (fun W hW => by
          have hbw := HS5.out.st.bel.trans (hW.mono HS5.out.st.bel.size)
          obtain ⟨b', off', eb, hcl⟩ := HR.out.kept hbw HC.out.some
          cases eb
          obtain ⟨_, c1, c2, _⟩ := hcl i l HL.out
          have hdr := HDR5.out.kept hW (HDR5.out.lt (by omega))
          have h1 := HE.out.1
          have h2 := HE.out.2.1
          have h3 := HE.out.2.2
          exact ⟨by have := HII.out; omega, n4, rfl, Nat.le_trans (Nat.pow_le_pow_right (by omega) hlk) (by decide), Nat.le_trans (Nat.pow_le_pow_right (by omega) bk4) (by decide), hlk, bk4, rfl, hlen, hgo, by rw [← hlen]; exact c1, c2, HZ5.out.kept hW, PRow.of (row_sub hdr a bk (by omega)), PRow.of (row_sub hdr e1 bk (by omega)), Nums_zQ HVD.out _ _, Nums_from HVD.out a, Nums_from HVD.out e1⟩)
        have HSTP : Hid (wstQ l.gates lk bk (zQ (partsQ c) D t) (fun i => D (a + i)) (fun i => D (e1 + i)) x0 vy = ofK (stepK ((partsQ c).M t) ((partsQ c).A t) ((partsQ c).B t) ((partsQ c).lg t) ((partsQ c).lg (t + 1)) ((partsQ c).z D t) ((partsQ c).d D t) (fun i => (partsQ c).d D t ((partsQ c).lg (t + 1) + i)) (kk (p.told.L t 0)) (kk ((partsQ c).v1 p.told t)))) := hid (by
          have h := part_step (c := c) (n := last + 1) (i := i) (t := t) (lk := lk) (bk := bk) HN.out (by have := HII.out; omega) HL.out HLG.out HBK.out D p.told x0 vy (by rw [← HX0.out]; rfl) (by rw [← HVY.out, kk_nrm])
          rw [← HA.out, HE.out.1] at h
          exact h)
        obtain ⟨sv, hsv⟩ : ∃ x, wstQ l.gates lk bk (zQ (partsQ c) D t) (fun i => D (a + i)) (fun i => D (e1 + i)) x0 vy = x := ⟨_, rfl⟩
        have HSC := hid (fun W (h : Below wc.heap.size wc W) => rstep_ask (HASK.out W h) g cap cz (cd - a) (cd - e1) x0 vy (by omega) (by omega) (by omega) (by omega))
        rw [hsv] at HSC HSTP
        clear hl hlg hlen hgo hsv HASK
        obtain ⟨z0, z1, zl⟩ := HS5.out.st.box
        have HPART : Hid ((partsQ c).part D p.told c0 t ↔ tr = true ∧ sv = nw) := hid (by
          have hk2 : (partsQ c).lg (t + 1) + (partsQ c).lg (t + 1) = k2 := by rw [HBK.out]; have := HE.out.2.1; omega
          constructor
          · intro h
            have h1 : tr = true := HTR.out.1.2 (fun r hr => h.sums r (by rw [hk2]; exact hr))
            refine ⟨h1, ?_⟩
            rw [HSTP.out, HTR.out.2 h1, ← hk2]
            exact h.step
          · rintro ⟨h1, h2⟩
            refine ⟨fun r hr => HTR.out.1.1 h1 r (by rw [← hk2]; exact hr), ?_⟩
            rw [hk2, ← HTR.out.2 h1, ← h2, ← HSTP.out])
        clear HSTP HTR
        cases tr with
        | false =>
          have HNO : Hid (¬ (partsQ c).holds D p.told c0 (fun j => kk (fi j))) := hid (fun h => Bool.false_ne_true (HPART.out.1 (h.1 t (show t < c.layers.length by rw [HN.out]; exact htl))).1)
          go_wp2_with fail
          go_quiet (fail)
          go_wp2_with fail
          go_ret
          exact ⟨false, rfl, ⟨fun h => absurd h Bool.false_ne_true, fun h => absurd h HNO.out⟩, ⟨HS5.out.st.bel.os, HS5.out.st.bel.tape, HS5.out.st.bel.output, HS5.out.st.bel.size, HS5.out.st.bel.block⟩⟩
        | true =>
          have zx0 : wc.cell? ⟨B, 0, none⟩ = some (.int .i64 g) ∧ wc.cell? ⟨B, 1, none⟩ = some (.slice (some ⟨b, off, none⟩) (last + 1) cap) ∧ wc.cell? ⟨lb, lo, none⟩ = some (.int .u64 x0) := ⟨z0, z1, v0⟩
          by_cases hsn : sv = nw
          · have e4 : (sv != nw) = false := neq_of hsn
            go_wp2_with fail
            go_region_held3 (fun W => W.cell? ⟨B, 0, none⟩ = some (.int .i64 g) ∧ W.cell? ⟨B, 1, none⟩ = some (.slice (some ⟨b, off, none⟩) (last + 1) cap) ∧ W.cell? ⟨lb, lo, none⟩ = some (.int .u64 x0)) (first | assumption | exact zx0 | exact zx) (first
              | (go_at_call 37; refine (HSC.out _ (Below.refl _ wc).drew).mono ?_; rintro e w5 ⟨rfl, hb⟩; have hbA : Below wc.heap.size wc w5 := (Below.refl _ wc).drew.trans hb; have zx : w5.cell? ⟨B, 0, none⟩ = some (.int .i64 g) ∧ w5.cell? ⟨B, 1, none⟩ = some (.slice (some ⟨b, off, none⟩) (last + 1) cap) ∧ w5.cell? ⟨lb, lo, none⟩ = some (.int .u64 x0) := ⟨(hbA.cell (World.block_lt_of_cell? wc _ z0)).trans z0, (hbA.cell (World.block_lt_of_cell? wc _ z1)).trans z1, (hbA.cell (World.block_lt_of_cell? wc _ v0)).trans v0⟩; clear hb))
            have HS6 := hid (HS5.out.next hbA)
            have HDR6 := hid (HDR5.out.kept hbA (HDR5.out.lt (by omega)))
            have HLR6 := hid (HLR.out.kept hbA (HLR.out.lt (by omega)))
            have HPA := hid (HPART.out.2 ⟨(by first | rfl | trivial), hsn⟩)
            clear hbA zx zx0 HS5 HDR5 HLR HPART HSC z0 z1 zl v0 zp y1
            have HATC := hid (fun W (h : Below w5.heap.size w5 W) => rat_any lb lo (bk + 1) lc (p.L t) tau W (by omega) (HLR6.out.kept h (HLR6.out.lt (by omega))) HVL.out (by omega) (by omega))
            have HLIN := hid (fun W (h : Below w5.heap.size w5 W) => rline_any (some ⟨bd, od + a, none⟩) (some ⟨bd, od + e1, none⟩) bk (cd - a) (cd - e1) (fun i => D (a + i)) (fun i => D (e1 + i)) tau W (by omega) (PRow.of (row_sub (HDR6.out.kept h (HDR6.out.lt (by omega))) a bk (by have h1 := HE.out.1; have h2 := HE.out.2.1; have h3 := HE.out.2.2; omega))) (PRow.of (row_sub (HDR6.out.kept h (HDR6.out.lt (by omega))) e1 bk (by have h1 := HE.out.1; have h2 := HE.out.2.1; have h3 := HE.out.2.2; omega))) (Nums_from HVD.out a) (Nums_from HVD.out e1) (by omega) (by omega))
            obtain ⟨cl', hcl'⟩ : ∃ x, atQ (p.L t) (bk + 1) tau = x := ⟨_, rfl⟩
            rw [hcl'] at HATC
            have hclr := atQ_rng (p.L t) (bk + 1) tau
            rw [hcl'] at hclr
            have HCL' : Hid (cl' = (partsQ c).claim D p.told c0 (t + 1)) := hid (by
              show cl' = atQ (p.L t) ((partsQ c).lg (t + 1) + 1) (D ((partsQ c).at t + 2 * (partsQ c).lg (t + 1)))
              rw [HBK.out, ← HA.out, HE.out.2.1, HE.out.2.2, HTAU.out, hcl'])
            have HZN : Hid (∀ j, linQ (fun i => D (a + i)) (fun i => D (e1 + i)) tau j = zQ (partsQ c) D (t + 1) j) := hid (fun j => by
              show _ = linQ (fun i => D ((partsQ c).at t + i)) (fun i => D ((partsQ c).at t + (partsQ c).lg (t + 1) + i)) (D ((partsQ c).at t + 2 * (partsQ c).lg (t + 1))) j
              rw [HBK.out, ← HA.out, HE.out.1, HE.out.2.1, HE.out.2.2, HTAU.out])
            clear hcl'
            go_wp2_with fail
            refine (HATC.out _ (Below.refl _ w5)).mono ?_
            rintro e w' ⟨rfl, hw⟩
            obtain rfl := hw.symm
            clear hw
            go_wp2_with fail
            refine (HLIN.out _ (Below.refl _ w5)).mono ?_
            rintro e w7 ⟨vz, rfl, hoz, hb⟩
            obtain ⟨az7, cz7, rfl, hpz, _⟩ := hoz.is
            have HS7 := hid (HS6.out.next hb)
            have HZ7 : Hid (PRow w7 az7 bk (zQ (partsQ c) D (t + 1))) := hid (hpz.congr fun j _ => HZN.out j)
            clear hb hoz hpz HS6 HDR6 HLR6 HATC HLIN HZN
            obtain ⟨cl0', cl1'⟩ := hclr
            go_wp2_with fail
            go_roundg (last + 1 - (t + 1))
            case measure => go_light; omega
            case rel => exact ⟨t + 1, e2 + 1, az7, bk, cz7, cl', by omega, rfl, rfl, by (have h1 := HE.out.2.1; have h2 := HE.out.2.2; go_num), rfl, by go_num, bk4, by omega, cl0', cl1', hid (by
              show e2 + 1 = (partsQ c).at t + 2 * (partsQ c).lg (t + 1) + 1
              rw [HBK.out, ← HA.out, HE.out.2.1, HE.out.2.2]), HBK, HCL', HZ7, hid (fun j hj => by
                by_cases e : j = t
                · rw [e]; exact HPA.out
                · exact HOK.out j (by omega)), HS7⟩
          · have e4 : (sv != nw) = true := by simp [hsn]
            have HNO : Hid (¬ (partsQ c).holds D p.told c0 (fun j => kk (fi j))) := hid (fun h => hsn (HPART.out.1 (h.1 t (show t < c.layers.length by rw [HN.out]; exact htl))).2)
            go_wp2_with fail
            go_region_held3 (fun W => W.cell? ⟨B, 0, none⟩ = some (.int .i64 g) ∧ W.cell? ⟨B, 1, none⟩ = some (.slice (some ⟨b, off, none⟩) (last + 1) cap) ∧ W.cell? ⟨lb, lo, none⟩ = some (.int .u64 x0)) (first | assumption | exact zx0 | exact zx) (first
              | (go_at_call 37; refine (HSC.out _ (Below.refl _ wc).drew).mono ?_; rintro e w5 ⟨rfl, hb⟩; have hbA : Below wc.heap.size wc w5 := (Below.refl _ wc).drew.trans hb; have zx : w5.cell? ⟨B, 0, none⟩ = some (.int .i64 g) ∧ w5.cell? ⟨B, 1, none⟩ = some (.slice (some ⟨b, off, none⟩) (last + 1) cap) ∧ w5.cell? ⟨lb, lo, none⟩ = some (.int .u64 x0) := ⟨(hbA.cell (World.block_lt_of_cell? wc _ z0)).trans z0, (hbA.cell (World.block_lt_of_cell? wc _ z1)).trans z1, (hbA.cell (World.block_lt_of_cell? wc _ v0)).trans v0⟩; clear hb))
            have HS6 := hid (HS5.out.next hbA)
            clear hbA zx zx0 HS5
            go_wp2_with fail
            go_ret
            exact ⟨false, rfl, ⟨fun h => absurd h Bool.false_ne_true, fun h => absurd h HNO.out⟩, HS6.out.st.bel⟩
    · have e : t = last + 1 := by omega
      have t1 : ¬ ((t : Int) ≤ (last : Int)) := by omega
      obtain ⟨hri, vi, hni⟩ := HI.out
      have hlk2 : (partsQ c).lg (last + 1) = lk := by rw [← e]; exact HLG.out
      have HEV := hid (reval_any bi oi lk ni ci cz az fi (zQ (partsQ c) D t) wr (by omega) (by rw [hni, hlk2]) (by rw [hni, hlk2]; exact Nat.le_trans (Nat.pow_le_pow_right (by omega) hlk) (by decide)) (hri.kept HS.out.st.bel (hri.lt (by rw [hni]; exact Nat.two_pow_pos _))) vi HZ.out (Nums_zQ HVD.out _ _))
      obtain ⟨ev, hev⟩ : ∃ x, ofK (evS (fun j => kk (fi j)) (fun j => kk (zQ (partsQ c) D t j)) lk) = x := ⟨_, rfl⟩
      rw [hev] at HEV
      have HFIN : Hid ((ev == cl) = true ↔ (partsQ c).holds D p.told c0 (fun j => kk (fi j))) := hid (by
        have hz : (fun j => kk (zQ (partsQ c) D t j)) = (partsQ c).z D t := by funext j; exact kk_zQ _ _ _ _
        rw [beq_iff_eq, ← hev, hz, HCL.out]
        have hnn : (partsQ c).n = t := by show c.layers.length = t; rw [HN.out, e]
        unfold Parts.holds
        rw [hnn, HLG.out]
        exact ⟨fun h => ⟨fun j hj => HOK.out j hj, h⟩, fun h => h.2⟩)
      clear hri vi hni hlk2 hev
      go_wp2_with fail
      refine (HEV.out).mono ?_
      rintro e w9 ⟨rfl, hb⟩
      have HS9 := hid (HS.out.next hb)
      clear hb
      go_wp2_with fail
      go_ret
      exact ⟨_, rfl, HFIN.out, HS9.out.st.bel⟩

end Go.Proofs.YtmhifjdgfhgajacDoor
