/-
  A contract of package gkr's Verify, of right circuits and proofs of a right form: whether the proof holds; it makes new rows and writes nothing that was there.
-/
import Derived.Test.YtaiaillaihlhpafDoorGk10
namespace Go.Proofs.YtaiaillaihlhpafDoor
open Go.RowKit
set_option linter.unusedVariables false
attribute [local go_sem ↓] Go.wp_at_zero Go.wp_at_succ

/-- What Verify tells of right things. -/
def verOut (H : Prop) (w : World) (e : Ending) (w' : World) : Prop := ∃ r : Bool, e = .returned (.tuple #[.bool r, .int .i64 0]) ∧ (r = true ↔ H) ∧ Below w.heap.size w w'
/-- The nine cells that a turn's call reads. -/
abbrev NineC (TB X pb po : Nat) (p q r s u v vp x y : Value) (W : World) : Prop := (W.cell? ⟨TB, 0, none⟩ = some p ∧ W.cell? ⟨TB, 1, none⟩ = some q ∧ W.cell? ⟨TB, 2, none⟩ = some r ∧ W.cell? ⟨TB, 3, none⟩ = some s) ∧ (W.cell? ⟨X, 0, none⟩ = some u ∧ W.cell? ⟨X, 1, none⟩ = some v) ∧ W.cell? ⟨X + 1, 0, none⟩ = some vp ∧ W.cell? ⟨pb, po, none⟩ = some x ∧ W.cell? ⟨pb, po + 1, none⟩ = some y
theorem NineC.kept {TB X pb po : Nat} {p q r s u v vp x y : Value} {W W' : World} (h : NineC TB X pb po p q r s u v vp x y W) (hb : Below W.heap.size W W') : NineC TB X pb po p q r s u v vp x y W' := by
  have k : ∀ (a : Addr) (z : Value), W.cell? a = some z → W'.cell? a = some z := fun a z hz => (hb.cell (World.block_lt_of_cell? W _ hz)).trans hz
  exact ⟨⟨k _ _ h.1.1, k _ _ h.1.2.1, k _ _ h.1.2.2.1, k _ _ h.1.2.2.2⟩, ⟨k _ _ h.2.1.1, k _ _ h.2.1.2⟩, k _ _ h.2.2.1, k _ _ h.2.2.2.1, k _ _ h.2.2.2.2⟩

set_option maxHeartbeats 8000000 in
set_option maxRecDepth 100000 in
theorem vf_ok (c : CQ) (g : Int) (b off n cap : Nat) (A : Nat → Option Addr) (C : Nat → Nat) (bi oi ni ci bo oo no co : Nat) (fi fo : Nat → Int) (ap : Option Addr) (np cp : Nat) (p : PQ) (m : PM) (bd od nd cd : Nat) (D : Nat → Int) (w : World)
    (hg : c.log = g) (hn : c.layers.length = n) (hr : CRow w (some ⟨b, off, none⟩) c.layers A C) (hc : c.right) (hp : p.n = np) (hpr : PfRow w ap p m) (hpn : p.nums) (hs : shapedQ c p) (hen : endsQ c ni no)
    (hi : Row w bi oi ni fi) (vi : Nums fi) (ho : Row w bo oo no fo) (vo : Nums fo) (hd : Row w bd od nd D) (vd : Nums D) (hnd : nd = needQ c) (hcd : nd ≤ cd) (hcm : cd ≤ maxLen) (ht : Tab w) :
    Calls Tryd.prog 21 #[.agg #[.int .i64 g, .slice (some ⟨b, off, none⟩) n cap], .slice (some ⟨bi, oi, none⟩) ni ci, .slice (some ⟨bo, oo, none⟩) no co, .agg #[.slice ap np cp], .slice (some ⟨bd, od, none⟩) nd cd] w fun e w' => verOut ((partsQ c).holds D p.told (ofK (evS (fun j => kk (fo j)) (fun j => kk (D j)) ((partsQ c).lg 0))) (fun j => kk (fi j))) w e w' := by
  have n4 : n ≤ 4 := by have := hc.few; omega
  have n1 : 1 ≤ n := by have := List.length_pos_iff.2 hc.some; omega
  have nd40 : nd ≤ 40 := by rw [hnd]; exact needQ_le hc
  have hbd : bd < w.heap.size := hd.lt (by
    have h := at_fits (c := c) (j := 0) (by omega)
    rw [← hnd] at h
    omega)
  have hni : ni = 2 ^ (partsQ c).lg n := by rw [← hn]; exact hen.1
  have hno : no = 2 ^ (partsQ c).lg 0 := hen.2
  have hbi := hi.lt (by rw [hni]; exact Nat.two_pow_pos _)
  have hbo := ho.lt (by rw [hno]; exact Nat.two_pow_pos _)
  have HS0 := hid (StQ.start w g (.slice (some ⟨b, off, none⟩) n cap) (.slice ap np cp) 24 51)
  have HF := hid (form_is (cap := cap) (cp := cp) (x := 0) hg hn hr hc hp hpr (.inr (.inl ⟨hc, hs, rfl⟩)))
  have HE : Hid (∀ W, Below w.heap.size w W → Calls Tryd.prog 38 #[.agg #[.int .i64 g, .slice (some ⟨b, off, none⟩) n cap], .slice (some ⟨bi, oi, none⟩) ni ci, .slice (some ⟨bo, oo, none⟩) no co] W fun e w' => e = .returned (.bool true) ∧ Below W.heap.size W w') := hid (fun W h => (hasEnds_any c g b off n cap A C _ _ ni ci no co W hg hn (hr.kept h) hc).mono fun e w' ⟨r, he, hrr, hb⟩ => ⟨by rw [he, hrr.2 hen], hb⟩)
  have HD : Hid (∀ W, Below w.heap.size w W → Calls Tryd.prog 32 #[.agg #[.int .i64 g, .slice (some ⟨b, off, none⟩) n cap]] W fun e w' => e = .returned (.int .i64 (nd : Int)) ∧ Below W.heap.size W w') := hid (fun W h => by rw [hnd]; exact cdraws_any c g b off n cap A C W hg hn (hr.kept h) hc)
  have HTU := hid (fun W (h : Below w.heap.size w W) => turns_any c g b off n cap A C bd od nd cd D W hg hn (hr.kept h) hc (hd.kept h hbd) vd hnd hcd hcm)
  obtain ⟨c0, hc0⟩ : ∃ x, ofK (evS (fun j => kk (fo j)) (fun j => kk (D j)) ((partsQ c).lg 0)) = x := ⟨_, rfl⟩
  have rc0 : 0 ≤ c0 ∧ c0 ≤ 2305843009213693950 := by rw [← hc0]; exact ofK_rng _
  have HE0 : Hid (∀ W (z : Option Addr) (cz : Nat), Below w.heap.size w W → PRow W z ((partsQ c).lg 0) D → Calls Tryd.prog 15 #[.slice (some ⟨bo, oo, none⟩) no co, .slice z ((partsQ c).lg 0) cz] W fun e w' => e = .returned (.tuple #[.int .u64 c0, .int .i64 0]) ∧ Below W.heap.size W w') := hid (fun W z cz h hz => by
    rw [← hc0]
    exact eval_ok bo oo ((partsQ c).lg 0) no co cz z fo D W (by have := parts_lg hc 0; omega) hno (ht.kept h ht.1) (ho.kept h hbo) vo hz vd)
  have HEN : Hid (∀ W (z : Nat) (cz : Nat) (f : Nat → Int), Below w.heap.size w W → Row W z 0 ((partsQ c).lg n) f → Nums f → Calls Tryd.prog 15 #[.slice (some ⟨bi, oi, none⟩) ni ci, .slice (some ⟨z, 0, none⟩) ((partsQ c).lg n) cz] W fun e w' => e = .returned (.tuple #[.int .u64 (ofK (evS (fun j => kk (fi j)) (fun j => kk (f j)) ((partsQ c).lg n))), .int .i64 0]) ∧ Below W.heap.size W w') := hid (fun W z cz f h hz vf => eval_ok bi oi ((partsQ c).lg n) ni ci cz _ fi f W (by have := parts_lg hc n; omega) hni (ht.kept h ht.1) (hi.kept h hbi) vi (PRow.of hz) vf)
  rw [hc0]
  have HG := hid hg
  have HN := hid hn
  have HR := hid hr
  have HC := hid hc
  have HP := hid hp
  have HPR := hid hpr
  have HPN := hid hpn
  have HSH := hid hs
  have HDD := hid (And.intro hd (And.intro vd hbd))
  have HND := hid hnd
  have e1 : ((nd : Int) != (nd : Int)) = false := by simp
  clear hg hn hr hc hp hpr hpn hs hen hi vi ho vo hd vd hnd ht hni hno hbi hbo hbd hc0
  go_enter Tryd.func21, Tryd.ntmps21
  go_wp2_with fail
  obtain ⟨X, hX⟩ : ∃ X, w.heap.size = X := ⟨_, rfl⟩
  rw [hX] at HS0
  rw [hX]
  clear hX
  generalize (w.alloc (.cells #[.int .i64 g, .slice (some ⟨b, off, none⟩) n cap] 24)).alloc (.cells #[.slice ap np cp] 51) = W0 at HS0 ⊢
  refine (HF.out _ HS0.out.bel).mono ?_
  rintro e w1 ⟨rfl, hb⟩
  have HS1 := hid (HS0.out.next hb)
  clear hb HS0 HF
  obtain ⟨z0, z1, zl⟩ := HS1.out.box
  go_wp2_with fail
  refine (HE.out _ HS1.out.bel).mono ?_
  rintro e w2 ⟨rfl, hb⟩
  have HS2 := hid (HS1.out.next hb)
  clear hb HS1 z0 z1 zl HE
  obtain ⟨z0, z1, zl⟩ := HS2.out.box
  go_wp2_with fail
  refine (HD.out _ HS2.out.bel).mono ?_
  rintro e w3 ⟨rfl, hb⟩
  have HS3 := hid (HS2.out.next hb)
  clear hb HS2 z0 z1 zl HD
  obtain ⟨z0, z1, zl⟩ := HS3.out.box
  go_wp2_with fail
  clear e1
  refine (HTU.out _ HS3.out.bel).mono ?_
  rintro e w4 ⟨T, ct, Z, CZ, rfl, htr, hb⟩
  have HS4 := hid (HS3.out.next hb)
  have HTR := hid htr
  clear hb HS3 z0 z1 zl HTU htr
  have y1 := HTR.out.c1 0 (by omega)
  rw [Nat.zero_mul, Nat.zero_add] at y1
  have n0 : (0 : Int) < (n : Int) := by omega
  go_wp2_with fail
  refine (HE0.out _ _ _ HS4.out.bel (HTR.out.zrow 0 (by omega))).mono ?_
  rintro e w5 ⟨rfl, hb⟩
  have HS5 := hid (HS4.out.next hb)
  have HTR5 := hid (HTR.out.kept hb)
  clear hb HS4 HTR HE0 y1
  go_wp2_with fail
  go_loopg [14, 52] n (fun q a i wr => ∃ (t : Nat) (cl : Int), t ≤ n ∧ q = n - t ∧ a = .int .u64 cl ∧ i = .int .i64 (t : Int) ∧ 0 ≤ cl ∧ cl ≤ 2305843009213693950 ∧ Hid (cl = (partsQ c).claim D p.told c0 t) ∧ Hid (∀ j, j < t → (partsQ c).part D p.told c0 j) ∧ Hid (StQ w wr X g (.slice (some ⟨b, off, none⟩) n cap) (.slice ap np cp)) ∧ Hid (TuRow wr T c bd od cd D Z CZ n))
  case atStart => exact ⟨0, c0, by omega, rfl, rfl, rfl, rc0.1, rc0.2, hid rfl, hid (fun j hj => absurd hj (by omega)), HS5, HTR5⟩
  case round =>
    clear HS5 HTR5
    obtain ⟨t, cl, htn, rfl, rfl, rfl, cl0, cl1, HCL, HOK, HS, HTR⟩ := hrel
    by_cases htl : t < n
    · obtain ⟨i, hi⟩ : ∃ i : Nat, i + t + 1 = n := ⟨n - 1 - t, by omega⟩
      have y0 := HTR.out.c0 t htl
      have y1 := HTR.out.c1 t htl
      have y2 := HTR.out.c2 t htl
      have y3 := HTR.out.c3 t htl
      obtain ⟨bk, hbk⟩ : ∃ x, (partsQ c).lg (t + 1) = x := ⟨_, rfl⟩
      obtain ⟨lk, hlk⟩ : ∃ x, (partsQ c).lg t = x := ⟨_, rfl⟩
      obtain ⟨at', hat⟩ : ∃ x, (partsQ c).at t = x := ⟨_, rfl⟩
      obtain ⟨tau, htau⟩ : ∃ x, (partsQ c).tau D t = x := ⟨_, rfl⟩
      rw [HN.out, show (n : Int) - 1 - (t : Int) = (i : Int) from by omega] at y0
      rw [hlk] at y1
      rw [hat, hbk] at y2
      rw [htau] at y3
      have hfit := at_fits (c := c) (j := t) (by rw [HN.out]; exact htl)
      rw [hat, hbk, ← HND.out] at hfit
      have hpt : t < p.n := by rw [HSH.out.1, HN.out]; exact htl
      obtain ⟨pb, po, rfl, hcl2⟩ := HPR.out.kept HS.out.bel (by omega)
      obtain ⟨x0, x1, x2, x3⟩ := hcl2 t hpt
      obtain ⟨sh1, sh2, sh3⟩ := HSH.out.2 t hpt
      rw [hbk] at sh1 sh2
      rw [sh1] at x0 x2 sh3
      rw [sh2] at x1 x3
      rw [Nat.mul_comm 2 t] at x0 x1
      obtain ⟨vR, vL⟩ := HPN.out t hpt
      rw [sh1] at vR
      obtain ⟨lb, lo, hla, x4⟩ := x3 (by omega)
      rw [hla] at x1
      obtain ⟨ra, hra⟩ : ∃ x, m.ra t = x := ⟨_, rfl⟩
      obtain ⟨rc, hrc⟩ : ∃ x, m.rc t = x := ⟨_, rfl⟩
      obtain ⟨lc, hlc⟩ : ∃ x, m.lc t = x := ⟨_, rfl⟩
      rw [hra, hrc] at x0
      rw [hlc] at x1
      rw [hra] at x2
      have HFO : Hid (∀ W, Below wr.heap.size wr W → Calls Tryd.prog 39 #[turnV (i : Int) (Z t) lk (CZ t) (some ⟨bd, od + at', none⟩) (2 * bk) (cd - at') tau, .agg #[.int .i64 g, .slice (some ⟨b, off, none⟩) n cap], .agg #[.slice ra (2 * bk) rc, .slice (some ⟨lb, lo, none⟩) (bk + 1) lc], .int .u64 cl] W fun e w' => folOut (partsQ c) D p.told c0 t W e w') := hid (fun W h => by
        have hbw := HS.out.bel.trans (h.mono HS.out.bel.size)
        have hz := (HTR.out.zrow t htl).kept h
        rw [hlk] at hz
        have hdd := HDD.out.1.kept hbw HDD.out.2.2
        rw [← htau]
        refine follow_any c g b off n cap A C i t lk bk (Z t) (CZ t) bd (od + at') (cd - at') D ra lb lo rc lc (m.A t) (p.rl t) (m.C t) p.told c0 cl W HG.out HN.out (HR.out.kept hbw) HC.out hi hlk hbk hz HDD.out.2.1 (fun j hj => ?_) (by omega) (by omega) (x2.kept h) sh3 vR (x4.kept h (x4.lt (by omega))) vL HCL.out cl0 cl1
        have := hdd (at' + j) (by omega)
        rw [← Nat.add_assoc] at this
        rw [hat]
        exact this)
      clear hcl2 x2 x3 x4 vR vL sh1 sh2 sh3 hra hrc hlc hla hbk hlk hat htau hfit hpt hi
      obtain ⟨k2, hk2⟩ : ∃ x, 2 * bk = x := ⟨_, rfl⟩
      rw [hk2] at HFO y2 x0
      clear hk2
      obtain ⟨rcd, hrcd⟩ : ∃ x, cd - at' = x := ⟨_, rfl⟩
      rw [hrcd] at HFO y2
      clear hrcd
      have t0 : (0 : Int) ≤ (t : Int) := by omega
      have t1 : (t : Int) < (n : Int) := by omega
      have t2 : (t : Int) < (np : Int) := by have := HP.out; have := HSH.out.1; have := HN.out; omega
      have hal := (Below.refl wr.heap.size wr).alloc (Nat.le_refl _) (.cells #[.int .i64 (i : Int), .slice (Z t) lk (CZ t), .slice (some ⟨bd, od + at', none⟩) k2 rcd, .int .u64 tau] 73)
      have HAL := hid hal
      have HBT := hid (Box4.new wr (.int .i64 (i : Int)) (.slice (Z t) lk (CZ t)) (.slice (some ⟨bd, od + at', none⟩) k2 rcd) (.int .u64 tau) 73)
      have HX := hid (And.intro x0 x1)
      clear hal x0 x1
      go_wp2_with fail
      clear y0 y1 y2 y3
      obtain ⟨TB, hTB⟩ : ∃ x, wr.heap.size = x := ⟨_, rfl⟩
      rw [hTB] at HBT
      have HTB := hid hTB
      rw [hTB]
      clear hTB
      have HNC : Hid (NineC TB X pb (po + t * 2) (.int .i64 (i : Int)) (.slice (Z t) lk (CZ t)) (.slice (some ⟨bd, od + at', none⟩) k2 rcd) (.int .u64 tau) (.int .i64 g) (.slice (some ⟨b, off, none⟩) n cap) (.slice (some ⟨pb, po, none⟩) np cp) (.slice ra k2 rc) (.slice (some ⟨lb, lo, none⟩) (bk + 1) lc) (wr.alloc (.cells #[.int .i64 (i : Int), .slice (Z t) lk (CZ t), .slice (some ⟨bd, od + at', none⟩) k2 rcd, .int .u64 tau] 73))) := hid (by
        have hs := HS.out.next HAL.out
        have k : ∀ (a : Addr) (z : Value), wr.cell? a = some z → (wr.alloc (.cells #[.int .i64 (i : Int), .slice (Z t) lk (CZ t), .slice (some ⟨bd, od + at', none⟩) k2 rcd, .int .u64 tau] 73)).cell? a = some z := fun a z hz => (HAL.out.cell (World.block_lt_of_cell? wr _ hz)).trans hz
        exact ⟨⟨HBT.out.c0, HBT.out.c1, HBT.out.c2, HBT.out.c3⟩, ⟨hs.box.c0, hs.box.c1⟩, hs.pc, k _ _ HX.out.1, k _ _ HX.out.2⟩)
      have HS6 := hid (HS.out.next HAL.out)
      have HTR6 := hid (HTR.out.kept HAL.out)
      have HFO6 : Hid (∀ W, Below (wr.alloc (.cells #[.int .i64 (i : Int), .slice (Z t) lk (CZ t), .slice (some ⟨bd, od + at', none⟩) k2 rcd, .int .u64 tau] 73)).heap.size (wr.alloc (.cells #[.int .i64 (i : Int), .slice (Z t) lk (CZ t), .slice (some ⟨bd, od + at', none⟩) k2 rcd, .int .u64 tau] 73)) W → Calls Tryd.prog 39 #[.agg #[.int .i64 (i : Int), .slice (Z t) lk (CZ t), .slice (some ⟨bd, od + at', none⟩) k2 rcd, .int .u64 tau], .agg #[.int .i64 g, .slice (some ⟨b, off, none⟩) n cap], .agg #[.slice ra k2 rc, .slice (some ⟨lb, lo, none⟩) (bk + 1) lc], .int .u64 cl] W fun e w' => folOut (partsQ c) D p.told c0 t W e w') := hid (fun W h => HFO.out W (HAL.out.trans (h.mono HAL.out.size)))
      clear HBT HX HAL HS HTR HFO HTB
      generalize wr.alloc (.cells #[.int .i64 (i : Int), .slice (Z t) lk (CZ t), .slice (some ⟨bd, od + at', none⟩) k2 rcd, .int .u64 tau] 73) = W6 at HNC HS6 HTR6 HFO6 ⊢
      have nc := HNC.out
      go_region_held3 (NineC TB X pb (po + t * 2) (.int .i64 (i : Int)) (.slice (Z t) lk (CZ t)) (.slice (some ⟨bd, od + at', none⟩) k2 rcd) (.int .u64 tau) (.int .i64 g) (.slice (some ⟨b, off, none⟩) n cap) (.slice (some ⟨pb, po, none⟩) np cp) (.slice ra k2 rc) (.slice (some ⟨lb, lo, none⟩) (bk + 1) lc)) (first | assumption | exact nc7) (first
        | (go_at_call 39; refine (HFO6.out _ (Below.refl _ W6).drew).mono ?_; rintro e w7 ⟨v, ok, rfl, hok, hv, hb⟩; have hb7 : Below W6.heap.size W6 w7 := (Below.refl _ W6).drew.trans hb; have nc7 := nc.kept hb7; clear hb))
      have HS7 := hid (HS6.out.next hb7)
      have HTR7 := hid (HTR6.out.kept hb7)
      have HOV := hid (And.intro hok hv)
      clear nc nc7 hb7 hok hv HS6 HTR6 HNC HFO6
      cases ok with
      | false =>
        have HNO : Hid (¬ (partsQ c).holds D p.told c0 (fun j => kk (fi j))) := hid (fun h => Bool.false_ne_true (HOV.out.1.2 (h.1 t (show t < c.layers.length by rw [HN.out]; exact htl))))
        go_wp2_with fail
        go_ret2
        exact ⟨false, rfl, ⟨fun h => absurd h Bool.false_ne_true, fun h => absurd h HNO.out⟩, HS7.out.bel⟩
      | true =>
        have HV : Hid (v = (partsQ c).claim D p.told c0 (t + 1)) := hid (HOV.out.2 (by first | rfl | trivial))
        have HON : Hid (∀ j, j < t + 1 → (partsQ c).part D p.told c0 j) := hid (fun j hj => by
          by_cases e : j = t
          · rw [e]; exact HOV.out.1.1 (by first | rfl | trivial)
          · exact HOK.out j (by omega))
        have rv : 0 ≤ v ∧ v ≤ 2305843009213693950 := by rw [HV.out]; exact claim_in rc0.1 rc0.2 (partsQ c) D p.told (t + 1)
        go_wp2_with fail
        go_roundg (n - (t + 1))
        case measure => go_light; omega
        case rel => exact ⟨t + 1, v, by omega, rfl, rfl, by go_num, rv.1, rv.2, HV, HON, HS7, HTR7⟩
    · have e : t = n := by omega
      obtain ⟨q, hq⟩ : ∃ q, q + 1 = n := ⟨n - 1, by omega⟩
      have y0 := HTR.out.c0 q (by omega)
      have y1 := HTR.out.c1 q (by omega)
      have y2 := HTR.out.c2 q (by omega)
      have y3 := HTR.out.c3 q (by omega)
      obtain ⟨bk, hbk⟩ : ∃ x, (partsQ c).lg n = x := ⟨_, rfl⟩
      obtain ⟨lk, hlk⟩ : ∃ x, (partsQ c).lg q = x := ⟨_, rfl⟩
      obtain ⟨at', hat⟩ : ∃ x, (partsQ c).at q = x := ⟨_, rfl⟩
      obtain ⟨tau, htau⟩ : ∃ x, (partsQ c).tau D q = x := ⟨_, rfl⟩
      have hbk2 : (partsQ c).lg (q + 1) = bk := by rw [hq, hbk]
      rw [HN.out, show (n : Int) - 1 - (q : Int) = 0 from by omega] at y0
      rw [hlk] at y1
      rw [hat, hbk2] at y2
      rw [htau] at y3
      have hfit := at_fits (c := c) (j := q) (by rw [HN.out]; omega)
      rw [hat, hbk2, ← HND.out] at hfit
      have bk4 : bk ≤ 4 := by rw [← hbk]; exact parts_lg HC.out n
      have rtau : 0 ≤ tau ∧ tau ≤ 18446744073709551615 := by rw [← htau]; exact HDD.out.2.1 _
      have HNX : Hid (∀ W, Below wr.heap.size wr W → Calls Tryd.prog 40 #[turnV 0 (Z q) lk (CZ q) (some ⟨bd, od + at', none⟩) (2 * bk) (cd - at') tau] W fun e w' => ∃ B, e = .returned (.slice (some ⟨B, 0, none⟩) bk bk) ∧ Row w' B 0 bk (zQ (partsQ c) D n) ∧ Below W.heap.size W w') := hid (fun W h => by
        have hbw := HS.out.bel.trans (h.mono HS.out.bel.size)
        have hdd := HDD.out.1.kept hbw HDD.out.2.2
        refine (next_any 0 (Z q) lk (CZ q) bd (od + at') bk (cd - at') tau (fun j => D (at' + j)) W (by omega) (by omega) (by omega) (fun j hj => ?_) (fun j => HDD.out.2.1 _) rtau.1 rtau.2 (Nat.lt_of_lt_of_le HDD.out.2.2 hbw.size)).mono ?_
        · have := hdd (at' + j) (by omega)
          rw [← Nat.add_assoc] at this
          exact this
        · rintro e w' ⟨B, he, _, hrow, hb⟩
          refine ⟨B, he, hrow.congr fun j _ => ?_, hb⟩
          rw [← hq]
          show _ = linQ (fun i => D ((partsQ c).at q + i)) (fun i => D ((partsQ c).at q + (partsQ c).lg (q + 1) + i)) ((partsQ c).tau D q) j
          unfold linQ
          dsimp only
          rw [hat, hbk2, htau, Nat.add_assoc])
      obtain ⟨lv, hlv⟩ : ∃ x, ofK (evS (fun j => kk (fi j)) (fun j => kk (zQ (partsQ c) D n j)) bk) = x := ⟨_, rfl⟩
      have HLV : Hid (ofK (evS (fun j => kk (fi j)) ((partsQ c).z D (partsQ c).n) ((partsQ c).lg (partsQ c).n)) = lv) := hid (by
        rw [← hlv, show (partsQ c).n = n from HN.out, hbk]
        congr 1
        exact evS_congr _ (fun _ _ => rfl) (fun j _ => (kk_zQ (partsQ c) D n j).symm))
      have HEV := hid (fun W B (h : Below w.heap.size w W) (hz : Row W B 0 ((partsQ c).lg n) (zQ (partsQ c) D n)) => HEN.out W B ((partsQ c).lg n) _ h hz (Nums_zQ HDD.out.2.1 _ _))
      rw [hbk, hlv] at HEV
      have HFIN : Hid ((partsQ c).holds D p.told c0 (fun j => kk (fi j)) ↔ cl = lv) := hid (by
        constructor
        · intro h
          have := h.2
          rw [HLV.out, show (partsQ c).n = n from HN.out] at this
          rw [HCL.out, e, this]
        · intro h
          refine ⟨fun j hj => HOK.out j (by have : j < c.layers.length := hj; rw [HN.out] at this; omega), ?_⟩
          rw [HLV.out, show (partsQ c).n = n from HN.out, ← h, HCL.out, e])
      have t1 : ¬ ((t : Int) < (n : Int)) := by omega
      have q0 : (0 : Int) ≤ (q : Int) := by omega
      have q1 : (q : Int) < (n : Int) := by omega
      have q2 : (n : Int) - 1 = (q : Int) := by omega
      clear e hq hbk hlk hat htau hbk2 hfit hlv HEN HLV
      obtain ⟨k2, hk2⟩ : ∃ x, 2 * bk = x := ⟨_, rfl⟩
      rw [hk2] at HNX y2
      clear hk2
      obtain ⟨rcd, hrcd⟩ : ∃ x, cd - at' = x := ⟨_, rfl⟩
      rw [hrcd] at HNX y2
      clear hrcd
      go_wp2_with fail
      refine (HNX.out _ (Below.refl _ wr)).mono ?_
      rintro e w7 ⟨B, rfl, hrow, hb⟩
      have HS7 := hid (HS.out.next hb)
      have HRW := hid hrow
      clear hrow hb HS HTR HNX y0 y1 y2 y3
      go_wp2_with fail
      refine (HEV.out w7 B HS7.out.bel HRW.out).mono ?_
      rintro e w8 ⟨rfl, hb⟩
      have HS8 := hid (HS7.out.next hb)
      clear hb HS7 HRW HEV
      by_cases hcl : cl = lv
      · have e4 : (cl == lv) = true := beq_iff_eq.2 hcl
        have HH : Hid ((partsQ c).holds D p.told c0 (fun j => kk (fi j))) := hid (HFIN.out.2 hcl)
        clear hcl
        go_wp2_with fail
        go_ret2
        exact ⟨true, rfl, ⟨fun _ => HH.out, fun _ => rfl⟩, HS8.out.bel⟩
      · have e4 : (cl == lv) = false := beq_eq_false_iff_ne.2 hcl
        have HH : Hid (¬ (partsQ c).holds D p.told c0 (fun j => kk (fi j))) := hid (fun h => hcl (HFIN.out.1 h))
        clear hcl
        go_wp2_with fail
        go_ret2
        exact ⟨false, rfl, ⟨fun h => absurd h Bool.false_ne_true, fun h => absurd h HH.out⟩, HS8.out.bel⟩

end Go.Proofs.YtaiaillaihlhpafDoor
