/-
  Contracts of package gkr's Prove: of what has an error; of right circuits, inputs and draws; it makes new rows and writes nothing that was there.
-/
import Derived.Test.YtaiaillaihlhpafDoorGk12
import Derived.Test.YtaiaillaihlhpafDoorGk7
namespace Go.Proofs.YtaiaillaihlhpafDoor
open Go.RowKit
set_option linter.unusedVariables false
attribute [local go_sem ↓] Go.wp_at_zero Go.wp_at_succ

set_option maxHeartbeats 2000000 in
set_option maxRecDepth 100000 in
theorem pv_run (g : Int) (ao : Option Addr) (n cap : Nat) (ai : Option Addr) (ni ci : Nat) (ad : Option Addr) (nd cd : Nat) (x : Int) (w : World) (hx0 : x ≠ 0)
    (HR : Hid (∀ W, Below w.heap.size w W → Calls Tryd.prog 10 #[.agg #[.int .i64 g, .slice ao n cap], .slice ai ni ci] W fun e w' => e = .returned (.tuple #[.slice none 0 0, .int .i64 x]) ∧ Below W.heap.size W w')) :
    Calls Tryd.prog 19 #[.agg #[.int .i64 g, .slice ao n cap], .slice ai ni ci, .slice ad nd cd] w fun e w' => e = .returned (.tuple #[.agg #[.slice none 0 0], .int .i64 x]) ∧ Below w.heap.size w w' := by
  have HS0 := hid (StP.start w g (.slice ao n cap) 24 51)
  have e1 : (x != 0) = true := by simp [hx0]
  clear hx0
  go_enter Tryd.func19, Tryd.ntmps19
  go_wp2_with fail
  obtain ⟨X, hX⟩ : ∃ X, w.heap.size = X := ⟨_, rfl⟩
  rw [hX] at HS0
  rw [hX]
  have HX := hid hX
  clear hX
  generalize (w.alloc (.cells #[.int .i64 g, .slice ao n cap] 24)).alloc (.cells #[.slice none 0 0] 51) = W0 at HS0 ⊢
  refine (HR.out _ HS0.out.st.bel).mono ?_
  rintro e w1 ⟨rfl, hb⟩
  have HS1 := hid (HS0.out.next hb)
  clear hb HS0
  have pc := HS1.out.st.pc
  have fz := HS1.out.free
  go_wp2_with fail
  refine bodyPost_ret (results_prf rfl rfl (World.cell?_setCell_same _ _ _ pc)) rfl ?_
  exact ⟨rfl, by rw [HX.out]; have := HS1.out.st.bel; rw [HX.out] at this; exact this.setCell (by show X ≤ X + 1; omega) _⟩
set_option maxHeartbeats 2000000 in
set_option maxRecDepth 100000 in
theorem pv_draws (g : Int) (ao : Option Addr) (n cap : Nat) (ai : Option Addr) (ni ci : Nat) (ad : Option Addr) (nd cd : Nat) (q : Nat) (w : World) (hq : nd ≠ q)
    (HR : Hid (∀ W, Below w.heap.size w W → Calls Tryd.prog 10 #[.agg #[.int .i64 g, .slice ao n cap], .slice ai ni ci] W fun e w' => ∃ vv, e = .returned (.tuple #[vv, .int .i64 0]) ∧ Below W.heap.size W w'))
    (HD : Hid (∀ W, Below w.heap.size w W → Calls Tryd.prog 32 #[.agg #[.int .i64 g, .slice ao n cap]] W fun e w' => e = .returned (.int .i64 (q : Int)) ∧ Below W.heap.size W w')) :
    Calls Tryd.prog 19 #[.agg #[.int .i64 g, .slice ao n cap], .slice ai ni ci, .slice ad nd cd] w fun e w' => e = .returned (.tuple #[.agg #[.slice none 0 0], .int .i64 1]) ∧ Below w.heap.size w w' := by
  have HS0 := hid (StP.start w g (.slice ao n cap) 24 51)
  have e1 : ((nd : Int) != (q : Int)) = true := by simp; omega
  clear hq
  go_enter Tryd.func19, Tryd.ntmps19
  go_wp2_with fail
  obtain ⟨X, hX⟩ : ∃ X, w.heap.size = X := ⟨_, rfl⟩
  rw [hX] at HS0
  rw [hX]
  have HX := hid hX
  clear hX
  generalize (w.alloc (.cells #[.int .i64 g, .slice ao n cap] 24)).alloc (.cells #[.slice none 0 0] 51) = W0 at HS0 ⊢
  refine (HR.out _ HS0.out.st.bel).mono ?_
  rintro e w1 ⟨vv, rfl, hb⟩
  have HS1 := hid (HS0.out.next hb)
  clear hb HS0
  obtain ⟨z0, z1, zl⟩ := HS1.out.st.box
  go_wp2_with fail
  refine (HD.out _ HS1.out.st.bel).mono ?_
  rintro e w2 ⟨rfl, hb⟩
  have HS2 := hid (HS1.out.next hb)
  clear hb HS1 z0 z1 zl
  have pc := HS2.out.st.pc
  have fz := HS2.out.free
  go_wp2_with fail
  refine bodyPost_ret (results_prf rfl rfl (World.cell?_setCell_same _ _ _ pc)) rfl ?_
  exact ⟨rfl, by rw [HX.out]; have := HS2.out.st.bel; rw [HX.out] at this; exact this.setCell (by show X ≤ X + 1; omega) _⟩
set_option maxHeartbeats 8000000 in
set_option maxRecDepth 100000 in
theorem pv_ok (c : CQ) (g b off n cap : Nat) (A : Nat → Option Addr) (C : Nat → Nat) (bi oi N ci : Nat) (f : Nat → Int) (bd od nd cd : Nat) (D : Nat → Int) (w : World)
    (hg : c.log = (g : Int)) (hn : c.layers.length = n) (hr : CRow w (some ⟨b, off, none⟩) c.layers A C) (hc : c.right) (sh : wrap64 ((2 : Int) ^ g) = (N : Int)) (hN : lenQ c 0 = N) (hi : Row w bi oi N f) (vi : Nums f) (hd : Row w bd od nd D) (vd : Nums D) (hnd : nd = needQ c) (hcd : nd ≤ cd) (hcm : cd ≤ maxLen) (ht : Tab w) :
    Calls Tryd.prog 19 #[.agg #[.int .i64 (g : Int), .slice (some ⟨b, off, none⟩) n cap], .slice (some ⟨bi, oi, none⟩) N ci, .slice (some ⟨bd, od, none⟩) nd cd] w fun e w' => proveOut c f D n w e w' := by
  have n4 : n ≤ 4 := by have := hc.few; omega
  have n1 : 1 ≤ n := by have := List.length_pos_iff.2 hc.some; omega
  have nd40 : nd ≤ 40 := by rw [hnd]; exact needQ_le hc
  have hNr := lenQ_rng hc 0 (by omega)
  rw [hN] at hNr
  have hbd : bd < w.heap.size := hd.lt (by
    have h := at_fits (c := c) (j := 0) (by omega)
    rw [← hnd] at h
    omega)
  have hbi := hi.lt hNr.1
  have HS0 := hid (StP.start w (g : Int) (.slice (some ⟨b, off, none⟩) n cap) 24 51)
  have HRU := hid (fun W (h : Below w.heap.size w W) => run_ok c g b off n cap A C bi oi N ci f W hg hn (hr.kept h) hc sh hN hNr.2 hNr.1 (hi.kept h hbi) vi)
  have HDR : Hid (∀ W, Below w.heap.size w W → Calls Tryd.prog 32 #[.agg #[.int .i64 (g : Int), .slice (some ⟨b, off, none⟩) n cap]] W fun e w' => e = .returned (.int .i64 (nd : Int)) ∧ Below W.heap.size W w') := hid (fun W h => by rw [hnd]; exact cdraws_any c g b off n cap A C W hg hn (hr.kept h) hc)
  have HTU := hid (fun W (h : Below w.heap.size w W) => turns_any c g b off n cap A C bd od nd cd D W hg hn (hr.kept h) hc (hd.kept h hbd) vd hnd hcd hcm)
  have HN := hid hn
  have HR := hid hr
  have HC := hid hc
  have HT := hid ht
  have HDD := hid (And.intro hd (And.intro vd (And.intro hbd hnd)))
  have e1 : ((nd : Int) != (nd : Int)) = false := by simp
  have hmk := run_make_parts n (by omega)
  clear hg hn hr hc hi vi hd vd hnd ht hbi hbd sh hN hNr
  go_enter Tryd.func19, Tryd.ntmps19
  go_wp2_with fail
  obtain ⟨X, hX⟩ : ∃ X, w.heap.size = X := ⟨_, rfl⟩
  rw [hX] at HS0
  rw [hX]
  have HX := hid hX
  clear hX
  generalize (w.alloc (.cells #[.int .i64 (g : Int), .slice (some ⟨b, off, none⟩) n cap] 24)).alloc (.cells #[.slice none 0 0] 51) = W0 at HS0 ⊢
  refine (HRU.out _ HS0.out.st.bel).mono ?_
  rintro e w1 ⟨V, Dv, rfl, hO⟩
  have HS1 := hid (HS0.out.next hO.below)
  have HO1 := hid hO
  clear hO HS0 HRU
  obtain ⟨z0, z1, zl⟩ := HS1.out.st.box
  go_wp2_with fail
  refine (HDR.out _ HS1.out.st.bel).mono ?_
  rintro e w2 ⟨rfl, hb⟩
  have HS2 := hid (HS1.out.next hb)
  have HO2 := hid (HO1.out.kept hb)
  clear hb HS1 HO1 HDR z0 z1 zl
  obtain ⟨z0, z1, zl⟩ := HS2.out.st.box
  have HAL := hid ((Below.refl w2.heap.size w2).alloc (Nat.le_refl _) (.cells (madeCells #[.slice none 0 0, .slice none 0 0] (n * 2)) 76))
  have HS3 := hid (HS2.out.next HAL.out)
  obtain ⟨y0, y1, yl⟩ := HS3.out.st.box
  go_wp2_with fail
  clear e1 hmk z0 z1 zl y0 y1 yl
  refine (HTU.out _ HS3.out.st.bel).mono ?_
  rintro e w4 ⟨T, ct, Z, CZ, rfl, htr, hb⟩
  have hst := PvS.start hb (fun j => (partsQ c).lg (j + 1)) (fun _ => 0) (fun _ => 0) (fun _ _ => 0) (rightP c f D).R (rightP c f D).L
  obtain ⟨PB, hPB⟩ : ∃ x, w2.heap.size = x := ⟨_, rfl⟩
  rw [hPB] at hst
  rw [hPB]
  have HPB := hid hPB
  have HTR := hid htr
  have HP0 := hid hst.2
  have HPS : Hid (∃ R L a, PvS w2 w4 w4 PB n 0 0 (fun j => (partsQ c).lg (j + 1)) R L a (rightP c f D).R (rightP c f D).L) := hid ⟨_, _, _, hst.1⟩
  have HXP : Hid (X + 1 < PB ∧ V < PB) := hid (by have h1 := HS2.out.lt; have h2 := HO2.out.lt; omega)
  have HBL : Hid (∀ W, Below PB w2 W → StP w W X (g : Int) (.slice (some ⟨b, off, none⟩) n cap) ∧ OutL W0 W V (n + 1) (n + 1) (lenQ c) Dv (valsQ c f)) := hid (fun W h => by
    rw [← hPB] at h
    exact ⟨HS2.out.next h, HO2.out.kept h⟩)
  clear hb hst hPB htr HS3 HS2 HAL HTU HO2
  go_wp2_with fail
  go_loopg [38] n (fun q i wr => ∃ t : Nat, t ≤ n ∧ q = n - t ∧ i = .int .i64 (t : Int) ∧ Hid (∃ R L a, PvS w2 w4 wr PB n t t (fun j => (partsQ c).lg (j + 1)) R L a (rightP c f D).R (rightP c f D).L))
  case atStart => exact ⟨0, by omega, rfl, rfl, HPS⟩
  case round =>
    clear HPS
    obtain ⟨t, htn, rfl, rfl, HPS⟩ := hrel
    obtain ⟨R, L, a, hps⟩ := HPS.out
    have HPS := hid hps
    clear hps
    by_cases htl : t < n
    · obtain ⟨i, hi⟩ : ∃ i : Nat, i + t + 1 = n := ⟨n - 1 - t, by omega⟩
      have htw := HPS.out.turns HP0.out HTR.out
      have y0 := htw.c0 t htl
      have y1 := htw.c1 t htl
      have y2 := htw.c2 t htl
      have y3 := htw.c3 t htl
      obtain ⟨bk, hbk⟩ : ∃ x, (partsQ c).lg (t + 1) = x := ⟨_, rfl⟩
      obtain ⟨lk, hlk⟩ : ∃ x, (partsQ c).lg t = x := ⟨_, rfl⟩
      obtain ⟨at', hat⟩ : ∃ x, (partsQ c).at t = x := ⟨_, rfl⟩
      obtain ⟨tau, htau⟩ : ∃ x, (partsQ c).tau D t = x := ⟨_, rfl⟩
      rw [HN.out, show (n : Int) - 1 - (t : Int) = (i : Int) from by omega] at y0
      rw [hlk] at y1
      rw [hat, hbk] at y2
      rw [htau] at y3
      have hfit := at_fits (c := c) (j := t) (by rw [HN.out]; exact htl)
      rw [hat, hbk, ← HDD.out.2.2.2] at hfit
      have bk4 : bk ≤ 4 := by rw [← hbk]; exact parts_lg HC.out _
      have lk4 : lk ≤ 4 := by rw [← hlk]; exact parts_lg HC.out _
      obtain ⟨l, hl, hl1, hl2, hl3, hl4⟩ := parts_layer HC.out (j := t) (by rw [HN.out]; exact htl)
      rw [HN.out, show n - 1 - t = i from by omega] at hl
      rw [hlk] at hl2
      rw [hbk] at hl4
      have hlen : lenQ c i = 2 ^ bk := by
        rw [← hbk]
        show 2 ^ (belowQ c i).toNat = 2 ^ (belowQ c (c.layers.length - (t + 1))).toNat
        rw [HN.out, show n - (t + 1) = i from by omega]
      obtain ⟨hst, hol⟩ := HBL.out wr HPS.out.bel
      obtain ⟨b', off', eb, hcc⟩ := HR.out.kept hst.st.bel (by intro e; have := HN.out; rw [e] at this; simp at this; omega)
      cases eb
      obtain ⟨x0, x1, x2, x3⟩ := hcc i l hl
      rw [Nat.mul_comm 2 i] at x0 x1
      obtain ⟨lg, hlg⟩ : ∃ x, l.log = x := ⟨_, rfl⟩
      obtain ⟨m, hm⟩ : ∃ x, l.gates.length = x := ⟨_, rfl⟩
      obtain ⟨ga, hga⟩ : ∃ x, A i = x := ⟨_, rfl⟩
      obtain ⟨gc, hgc⟩ : ∃ x, C i = x := ⟨_, rfl⟩
      obtain ⟨M, hM⟩ : ∃ x, lenQ c i = x := ⟨_, rfl⟩
      obtain ⟨dk, hdk⟩ : ∃ x, Dv i = x := ⟨_, rfl⟩
      have cv := hol.cell i (by omega)
      rw [hdk, hM] at cv
      rw [hlg] at x0
      rw [hm, hga, hgc] at x1
      have HRD : Hid (∀ W, Below PB w2 W → TuRow W T c bd od cd D Z CZ n → Calls Tryd.prog 34 #[turnV (i : Int) (Z t) lk (CZ t) (some ⟨bd, od + at', none⟩) (2 * bk) (cd - at') tau, .agg #[.int .i64 lg, .slice ga m gc], .slice (some ⟨dk, 0, none⟩) M M] W fun e w' => ∃ R a, e = .returned (.slice (some ⟨R, 0, none⟩) (2 * bk) (2 * bk)) ∧ Grid w' R (2 * bk) 3 a ((rightP c f D).R t) W.heap.size ∧ Below W.heap.size W w') := hid (fun W h htu => by
        obtain ⟨hst, hol⟩ := HBL.out W h
        obtain ⟨b', off', eb, hcc⟩ := HR.out.kept hst.st.bel (by intro e; have := HN.out; rw [e] at this; simp at this; omega)
        obtain ⟨_, _, x2, _⟩ := hcc i l hl
        rw [hga] at x2
        have hz := htu.zrow t htl
        rw [hlk] at hz
        have hdd := HDD.out.1.kept hst.st.bel HDD.out.2.2.1
        have hrw := hol.row i (by omega)
        rw [hdk, hM] at hrw
        refine (rounds_any (i : Int) (Z t) lk (CZ t) bd (od + at') bk (cd - at') tau lg ga m gc l.gates (zQ (partsQ c) D t) (fun j => D ((partsQ c).at t + j)) (valsQ c f i) dk 0 M M W bk4 lk4 hm (by rw [← hm]; exact hl2) (by rw [← hM]; exact hlen) x2 hl4 hz (Nums_zQ HDD.out.2.1 _ _) (fun j hj => ?_) (Nums_from HDD.out.2.1 _) hrw (Nums_vals c f i) (HT.out.kept hst.st.bel HT.out.1)).mono ?_
        · have := hdd (at' + j) (by omega)
          rw [← Nat.add_assoc] at this
          rw [hat]
          exact this
        · rintro e w' ⟨R, a, he, hgr, hb⟩
          exact ⟨R, a, he, hgr.congr fun r p _ _ => rd_right HN.out hi hl hlk hbk f D r p, hb⟩)
      have HLN : Hid (∀ W, Below PB w2 W → Calls Tryd.prog 35 #[turnV (i : Int) (Z t) lk (CZ t) (some ⟨bd, od + at', none⟩) (2 * bk) (cd - at') tau, .slice (some ⟨dk, 0, none⟩) M M] W fun e w' => ∃ B, e = .returned (.slice (some ⟨B, 0, none⟩) (bk + 1) (bk + 1)) ∧ W.heap.size ≤ B ∧ Row w' B 0 (bk + 1) ((rightP c f D).L t) ∧ Below W.heap.size W w') := hid (fun W h => by
        obtain ⟨hst, hol⟩ := HBL.out W h
        have hdd := HDD.out.1.kept hst.st.bel HDD.out.2.2.1
        have hrw := hol.row i (by omega)
        rw [hdk, hM] at hrw
        refine (line_any (i : Int) (Z t) lk (CZ t) bd (od + at') bk (cd - at') tau (fun j => D ((partsQ c).at t + j)) dk 0 M M (valsQ c f i) W (by omega) (by omega) (by omega) (by rw [← hM]; exact hlen) (HT.out.kept hst.st.bel HT.out.1) (fun j hj => ?_) (Nums_from HDD.out.2.1 _) (Nat.lt_of_lt_of_le HDD.out.2.2.1 hst.st.bel.size) hrw (Nums_vals c f i)).mono ?_
        · have := hdd (at' + j) (by omega)
          rw [← Nat.add_assoc] at this
          rw [hat]
          exact this
        · rintro e w' ⟨B, he, hB, hrow, hb⟩
          exact ⟨B, he, hB, hrow.congr fun s _ => ln_right HN.out hi hbk f D s, hb⟩)
      have HBK := hid hbk
      have HBB : Hid (b < w.heap.size) := hid (by
        obtain ⟨b', off', eb, hcc⟩ := HR.out (by intro e; have := HN.out; rw [e] at this; simp at this; omega)
        cases eb
        obtain ⟨x0, _⟩ := hcc i l hl
        exact World.block_lt_of_cell? w _ x0)
      clear hcc x2 x3 hl hl1 hl2 hl3 hl4 hlen hlg hm hga hgc hM hdk hbk hlk hat htau hfit htw hol
      obtain ⟨k2, hk2⟩ : ∃ x, 2 * bk = x := ⟨_, rfl⟩
      have HK2 := hid hk2
      rw [hk2] at HRD HLN y2
      clear hk2
      obtain ⟨rcd, hrcd⟩ : ∃ x, cd - at' = x := ⟨_, rfl⟩
      rw [hrcd] at HRD HLN y2
      clear hrcd
      have t0 : (0 : Int) ≤ (t : Int) := by omega
      have t1 : (t : Int) < (n : Int) := by omega
      have i0 : (0 : Int) ≤ (i : Int) := by omega
      have i1 : (i : Int) < (n : Int) := by omega
      have i2 : (i : Int) < (n : Int) + 1 := by omega
      have HAL := hid ((Below.refl wr.heap.size wr).alloc (Nat.le_refl _) (.cells #[.int .i64 (i : Int), .slice (Z t) lk (CZ t), .slice (some ⟨bd, od + at', none⟩) k2 rcd, .int .u64 tau] 73))
      have HBT := hid (Box4.new wr (.int .i64 (i : Int)) (.slice (Z t) lk (CZ t)) (.slice (some ⟨bd, od + at', none⟩) k2 rcd) (.int .u64 tau) 73)
      have HX01 := hid (And.intro x0 x1)
      have HST := hid hst
      have cv6 := (HAL.out.cell (World.block_lt_of_cell? wr _ cv)).trans cv
      obtain ⟨bt0, bt1, bt2, bt3⟩ := HBT.out
      clear x0 x1 hst cv
      go_wp2_with fail
      clear y0 y1 y2 y3 cv6 bt0 bt1 bt2 bt3
      have HTP : Hid (wr.heap.size ≠ PB ∧ PB < wr.heap.size) := hid (by have h1 := HPS.out.lt; have h2 := HPS.out.size; omega)
      obtain ⟨TB, hTB⟩ : ∃ x, wr.heap.size = x := ⟨_, rfl⟩
      rw [hTB] at HBT HTP
      rw [hTB]
      clear hTB
      have HE8 : Hid (EightC TB X b (off + i * 2) (.int .i64 (i : Int)) (.slice (Z t) lk (CZ t)) (.slice (some ⟨bd, od + at', none⟩) k2 rcd) (.int .u64 tau) (.int .i64 (g : Int)) (.slice (some ⟨b, off, none⟩) n cap) (.int .i64 lg) (.slice ga m gc) (wr.alloc (.cells #[.int .i64 (i : Int), .slice (Z t) lk (CZ t), .slice (some ⟨bd, od + at', none⟩) k2 rcd, .int .u64 tau] 73))) := hid (by
        have hs := HST.out.next HAL.out
        have k : ∀ (a : Addr) (z : Value), wr.cell? a = some z → (wr.alloc (.cells #[.int .i64 (i : Int), .slice (Z t) lk (CZ t), .slice (some ⟨bd, od + at', none⟩) k2 rcd, .int .u64 tau] 73)).cell? a = some z := fun a z hz => (HAL.out.cell (World.block_lt_of_cell? wr _ hz)).trans hz
        exact ⟨⟨HBT.out.c0, HBT.out.c1, HBT.out.c2, HBT.out.c3⟩, ⟨hs.st.box.c0, hs.st.box.c1⟩, k _ _ HX01.out.1, k _ _ HX01.out.2⟩)
      have HP6 := hid (HPS.out.kept HAL.out)
      clear HPS HBT HX01 HAL HST
      generalize wr.alloc (.cells #[.int .i64 (i : Int), .slice (Z t) lk (CZ t), .slice (some ⟨bd, od + at', none⟩) k2 rcd, .int .u64 tau] 73) = W6 at HE8 HP6 ⊢
      have HXN : Hid (X ≠ PB ∧ b ≠ PB) := hid (by have h1 := HXP.out.1; have h2 := HBB.out; have h3 := HX.out; omega)
      have nc := HE8.out
      go_region_held3 (EightC TB X b (off + i * 2) (.int .i64 (i : Int)) (.slice (Z t) lk (CZ t)) (.slice (some ⟨bd, od + at', none⟩) k2 rcd) (.int .u64 tau) (.int .i64 (g : Int)) (.slice (some ⟨b, off, none⟩) n cap) (.int .i64 lg) (.slice ga m gc)) (first | assumption | exact nc7 | exact nc8 _) (first
        | (go_at_call 34; refine (HRD.out _ HP6.out.bel.drew ((HP6.out.turns HP0.out HTR.out).kept (Below.refl _ W6).drew)).mono ?_; rintro e w7 ⟨R', a', rfl, hgr, hb⟩; have hb7 : Below W6.heap.size W6 w7 := (Below.refl _ W6).drew.trans hb; have nc7 := nc.kept hb7; have nc8 := fun v => nc7.set (PB := PB) (o' := t * 2) HTP.out.1 HXN.out.1 HXN.out.2 v; have HP7 := hid (HP6.out.kept hb7); have cz := HP7.out.c0 t htl; have fz := HP7.out.free (t * 2); rw [if_neg (Nat.lt_irrefl t)] at cz; have HGR := hid hgr; clear hb hgr))
      have HP8 : Hid (∃ R L a, PvS w2 w4 (w7.setCell ⟨PB, t * 2, none⟩ (.slice (some ⟨R', 0, none⟩) k2 k2)) PB n (t + 1) t (fun j => (partsQ c).lg (j + 1)) R L a (rightP c f D).R (rightP c f D).L) := hid (by
        have e : 2 * (partsQ c).lg (t + 1) = k2 := by rw [HBK.out, HK2.out]
        have hgr := HGR.out
        rw [← e] at hgr
        have h := HP7.out.put0 htl (R' := R') (a' := a') (base := W6.heap.size) hgr (Nat.lt_of_lt_of_le HP6.out.lt HP6.out.size)
        rw [e] at h
        exact ⟨_, _, _, h⟩)
      have HE8' := hid (nc8 (.slice (some ⟨R', 0, none⟩) k2 k2))
      clear nc nc7 nc8 hb7 cz fz HGR HP7 HP6 HE8 HRD
      generalize w7.setCell ⟨PB, t * 2, none⟩ (.slice (some ⟨R', 0, none⟩) k2 k2) = W8 at HP8 HE8' ⊢
      obtain ⟨R2, L2, a2, hp8⟩ := HP8.out
      have HP8 := hid hp8
      clear hp8
      obtain ⟨⟨u0, u1, u2, u3⟩, _⟩ := HE8'.out
      go_wp2_with fail
      refine (HLN.out _ HP8.out.bel).mono ?_
      rintro e w9 ⟨B, rfl, hB, hrow, hb⟩
      have HP9 := hid (HP8.out.kept hb)
      have HRW : Hid (Row w9 B 0 (bk + 1) ((rightP c f D).L t) ∧ PB < B ∧ B < w9.heap.size) := hid ⟨hrow, Nat.lt_of_lt_of_le (Nat.lt_of_lt_of_le HP8.out.lt HP8.out.size) hB, hrow.lt (by omega)⟩
      have cz := HP9.out.c1 t htl
      have fz := HP9.out.free (t * 2 + 1)
      rw [if_neg (Nat.lt_irrefl t)] at cz
      clear hB hrow hb HP8 HE8' u0 u1 u2 u3 HLN
      go_wp2_with fail
      have HPA : Hid (∃ R L a, PvS w2 w4 (w9.setCell ⟨PB, t * 2 + 1, none⟩ (.slice (some ⟨B, 0, none⟩) (bk + 1) (bk + 1))) PB n (t + 1) (t + 1) (fun j => (partsQ c).lg (j + 1)) R L a (rightP c f D).R (rightP c f D).L) := hid (by
        have hr := HRW.out.1
        rw [← HBK.out] at hr
        have h := HP9.out.put1 htl (L' := B) hr HRW.out.2.1 HRW.out.2.2
        rw [HBK.out] at h
        exact ⟨_, _, _, h⟩)
      go_roundg (n - (t + 1))
      case measure => go_light; omega
      case rel => exact ⟨t + 1, by omega, rfl, by go_num, HPA⟩
    · have e : t = n := by omega
      have t1 : ¬ ((t : Int) < (n : Int)) := by omega
      obtain ⟨hst, hol⟩ := HBL.out wr HPS.out.bel
      have pc := hst.st.pc
      have fz := hst.free
      have HBW := hid hst.st.bel
      have HDN : Hid (∀ v, ∃ m, PfRow (wr.setCell ⟨X + 1, 0, none⟩ v) (some ⟨PB, 0, none⟩) (rightP c f D) m) := hid (fun v => by
        have h := HPS.out
        rw [e] at h
        exact h.done HN.out HXP.out.1 v)
      clear hst hol e
      go_wp2_with fail
      refine bodyPost_ret (results_prf rfl rfl (World.cell?_setCell_same _ _ _ pc)) rfl ?_
      obtain ⟨m, hm⟩ := HDN.out (.slice (some ⟨PB, 0, none⟩) n n)
      have h1 := HXP.out.1
      have h2 := HX.out
      exact ⟨PB, m, rfl, hm, by omega, HBW.out.setCell (by show w.heap.size ≤ X + 1; omega) _⟩

end Go.Proofs.YtaiaillaihlhpafDoor
