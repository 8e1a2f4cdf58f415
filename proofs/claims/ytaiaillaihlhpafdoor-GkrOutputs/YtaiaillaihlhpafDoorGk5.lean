/-
  A contract of a turn's rounds; it makes new rows and writes nothing that was there.
-/
import Derived.Test.YtaiaillaihlhpafDoorGk4
import Derived.Test.YtaiaillaihlhpafDoorGrid
import Derived.Test.YtaiaillaihlhpafDoorSumP
namespace Go.Proofs.YtaiaillaihlhpafDoor
open Go.RowKit
set_option linter.unusedVariables false
attribute [local go_sem ↓] Go.wp_at_zero Go.wp_at_succ

/-- The right values of a layer's rounds. -/
def rdQ (gs : List GQ) (l k : Nat) (V z d : Nat → Int) (r p : Nat) : Int := ofK (rndK (layF (gM gs) (gA gs) (gB gs) l k (fun j => kk (V j)) (pK z)) (k + k) (fun j => kk (d j)) r (kn p))
/-- The tables of the adding gates, of the multiplying ones. -/
def tabA (gs : List GQ) (l k : Nat) (V z : Nat → Int) : Nat → Nat → Int := two (wtF false gs l k z (2 ^ l)) (sprB V (2 ^ k))
def tabM (gs : List GQ) (l k : Nat) (V z : Nat → Int) : Nat → Nat → Int := three (wtF true gs l k z (2 ^ l)) (sprX V (2 ^ k)) (sprY V (2 ^ k))
theorem rd_sum {gs : List GQ} {l k : Nat} {V z d : Nat → Int} (hl : gs.length = 2 ^ l) (hok : ∀ q ∈ gs, gateOk ((2 ^ k : Nat) : Int) q) (r p : Nat) (hr : r < 2 * k) :
    addQ (rightF (tabA gs l k V z) 2 (2 * k) d r p) (rightF (tabM gs l k V z) 3 (2 * k) d r p) = rdQ gs l k V z d r p := by
  have hA : ∀ g, g < 2 ^ l → gA gs g < 2 ^ k ∧ gB gs g < 2 ^ k := fun g hg => by
    obtain ⟨q, hq⟩ : ∃ q, gs[g]? = some q := ⟨gs[g]'(by rw [hl]; exact hg), by simp⟩
    obtain ⟨⟨a0, a1⟩, b0, b1⟩ := hok q (List.mem_of_getElem? hq)
    rw [gA_at hq, gB_at hq]; omega
  rw [addQ_ofK]
  unfold rightF rdQ
  rw [kk_ofK, kk_ofK, Nat.two_mul, rnd_tabs (gM gs) (gA gs) (gB gs) l k (fun j => kk (V j)) (pK z) (fun j => kk (d j)) (kF (tabA gs l k V z)) (kF (tabM gs l k V z)) (fun g hg => (hA g hg).1) (fun g hg => (hA g hg).2)
    (fun p _ => by show kk (ofK _) = _; rw [kk_ofK]) (fun p _ => by show kk (addQ _ _) = _; rw [kk_addQ]) (fun p _ => by show kk (ofK _) = _; rw [kk_ofK]) (fun p _ => rfl) (fun p _ => rfl) r (by omega) (kn p)]
/-- What holds all along: the turn's box, the layer's box, and that nothing was written. -/
structure StR (w W : World) (X : Nat) (p q r s u v : Value) : Prop where
  bel : Below w.heap.size w W
  bt : Box4 W X p q r s
  bl : Box2 W (X + 1) u v
theorem StR.next {w W W' : World} {X : Nat} {p q r s u v : Value} (h : StR w W X p q r s u v) (hb : Below W.heap.size W W') : StR w W' X p q r s u v := ⟨h.bel.trans (hb.mono h.bel.size), h.bt.kept hb, h.bl.kept hb⟩
theorem StR.start (w : World) (p q r s u v : Value) (t t' : TypeId) : StR w ((w.alloc (.cells #[p, q, r, s] t)).alloc (.cells #[u, v] t')) w.heap.size p q r s u v := by
  have h1 := (Below.refl w.heap.size w).alloc (Nat.le_refl _) (.cells #[p, q, r, s] t)
  have h2 := (Below.refl (w.alloc (.cells #[p, q, r, s] t)).heap.size (w.alloc (.cells #[p, q, r, s] t))).alloc (Nat.le_refl _) (.cells #[u, v] t')
  have hb := Box2.new (w.alloc (.cells #[p, q, r, s] t)) u v t'
  rw [World.size_alloc] at hb
  exact ⟨h1.trans (h2.mono h1.size), (Box4.new w p q r s t).kept h2, hb⟩
/-- The six cells. -/
abbrev SixC (X : Nat) (p q r s u v : Value) (W : World) : Prop := W.cell? ⟨X, 0, none⟩ = some p ∧ W.cell? ⟨X, 1, none⟩ = some q ∧ W.cell? ⟨X, 2, none⟩ = some r ∧ W.cell? ⟨X, 3, none⟩ = some s ∧ W.cell? ⟨X + 1, 0, none⟩ = some u ∧ W.cell? ⟨X + 1, 1, none⟩ = some v
theorem StR.six {w W : World} {X : Nat} {p q r s u v : Value} (h : StR w W X p q r s u v) : SixC X p q r s u v W := ⟨h.bt.c0, h.bt.c1, h.bt.c2, h.bt.c3, h.bl.c0, h.bl.c1⟩
theorem StR.six2 {w W : World} {X : Nat} {p q r s u v : Value} (h : StR w W X p q r s u v) (o : Obj) : SixC X p q r s u v (W.alloc o) := (h.next ((Below.refl W.heap.size W).alloc (Nat.le_refl _) o)).six

/-- What the rounds hold while they are gathered: all of the first t, and u values of the next. -/
def gatF (F G : Nat → Nat → Int) (t u i p : Nat) : Int := if i < t ∨ (i = t ∧ p < u) then addQ (F i p) (G i p) else F i p
theorem gat_step (F G : Nat → Nat → Int) (t u i p : Nat) (x y : Int) (hx : F t u = x) (hy : G t u = y) : (if i = t ∧ p = u then addQ x y else gatF F G t u i p) = gatF F G t (u + 1) i p := by
  unfold gatF
  by_cases e : i = t ∧ p = u
  · rw [if_pos e, if_pos (by omega), e.1, e.2, hx, hy]
  · rw [if_neg e]
    by_cases e2 : i < t ∨ (i = t ∧ p < u)
    · rw [if_pos e2, if_pos (by omega)]
    · rw [if_neg e2, if_neg (by omega)]
theorem gat_next (F G : Nat → Nat → Int) (t i p : Nat) (hp : p < 3) : gatF F G t 3 i p = gatF F G (t + 1) 0 i p := by
  unfold gatF
  by_cases e : i < t ∨ (i = t ∧ p < 3)
  · rw [if_pos e, if_pos (by omega)]
  · rw [if_neg e, if_neg (by omega)]
theorem gat_at (F G : Nat → Nat → Int) (t u : Nat) : gatF F G t u t u = F t u := by unfold gatF; rw [if_neg (by omega)]

set_option maxHeartbeats 8000000 in
set_option maxRecDepth 100000 in
theorem rounds_any (i : Int) (az : Option Addr) (nz cz bd od k cd : Nat) (tau lg : Int) (ga : Option Addr) (m gc : Nat) (gs : List GQ) (z d V : Nat → Int) (bb ob N cb : Nat) (w : World) (hk : k ≤ 4) (hz4 : nz ≤ 4) (hm : gs.length = m) (hmz : m = 2 ^ nz) (hN : N = 2 ^ k) (hgr : GRow w ga gs) (hok : ∀ q ∈ gs, gateOk ((2 ^ k : Nat) : Int) q) (hz : PRow w az nz z) (vz : Nums z) (hd : Row w bd od (2 * k) d) (vd : Nums d) (hV : Row w bb ob N V) (vV : Nums V) (ht : Tab w) :
    Calls Tryd.prog 34 #[turnV i az nz cz (some ⟨bd, od, none⟩) (2 * k) cd tau, .agg #[.int .i64 lg, .slice ga m gc], .slice (some ⟨bb, ob, none⟩) N cb] w fun e w' => ∃ R a, e = .returned (.slice (some ⟨R, 0, none⟩) (2 * k) (2 * k)) ∧ Grid w' R (2 * k) 3 a (rdQ gs nz k V z d) w.heap.size ∧ Below w.heap.size w w' := by
  have hN1 : 1 ≤ N := by rw [hN]; exact Nat.one_le_two_pow
  have hN16 : N ≤ 16 := by rw [hN]; exact Nat.pow_le_pow_right (j := 4) (by omega) (by omega)
  have hbb := hV.lt hN1
  have hT : N * N = 2 ^ (2 * k) := by rw [hN, Nat.two_mul, two_pow_pair]
  obtain ⟨T, hTT⟩ : ∃ T, N * N = T := ⟨_, rfl⟩
  have hT1 : 0 < T := by rw [← hTT, hT]; exact Nat.two_pow_pos _
  have HSP := hid (fun W (h : Below w.heap.size w W) => spread_any bb ob N cb V W hN1 hN16 (hV.kept h hbb) vV)
  have HWI := hid (fun (mul : Bool) W (h : Below w.heap.size w W) => wires_any i az nz cz bd od k cd tau lg ga m gc mul gs z T W hk hz4 (by rw [← hTT]; exact hT) hm hmz (hgr.kept h) hok (hz.kept h) vz)
  have hdk : ∀ W, Below w.heap.size w W → PRow W (some ⟨bd, od, none⟩) (2 * k) d := fun W h => (PRow.of hd).kept h
  have HPA : Hid (∀ (W : World) (b0 b1 c1 : Nat), Below w.heap.size w W → Row W b0 0 T (wtF false gs nz k z m) → Row W b1 0 T (sprB V N) → Calls Tryd.prog 51 #[.slice (some ⟨W.heap.size, 0, none⟩) 2 2, .slice (some ⟨bd, od, none⟩) (2 * k) cd] (W.alloc (.cells #[.slice (some ⟨b0, 0, none⟩) T T, .slice (some ⟨b1, 0, none⟩) T c1] 25)) fun e w' => ∃ R b2 a, e = .returned (.tuple #[.slice (some ⟨R, 0, none⟩) (2 * k) (2 * k), .slice (some ⟨b2, 0, none⟩) 2 2, .int .i64 0]) ∧ Grid w' R (2 * k) 3 a (rightF (tabA gs nz k V z) 2 (2 * k) d) W.heap.size ∧ Below W.heap.size W w') := hid (fun W b0 b1 c1 h r0 r1 => by
    have hal := (Below.refl W.heap.size W).alloc (Nat.le_refl _) (.cells #[.slice (some ⟨b0, 0, none⟩) T T, .slice (some ⟨b1, 0, none⟩) T c1] 25)
    have h3 := h.trans (hal.mono h.size)
    refine (sprove_ok W.heap.size 0 2 2 (two b0 b1) (fun _ => 0) (two T c1) (tabA gs nz k V z) (2 * k) T (some ⟨bd, od, none⟩) cd d _ (by omega) (by omega) (by omega) (by rw [← hTT]; exact hT) (ht.kept h3 ht.1) (tabs_two (F := tabA gs nz k V z) (by rw [hmz] at r0; exact r0) (by rw [hN] at r1; exact r1) hT1 _) (fun j hj => ?_) (hdk _ h3) vd).mono ?_
    · match j, hj with
      | 0, _ => exact fun p => ofK_u64 _
      | 1, _ => exact fun p => by have := addQ_rng (V (p / 2 ^ k)) (V (p % 2 ^ k)); show 0 ≤ addQ (V (p / 2 ^ k)) (V (p % 2 ^ k)) ∧ addQ (V (p / 2 ^ k)) (V (p % 2 ^ k)) ≤ _; omega
    · rintro e w' ⟨b2, a, he, hl, _⟩
      exact ⟨_, b2, a, he, hl.grid.base hal.size, hal.trans (hl.below.mono hal.size)⟩)
  have HPM : Hid (∀ (W : World) (b0 b1 c1 b2 c2 : Nat), Below w.heap.size w W → Row W b0 0 T (wtF true gs nz k z m) → Row W b1 0 T (sprX V N) → Row W b2 0 T (sprY V N) → Calls Tryd.prog 51 #[.slice (some ⟨W.heap.size, 0, none⟩) 3 3, .slice (some ⟨bd, od, none⟩) (2 * k) cd] (W.alloc (.cells #[.slice (some ⟨b0, 0, none⟩) T T, .slice (some ⟨b1, 0, none⟩) T c1, .slice (some ⟨b2, 0, none⟩) T c2] 25)) fun e w' => ∃ R b2 a, e = .returned (.tuple #[.slice (some ⟨R, 0, none⟩) (2 * k) (2 * k), .slice (some ⟨b2, 0, none⟩) 3 3, .int .i64 0]) ∧ Grid w' R (2 * k) 4 a (rightF (tabM gs nz k V z) 3 (2 * k) d) W.heap.size ∧ Below W.heap.size W w') := hid (fun W b0 b1 c1 b2 c2 h r0 r1 r2 => by
    have hal := (Below.refl W.heap.size W).alloc (Nat.le_refl _) (.cells #[.slice (some ⟨b0, 0, none⟩) T T, .slice (some ⟨b1, 0, none⟩) T c1, .slice (some ⟨b2, 0, none⟩) T c2] 25)
    have h3 := h.trans (hal.mono h.size)
    refine (sprove_ok W.heap.size 0 3 3 (three b0 b1 b2) (fun _ => 0) (three T c1 c2) (tabM gs nz k V z) (2 * k) T (some ⟨bd, od, none⟩) cd d _ (by omega) (by omega) (by omega) (by rw [← hTT]; exact hT) (ht.kept h3 ht.1) (tabs_three (F := tabM gs nz k V z) (by rw [hmz] at r0; exact r0) (by rw [hN] at r1; exact r1) (by rw [hN] at r2; exact r2) hT1 _) (fun j hj => ?_) (hdk _ h3) vd).mono ?_
    · match j, hj with
      | 0, _ => exact fun p => ofK_u64 _
      | 1, _ => exact fun p => vV _
      | 2, _ => exact fun p => vV _
    · rintro e w' ⟨b2, a, he, hl, _⟩
      exact ⟨_, b2, a, he, hl.grid.base hal.size, hal.trans (hl.below.mono hal.size)⟩)
  have HRD := hid (fun r p hr => rd_sum (V := V) (z := z) (d := d) (by rw [hm]; exact hmz) hok r p hr)
  have HTT := hid hTT
  clear hgr hok hz vz hd vd hV vV ht hdk hm hmz hN hT hTT hbb
  obtain ⟨k2, hk2⟩ : ∃ x, 2 * k = x := ⟨_, rfl⟩
  rw [hk2] at HWI HPA HPM HRD ⊢
  have k28 : k2 ≤ 8 := by omega
  clear hk2
  have HS0 := hid (StR.start w (.int .i64 i) (.slice az nz cz) (.slice (some ⟨bd, od, none⟩) k2 cd) (.int .u64 tau) (.int .i64 lg) (.slice ga m gc) 73 39)
  go_enter Tryd.func34, Tryd.ntmps34
  go_wp2_with fail
  obtain ⟨X, hX⟩ : ∃ X, w.heap.size = X := ⟨_, rfl⟩
  have HX := hid hX
  rw [hX] at HS0
  rw [hX]
  clear hX
  generalize (w.alloc (.cells #[.int .i64 i, .slice az nz cz, .slice (some ⟨bd, od, none⟩) k2 cd, .int .u64 tau] 73)).alloc (.cells #[.int .i64 lg, .slice ga m gc] 39) = W1 at HS0 ⊢
  refine (HSP.out _ HS0.out.bel).mono ?_
  rintro e w1 ⟨g1, c1, g2, c2, g3, c3, rfl, r1, r2, r3, hb⟩
  rw [HTT.out] at r1 r2 r3 ⊢
  have HS1 := hid (HS0.out.next hb)
  have HRS := hid (And.intro r1 (And.intro r2 r3))
  clear hb HS0 HSP r1 r2 r3
  go_wp2_with fail
  have six := HS1.out.six
  go_region_held3 (SixC X (.int .i64 i) (.slice az nz cz) (.slice (some ⟨bd, od, none⟩) k2 cd) (.int .u64 tau) (.int .i64 lg) (.slice ga m gc)) (first | assumption | exact six2 _) (first
    | (go_at_call 52; refine (HWI.out false _ (HS1.out.bel.drew)).mono ?_; rintro e w2 ⟨B0, rfl, hB0, hr0, hb⟩; have hb2 : Below w1.heap.size w1 w2 := (Below.refl _ w1).drew.trans hb; have HS2 := hid (HS1.out.next hb2); have HR2 := hid hr0; have six1 := HS2.out.six; have six2 := HS2.out.six2; clear hb hr0 hB0)
    | (go_at_call 51; refine (HPA.out w2 B0 g3 c3 HS2.out.bel HR2.out (HRS.out.2.2.kept hb2 (HRS.out.2.2.lt hT1))).mono ?_; rintro e w3 ⟨R, b2, a, rfl, hg, hb3⟩; have HS3 := hid (HS2.out.next hb3); have HG3 := hid hg; have six3 := HS3.out.six; have hb23 := hb3; clear hb3 hg))
  have HRX : Hid (Row w3 g1 0 T (sprX V N) ∧ Row w3 g2 0 T (sprY V N)) := hid (by
    have h := hb2.trans (hb23.mono hb2.size)
    exact ⟨HRS.out.1.kept h (HRS.out.1.lt hT1), HRS.out.2.1.kept h (HRS.out.2.1.lt hT1)⟩)
  have HLB : Hid (w.heap.size ≤ w2.heap.size) := hid HS2.out.bel.size
  clear six six1 six2 six3 hb2 hb23 HS1 HS2 HR2 HRS HPA
  go_wp2_with fail
  have six := HS3.out.six
  go_region_held3 (SixC X (.int .i64 i) (.slice az nz cz) (.slice (some ⟨bd, od, none⟩) k2 cd) (.int .u64 tau) (.int .i64 lg) (.slice ga m gc)) (first | assumption | exact six2 _) (first
    | (go_at_call 52; refine (HWI.out true _ (HS3.out.bel.drew)).mono ?_; rintro e w4 ⟨B1, rfl, hB1, hr1, hb⟩; have hb4 : Below w3.heap.size w3 w4 := (Below.refl _ w3).drew.trans hb; have HS4 := hid (HS3.out.next hb4); have HR4 := hid hr1; have six1 := HS4.out.six; have six2 := HS4.out.six2; clear hb hr1 hB1)
    | (go_at_call 51; refine (HPM.out w4 B1 g1 c1 g2 c2 HS4.out.bel HR4.out (HRX.out.1.kept hb4 (HRX.out.1.lt hT1)) (HRX.out.2.kept hb4 (HRX.out.2.lt hT1))).mono ?_; rintro e w5 ⟨M, bm, am, rfl, hgm, hb5⟩; have HS5 := hid (HS4.out.next hb5); have HGM := hid hgm; have six3 := HS5.out.six; have hb45 := hb5; clear hb5 hgm))
  have HG5 := hid ((HG3.out.kept hb4).kept hb45)
  have HFAR : Hid (∀ q, q < k2 → M ≠ a q ∧ ∀ j, j < k2 → am j ≠ a q) := hid (fun q hq => by
    have h1 := (HG3.out.high q hq).2
    have h2 := hb4.size
    have h3 := HGM.out.low
    exact ⟨by omega, fun j hj => by have := (HGM.out.high j hj).1; omega⟩)
  have HMT := hid HGM.out.tabs
  have HB5 := hid HS5.out.bel
  have HG50 : Hid (Grid w5 R k2 3 a (gatF (rightF (tabA gs nz k V z) 2 k2 d) (rightF (tabM gs nz k V z) 3 k2 d) 0 0) w2.heap.size) := hid (HG5.out.congr fun i p _ _ => by unfold gatF; rw [if_neg (by omega)])
  clear six six1 six2 six3 hb4 hb45 HS3 HS4 HS5 HR4 HRX HPM HWI HG3 HGM HG5
  have HNF : Hid (∀ q p, 0 ≤ rightF (tabA gs nz k V z) 2 k2 d q p ∧ rightF (tabA gs nz k V z) 2 k2 d q p ≤ 18446744073709551615) := hid (fun q p => ofK_u64 _)
  have HNM : Hid (∀ q p, 0 ≤ rightF (tabM gs nz k V z) 3 k2 d q p ∧ rightF (tabM gs nz k V z) 3 k2 d q p ≤ 18446744073709551615) := hid (fun q p => ofK_u64 _)
  generalize rightF (tabA gs nz k V z) 2 k2 d = FA at HRD HG50 HNF
  generalize rightF (tabM gs nz k V z) 3 k2 d = FM at HRD HG50 HMT HNM
  go_wp2_with fail
  go_loopg [52] k2 (fun q i wr => ∃ t : Nat, t ≤ k2 ∧ q = k2 - t ∧ i = .int .i64 (t : Int) ∧ Hid (Grid wr R k2 3 a (gatF FA FM t 0) w2.heap.size) ∧ Hid (Tabs wr M 0 k2 am (fun _ => 0) (fun _ => 4) 4 FM) ∧ Hid (Below w.heap.size w wr))
  case atStart => exact ⟨0, by omega, rfl, rfl, HG50, HMT, HB5⟩
  case round =>
    clear HG50 HMT HB5
    obtain ⟨t, htl, rfl, rfl, HG, HM, HB⟩ := hrel
    by_cases hlt : t < k2
    · have y0 := HG.out.cell t hlt
      have t0 : (0 : Int) ≤ (t : Int) := by omega
      have t1 : (t : Int) < (k2 : Int) := by omega
      obtain ⟨aq, haq⟩ : ∃ x, a t = x := ⟨_, rfl⟩
      rw [haq] at y0
      have HAQ := hid haq
      clear haq
      go_wp2_with fail
      clear y0
      obtain ⟨wo, rfl⟩ : ∃ x, x = wr := ⟨wr, rfl⟩
      go_loopg [57] 3 (fun q i wr => ∃ u : Nat, u ≤ 3 ∧ q = 3 - u ∧ i = .int .i64 (u : Int) ∧ Hid (Grid wr R k2 3 a (gatF FA FM t u) w2.heap.size) ∧ Hid (Tabs wr M 0 k2 am (fun _ => 0) (fun _ => 4) 4 FM) ∧ Hid (Below w.heap.size w wr))
      case atStart => exact ⟨0, by omega, rfl, rfl, HG, HM, HB⟩
      case round =>
        clear HG HM HB
        obtain ⟨u, hu, rfl, rfl, HG, HM, HB⟩ := hrel
        by_cases hul : u < 3
        · have c1 := HG.out.row t hlt u hul
          have f1 := HG.out.may t hlt u hul
          have c2 := HM.out.cell t hlt
          have c3 := HM.out.row t hlt u (by omega)
          rw [gat_at, Nat.zero_add, HAQ.out] at c1
          rw [Nat.zero_add, HAQ.out] at f1
          rw [Nat.zero_add] at c2
          rw [Nat.zero_add] at c3
          obtain ⟨x, hx⟩ : ∃ x, FA t u = x := ⟨_, rfl⟩
          obtain ⟨y, hy⟩ : ∃ x, FM t u = x := ⟨_, rfl⟩
          obtain ⟨mq, hmq⟩ : ∃ x, am t = x := ⟨_, rfl⟩
          obtain ⟨x0, x1⟩ := HNF.out t u
          obtain ⟨y0, y1⟩ := HNM.out t u
          rw [hx] at c1 x0 x1
          rw [hy] at c3 y0 y1
          rw [hmq] at c2 c3
          have HXY := hid (And.intro hx hy)
          clear hx hy hmq
          have u0 : (0 : Int) ≤ (u : Int) := by omega
          have u1 : (u : Int) < 3 := by omega
          have u2 : (u : Int) < 4 := by omega
          go_wp2_with fail
          refine wp_region_still_tail 15 Tryd.mixed (by kernel_rfl) ?_
          simp only [List.take_succ_cons, List.take_zero, List.drop_succ_cons, List.drop_zero]
          iterate 13 still_step
          still_call (add_any x y _ (by omega) (by omega) (by omega) (by omega))
          still_step
          refine wpStill_nil ?_
          go_wp2_with fail
          go_roundg (3 - (u + 1))
          case measure => go_light; omega
          case rel =>
            have hf := HFAR.out t hlt
            rw [HAQ.out] at hf
            refine ⟨u + 1, by omega, rfl, by go_num, hid ?_, hid ?_, hid ?_⟩
            · have h := HG.out.drew.put t u hlt hul (addQ x y)
              rw [HAQ.out] at h
              exact h.congr fun i p _ _ => gat_step FA FM t u i p x y HXY.out.1 HXY.out.2
            · exact HM.out.drew.wrote ((Wrote.refl aq u 1 wr.drew).store (Nat.le_refl _) (by omega) _) hf.1 hf.2
            · exact HB.out.drew.setCell (p := ⟨aq, u, none⟩) (by have := (HG.out.high t hlt).1; have h2 := HLB.out; rw [HAQ.out] at this; show w.heap.size ≤ aq; omega) _
        · have e : u = 3 := by omega
          subst e
          have HG2 : Hid (Grid wr R k2 3 a (gatF FA FM (t + 1) 0) w2.heap.size) := hid (HG.out.congr fun i p _ hp => gat_next FA FM t i p hp)
          go_wp2_with fail
          go_roundg (k2 - (t + 1))
          case measure => go_light; omega
          case rel => exact ⟨t + 1, by omega, rfl, by go_num, HG2, HM, HB⟩
    · have e : t = k2 := by omega
      have t1 : ¬ ((t : Int) < (k2 : Int)) := by omega
      have HFIN : Hid (Grid wr R k2 3 a (rdQ gs nz k V z d) w.heap.size) := hid ((HG.out.base HLB.out).congr fun i p hi _ => by unfold gatF; rw [if_pos (by omega)]; exact HRD.out i p hi)
      clear e
      go_wp2_with fail
      go_ret
      exact ⟨R, rfl, ⟨a, HFIN.out⟩, HB.out⟩

end Go.Proofs.YtaiaillaihlhpafDoor
