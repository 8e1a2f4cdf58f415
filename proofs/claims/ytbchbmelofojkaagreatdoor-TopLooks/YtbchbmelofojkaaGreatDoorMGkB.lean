/-
  Several texts in one: Gk8, Gk7, Gk10, Gk11, Gk13; each opens with what it holds.
-/
import Derived.Test.YtbchbmelofojkaaGreatDoorMGkA
import Derived.Test.YtbchbmelofojkaaGreatDoorSumV
import Derived.Test.YtbchbmelofojkaaGreatDoorUni
import Derived.Test.YtbchbmelofojkaaGreatDoorMSum
import Derived.RangeFuncCalls
import Derived.Shelf.RegionOpen
import Derived.Maps.AppendAt
/-
  A contract of a turn's follow, of right circuits and parts of a right form; it makes new rows and writes nothing that was there.
-/
namespace Go.Proofs.YtbchbmelofojkaaGreatDoor
open Go.RowKit
set_option linter.unusedVariables false
attribute [local go_sem ↓] Go.wp_at_zero Go.wp_at_succ

/-- What holds all along: three boxes, and that nothing was written. -/
structure StF (w W : World) (X : Nat) (p q r s u v a b : Value) : Prop where
  bel : Below w.heap.size w W
  bt : Box4 W X p q r s
  bc : Box2 W (X + 1) u v
  bp : Box2 W (X + 1 + 1) a b
theorem StF.next {w W W' : World} {X : Nat} {p q r s u v a b : Value} (h : StF w W X p q r s u v a b) (hb : Below W.heap.size W W') : StF w W' X p q r s u v a b := ⟨h.bel.trans (hb.mono h.bel.size), h.bt.kept hb, h.bc.kept hb, h.bp.kept hb⟩
theorem StF.start (w : World) (p q r s u v a b : Value) (t t' t'' : TypeId) : StF w (((w.alloc (.cells #[p, q, r, s] t)).alloc (.cells #[u, v] t')).alloc (.cells #[a, b] t'')) w.heap.size p q r s u v a b := by
  have b1 := (Below.refl w.heap.size w).alloc (Nat.le_refl _) (.cells #[p, q, r, s] t)
  have h1 := Box4.new w p q r s t
  have z1 : (w.alloc (.cells #[p, q, r, s] t)).heap.size = w.heap.size + 1 := by simp
  generalize w.alloc (.cells #[p, q, r, s] t) = W1 at b1 h1 z1
  have b2 := (Below.refl W1.heap.size W1).alloc (Nat.le_refl _) (.cells #[u, v] t')
  have h2 := Box2.new W1 u v t'
  rw [z1] at h2
  have z2 : (W1.alloc (.cells #[u, v] t')).heap.size = w.heap.size + 1 + 1 := by simp [z1]
  generalize W1.alloc (.cells #[u, v] t') = W2 at b2 h2 z2
  have b3 := (Below.refl W2.heap.size W2).alloc (Nat.le_refl _) (.cells #[a, b] t'')
  have h3 := Box2.new W2 a b t''
  rw [z2] at h3
  exact ⟨(b1.trans (b2.mono b1.size)).trans (b3.mono (by have := b1.size; have := b2.size; omega)), (h1.kept b2).kept b3, h2.kept b3, h3⟩
/-- The line's values that stand for those at x and at y. -/
theorem line_ends (C : Parts) (p : Told) (t : Nat) (hk : C.lg (t + 1) ≤ 100) : kk (atQ (p.L t) (C.lg (t + 1) + 1) 0) = kk (p.L t 0) ∧ kk (atQ (p.L t) (C.lg (t + 1) + 1) 1) = kk (C.v1 p t) := by
  refine ⟨Parts.at_val (p.L t) (C.lg (t + 1) + 1) 0 (by omega) (by omega), ?_⟩
  unfold Parts.v1
  by_cases h : C.lg (t + 1) = 0
  · rw [if_pos h, h]
    exact at_only (p.L t) 1 (by omega) (IsP.const (kk (p.L t 0))) (fun i hi => by rw [show i = 0 from by omega]) 1
  · rw [if_neg h]
    exact Parts.at_val (p.L t) (C.lg (t + 1) + 1) 1 (by omega) (by omega)

/-- What follow tells. -/
def folOut (C : Parts) (D : Nat → Int) (p : Told) (c0 : Int) (t : Nat) (w : World) (e : Ending) (w' : World) : Prop := ∃ (v : Int) (ok : Bool), e = .returned (.tuple #[.int .u64 v, .bool ok]) ∧ (ok = true ↔ C.part D p c0 t) ∧ (ok = true → v = C.claim D p c0 (t + 1)) ∧ Below w.heap.size w w'

set_option maxHeartbeats 8000000 in
set_option maxRecDepth 100000 in
theorem follow_any (c : CQ) (g : Int) (b off n cap : Nat) (A : Nat → Option Addr) (C : Nat → Nat) (i t lk bk : Nat) (az : Option Addr) (cz bd od cd : Nat) (D : Nat → Int) (ra : Option Addr) (lb lo rc lc : Nat) (A2 : Nat → Option Addr) (L2 C2 : Nat → Nat) (p : Told) (c0 cl : Int) (w : World)
    (hg : c.log = g) (hn : c.layers.length = n) (hr : CRow w (some ⟨b, off, none⟩) c.layers A C) (hc : c.right) (hi : i + t + 1 = n) (hlk : (partsQ c).lg t = lk) (hbk : (partsQ c).lg (t + 1) = bk)
    (hz : PRow w az lk (zQ (partsQ c) D t)) (vD : Nums D) (hd : Row w bd od (2 * bk) (fun j => D ((partsQ c).at t + j))) (hcd : 2 * bk < cd) (hcm : cd ≤ maxLen)
    (hl : LRow w ra (2 * bk) A2 L2 C2 (p.R t)) (hL : ∀ j, j < 2 * bk → L2 j = 3) (vR : ∀ j, j < 2 * bk → Nums (p.R t j)) (hL2 : Row w lb lo (bk + 1) (p.L t)) (vL : Nums (p.L t))
    (hcl : cl = (partsQ c).claim D p c0 t) (cl0 : 0 ≤ cl) (cl1 : cl ≤ 2305843009213693950) :
    Calls Tryz.prog 72 #[turnV (i : Int) az lk cz (some ⟨bd, od, none⟩) (2 * bk) cd ((partsQ c).tau D t), .agg #[.int .i64 g, .slice (some ⟨b, off, none⟩) n cap], .agg #[.slice ra (2 * bk) rc, .slice (some ⟨lb, lo, none⟩) (bk + 1) lc], .int .u64 cl] w fun e w' => folOut (partsQ c) D p c0 t w e w' := by
  have n4 : n ≤ 4 := by have := hc.few; omega
  have bk4 : bk ≤ 4 := by rw [← hbk]; exact parts_lg hc (t + 1)
  have lk4 : lk ≤ 4 := by rw [← hlk]; exact parts_lg hc t
  have hbd : ∀ (h : 0 < 2 * bk), bd < w.heap.size := fun h => hd.lt h
  have hlb := hL2.lt (by omega)
  obtain ⟨l, hll, hl1, hl2, _, _⟩ := parts_layer hc (j := t) (by omega)
  rw [hn, show n - 1 - t = i from by omega] at hll
  have hlog : l.log = (lk : Int) := by rw [← hlk, hl1]; have := (hc.layer i l hll).1; omega
  have hbe : belowQ c i = (bk : Int) := by
    obtain ⟨x, hx, _⟩ := belowQ_rng hc i
    have := lg_of hn hi hx
    rw [hx, ← this, hbk]
  have hnow : ∀ r, toldQ (nrm cl) (p.R t) 3 (fun j => D ((partsQ c).at t + j)) r = (partsQ c).now D p c0 t r := fun r => by rw [nrm_in cl0 cl1, hcl]; rfl
  obtain ⟨tr, nw, htr, hnw, hnr, hver⟩ : ∃ (tr : Bool) (nw : Int), (tr = true ↔ ∀ r, r < 2 * bk → addQ (p.R t r 0) (p.R t r 1) = (partsQ c).now D p c0 t r) ∧ (tr = true → nw = (partsQ c).now D p c0 t (2 * bk)) ∧ (0 ≤ nw ∧ nw ≤ 18446744073709551615) ∧ ∀ W, Below w.heap.size w W → Calls Tryz.prog 105 #[.int .u64 cl, .slice ra (2 * bk) rc, .slice (some ⟨bd, od, none⟩) (2 * bk) cd] W fun e w' => e = .returned (.tuple #[.int .u64 nw, .bool tr, .int .i64 0]) ∧ Below W.heap.size W w' := by
    have hdk : ∀ W, Below w.heap.size w W → PRow W (some ⟨bd, od, none⟩) (2 * bk) (fun j => D ((partsQ c).at t + j)) := fun W h => (PRow.of hd).kept h
    rcases first_bad (fun r => addQ (p.R t r 0) (p.R t r 1) = (partsQ c).now D p c0 t r) (2 * bk) with hall | ⟨r, hr2, hno, hall⟩
    · refine ⟨true, _, ⟨fun _ => hall, fun _ => rfl⟩, fun _ => rfl, ?_, fun W hW => ?_⟩
      · rw [← hnow]; have := told_in cl (p.R t) 3 (fun j => D ((partsQ c).at t + j)) (2 * bk); omega
      · have h := verify_ok ra (some ⟨bd, od, none⟩) (2 * bk) rc cd 3 A2 L2 C2 (p.R t) (fun j => D ((partsQ c).at t + j)) cl W (by omega) (by omega) (by omega) (by omega) (by omega) (hl.kept hW) hL vR (hdk W hW) (fun j => vD _) (fun k hk => by rw [hall k hk, hnow])
        rw [hnow] at h
        exact h
    · refine ⟨false, 0, ⟨fun h => absurd h Bool.false_ne_true, fun h => absurd (h r hr2) hno⟩, fun h => absurd h Bool.false_ne_true, by omega, fun W hW => ?_⟩
      exact verify_bad ra (some ⟨bd, od, none⟩) (2 * bk) rc cd 3 A2 L2 C2 (p.R t) (fun j => D ((partsQ c).at t + j)) cl W (by omega) (by omega) (by omega) (by omega) (by omega) (hl.kept hW) hL vR (hdk W hW) (fun j => vD _) r hr2 (fun k hk => by rw [hall k hk, hnow]) (by rw [hnow]; exact hno)
  obtain ⟨e0, e1⟩ := line_ends (partsQ c) p t (by rw [hbk]; omega)
  rw [hbk] at e0 e1
  obtain ⟨v0, hv0⟩ : ∃ x, atQ (p.L t) (bk + 1) 0 = x := ⟨_, rfl⟩
  obtain ⟨v1, hv1⟩ : ∃ x, atQ (p.L t) (bk + 1) 1 = x := ⟨_, rfl⟩
  have rv0 := atQ_rng (p.L t) (bk + 1) 0
  have rv1 := atQ_rng (p.L t) (bk + 1) 1
  rw [hv0] at e0 rv0
  rw [hv1] at e1 rv1
  obtain ⟨tau, htau⟩ : ∃ x, (partsQ c).tau D t = x := ⟨_, rfl⟩
  have rtau : 0 ≤ tau ∧ tau ≤ 18446744073709551615 := by rw [← htau]; exact vD _
  have HAT : Hid (∀ (x : Int) W, 0 ≤ x → x ≤ 18446744073709551615 → Below w.heap.size w W → Calls Tryz.prog 106 #[.slice (some ⟨lb, lo, none⟩) (bk + 1) lc, .int .u64 x] W fun e w' => e = .returned (.tuple #[.int .u64 (atQ (p.L t) (bk + 1) x), .int .i64 0]) ∧ Below W.heap.size W w') := hid (fun x W x0 x1 h => at_ok lb lo (bk + 1) lc (p.L t) x W (by omega) (by omega) (hL2.kept h hlb) vL x0 x1)
  have HEN := hid (fun W => ends_any (i : Int) az lk cz bd od bk cd tau W (by omega) hcd hcm)
  have HSTP := hid (part_step (c := c) (n := n) (i := i) (t := t) (lk := lk) (bk := bk) hn hi hll hlk hbk D p v0 v1 e0 e1)
  obtain ⟨sv, hsv⟩ : ∃ x, wstQ l.gates lk bk (zQ (partsQ c) D t) (fun i => D ((partsQ c).at t + i)) (fun i => D ((partsQ c).at t + bk + i)) v0 v1 = x := ⟨_, rfl⟩
  have HSC : Hid (∀ W, Below w.heap.size w W → Calls Tryz.prog 107 #[.agg #[.int .i64 g, .slice (some ⟨b, off, none⟩) n cap], .int .i64 (i : Int), .slice az lk cz, .slice (some ⟨bd, od, none⟩) bk cd, .slice (some ⟨bd, od + bk, none⟩) bk (cd - bk), .int .u64 v0, .int .u64 v1] W fun e w' => e = .returned (.tuple #[.int .u64 sv, .int .i64 0]) ∧ Below W.heap.size W w') := hid (fun W h => by
    have hx : PRow W (some ⟨bd, od, none⟩) bk (fun i => D ((partsQ c).at t + i)) := ((PRow.of (fun j hj => hd j (by omega)) : PRow w (some ⟨bd, od, none⟩) bk _)).kept h
    have hy : PRow W (some ⟨bd, od + bk, none⟩) bk (fun i => D ((partsQ c).at t + bk + i)) := ((PRow.of (fun j hj => by have := hd (bk + j) (by omega); dsimp only at this; rw [← Nat.add_assoc, ← Nat.add_assoc] at this; exact this) : PRow w (some ⟨bd, od + bk, none⟩) bk _)).kept h
    refine (step_any c g (some ⟨b, off, none⟩) n cap A C (i : Int) az (some ⟨bd, od, none⟩) (some ⟨bd, od + bk, none⟩) lk cz bk cd bk (cd - bk) _ _ _ v0 v1 W hg hn (hr.kept h) (hz.kept h) hx hy (Nums_zQ vD _ _) (fun j => vD _) (fun j => vD _) (by omega) (by omega) (by omega) (by omega)).mono ?_
    rintro e w' ⟨v, x', rfl, ha, _, hv, hb⟩
    have hx0 : x' = 0 := askE_one ha (.inr (.inr ⟨hc, ⟨i, l, rfl, hll, by rw [hlog], by rw [hbe], by rw [hbe]⟩, rfl⟩))
    subst hx0
    rw [hv rfl, wspQ_at hll, hlog, hbe, Int.toNat_natCast, Int.toNat_natCast, hsv]
    exact ⟨rfl, hb⟩)
  rw [hsv] at HSTP
  have rsv : 0 ≤ sv ∧ sv ≤ 18446744073709551615 := by rw [HSTP.out]; exact ofK_u64 _
  have HPART : Hid ((partsQ c).part D p c0 t ↔ tr = true ∧ sv = nw) := hid (by
    have hk2 : (partsQ c).lg (t + 1) + (partsQ c).lg (t + 1) = 2 * bk := by rw [hbk]; omega
    constructor
    · intro h
      have h1 : tr = true := htr.2 (fun r hr => h.sums r (by rw [hk2]; exact hr))
      refine ⟨h1, ?_⟩
      rw [HSTP.out, hnw h1, ← hk2]
      exact h.step
    · rintro ⟨h1, h2⟩
      refine ⟨fun r hr => htr.1 h1 r (by rw [← hk2]; exact hr), ?_⟩
      rw [hk2, ← hnw h1, ← h2, ← HSTP.out])
  have HNX : Hid (atQ (p.L t) (bk + 1) tau = (partsQ c).claim D p c0 (t + 1)) := hid (by
    show _ = atQ (p.L t) ((partsQ c).lg (t + 1) + 1) ((partsQ c).tau D t)
    rw [hbk, htau])
  have HVE := hid hver
  rw [htau]
  have A0 := HAT.out 0
  have A1 := HAT.out 1
  rw [hv0] at A0
  rw [hv1] at A1
  have HA0 := hid A0
  have HA1 := hid A1
  clear A0 A1 hver htr hnw hnow hr hc hz hd hl hL vR hL2 vL hcl hll hl1 hl2 hlog hbe hlk hbk e0 e1 hv0 hv1 htau hsv HSTP hg hn hi hbd hlb vD
  obtain ⟨k2, hk2⟩ : ∃ x, 2 * bk = x := ⟨_, rfl⟩
  rw [hk2] at HVE HEN ⊢
  clear hk2 hcd
  have HS0 := hid (StF.start w (.int .i64 (i : Int)) (.slice az lk cz) (.slice (some ⟨bd, od, none⟩) k2 cd) (.int .u64 tau) (.int .i64 g) (.slice (some ⟨b, off, none⟩) n cap) (.slice ra k2 rc) (.slice (some ⟨lb, lo, none⟩) (bk + 1) lc) 106 25 67)
  obtain ⟨rv00, rv01⟩ := rv0
  obtain ⟨rv10, rv11⟩ := rv1
  obtain ⟨rt0, rt1⟩ := rtau
  obtain ⟨rn0, rn1⟩ := hnr
  obtain ⟨rs0, rs1⟩ := rsv
  go_enter Tryz.func72, Tryz.ntmps72
  go_wp2_with fail
  obtain ⟨X, hX⟩ : ∃ X, w.heap.size = X := ⟨_, rfl⟩
  rw [hX] at HS0
  rw [hX]
  have HX := hid hX
  clear hX
  generalize ((w.alloc (.cells #[.int .i64 (i : Int), .slice az lk cz, .slice (some ⟨bd, od, none⟩) k2 cd, .int .u64 tau] 106)).alloc (.cells #[.int .i64 g, .slice (some ⟨b, off, none⟩) n cap] 25)).alloc (.cells #[.slice ra k2 rc, .slice (some ⟨lb, lo, none⟩) (bk + 1) lc] 67) = W0 at HS0 ⊢
  refine (HVE.out _ HS0.out.bel).mono ?_
  rintro e w1 ⟨rfl, hb⟩
  have HS1 := hid (HS0.out.next hb)
  clear hb HS0 HVE
  cases tr with
  | false =>
    go_wp2_with fail
    go_ret2
    exact ⟨0, false, rfl, ⟨fun h => absurd h Bool.false_ne_true, fun h => absurd (HPART.out.1 h).1 Bool.false_ne_true⟩, fun h => absurd h Bool.false_ne_true, HS1.out.bel⟩
  | true =>
    obtain ⟨z0, z1, z2, z3, zl⟩ := HS1.out.bt
    go_wp2_with fail
    refine (HEN.out _).mono ?_
    rintro e w2 ⟨rfl, hb⟩
    have HS2 := hid (HS1.out.next hb)
    clear hb HS1 HEN z0 z1 z2 z3 zl
    obtain ⟨p0, p1, pl⟩ := HS2.out.bp
    go_wp2_with fail
    refine (HA0.out _ (by omega) (by omega) HS2.out.bel).mono ?_
    rintro e w3 ⟨rfl, hb⟩
    have HS3 := hid (HS2.out.next hb)
    clear hb HS2 HA0 p0 p1 pl
    obtain ⟨p0, p1, pl⟩ := HS3.out.bp
    go_wp2_with fail
    refine (HA1.out _ (by omega) (by omega) HS3.out.bel).mono ?_
    rintro e w4 ⟨rfl, hb⟩
    have HS4 := hid (HS3.out.next hb)
    clear hb HS3 HA1 p0 p1 pl
    obtain ⟨z0, z1, z2, z3, zl⟩ := HS4.out.bt
    obtain ⟨q0, q1, ql⟩ := HS4.out.bc
    go_wp2_with fail
    refine (HSC.out _ HS4.out.bel).mono ?_
    rintro e w5 ⟨rfl, hb⟩
    have HS5 := hid (HS4.out.next hb)
    clear hb HS4 HSC z0 z1 z2 z3 zl q0 q1 ql
    by_cases hsn : sv = nw
    · have e4 : (sv != nw) = false := neq_of hsn
      have HP : Hid ((partsQ c).part D p c0 t) := hid (HPART.out.2 ⟨(by first | rfl | trivial), hsn⟩)
      clear hsn
      obtain ⟨z0, z1, z2, z3, zl⟩ := HS5.out.bt
      obtain ⟨p0, p1, pl⟩ := HS5.out.bp
      go_wp2_with fail
      refine (HAT.out tau _ (by omega) (by omega) HS5.out.bel).mono ?_
      rintro e w6 ⟨rfl, hb⟩
      have HS6 := hid (HS5.out.next hb)
      clear hb HS5 HAT z0 z1 z2 z3 zl p0 p1 pl
      go_wp2_with fail
      go_ret2
      exact ⟨_, true, rfl, ⟨fun _ => HP.out, fun _ => rfl⟩, fun _ => HNX.out, HS6.out.bel⟩
    · have e4 : (sv != nw) = true := by simp [hsn]
      have HP : Hid (¬ (partsQ c).part D p c0 t) := hid (fun h => hsn (HPART.out.1 h).2)
      clear hsn
      go_wp2_with fail
      go_ret2
      exact ⟨0, false, rfl, ⟨fun h => absurd h Bool.false_ne_true, fun h => absurd h HP.out⟩, fun h => absurd h Bool.false_ne_true, HS5.out.bel⟩

end Go.Proofs.YtbchbmelofojkaaGreatDoor

/-
  A contract of package gkr's turns, of right circuits and as many draws as they ask; it makes new rows and writes nothing that was there.
-/
namespace Go.Proofs.YtbchbmelofojkaaGreatDoor
open Go.RowKit Go.Shelf
set_option linter.unusedVariables false
set_option linter.unusedSimpArgs false
attribute [local go_sem] Oper.semAt_some

/-- make([]turn, 0, n). -/
theorem Tryz.infoT : (Tryz.prog.info? 106).map (fun i => (i.zero, i.size, i.bytes)) = some (some (.agg #[.int .i64 0, .slice none 0 0, .slice none 0 0, .int .u64 0]), 4, 64) := by kernel_rfl
theorem run_make_turns (n : Nat) (hn : n ≤ 1000) (w : World) : (Instr.makeSlice 103 (.int .i64 0) (.int .i64 (n : Int))).run Tryz.prog w = .ok (.slice (some ⟨w.heap.size, 0, none⟩) 0 n) (w.alloc (.cells (madeCells #[.int .i64 0, .slice none 0 0, .slice none 0 0, .int .u64 0] (n * 4)) 106)) := by
  obtain ⟨i, hi, hz⟩ := Option.map_eq_some_iff.1 Tryz.infoT
  simp only [Prod.mk.injEq] at hz
  obtain ⟨h1, h2, h3⟩ := hz
  have h := run_make (P := Tryz.prog) w 103 106 i _ Tryz.underlying103 hi h1 .i64 .i64 0 (n : Int) (by omega) (by omega) (by rw [h3]; omega) (by omega)
  rw [h2] at h
  exact h

/-- What turns tells. -/
def turnsOut (c : CQ) (n bd od cd : Nat) (D : Nat → Int) (w : World) (e : Ending) (w' : World) : Prop := ∃ T ct Z CZ, e = .returned (.slice (some ⟨T, 0, none⟩) n ct) ∧ TuRow w' T c bd od cd D Z CZ n ∧ Below w.heap.size w w'
theorem news4 (w : World) (p q r s : Value) (t : TypeId) : ∀ j u, [p, q, r, s][j]? = some u → (w.alloc (.cells #[p, q, r, s] t)).cell? ((⟨w.heap.size, 0, none⟩ : Addr).add j) = some u := by
  intro j u hj
  rw [Addr.add_lit, Nat.zero_add, World.cell?_alloc_new]
  simpa using hj

set_option maxHeartbeats 8000000 in
set_option maxRecDepth 100000 in
theorem turns_any (c : CQ) (g : Int) (b off n cap : Nat) (A : Nat → Option Addr) (C : Nat → Nat) (bd od nd cd : Nat) (D : Nat → Int) (w : World) (hg : c.log = g) (hn : c.layers.length = n) (hr : CRow w (some ⟨b, off, none⟩) c.layers A C) (hc : c.right) (hd : Row w bd od nd D) (vd : Nums D) (hnd : nd = needQ c) (hcd : nd ≤ cd) (hcm : cd ≤ maxLen) :
    Calls Tryz.prog 59 #[.agg #[.int .i64 g, .slice (some ⟨b, off, none⟩) n cap], .slice (some ⟨bd, od, none⟩) nd cd] w fun e w' => turnsOut c n bd od cd D w e w' := by
  have n4 : n ≤ 4 := by have := hc.few; omega
  have n1 : 1 ≤ n := by have := List.length_pos_iff.2 hc.some; omega
  have nd40 : nd ≤ 40 := by rw [hnd]; exact needQ_le hc
  have HLG := hid (fun W (h : Below w.heap.size w W) => logs_any c g b off n cap A C W hg hn n4 (hr.kept h))
  have hmx : Tryz.prog.follows .mixedOrders = true := by kernel_rfl
  obtain ⟨lz, hlz, lz4⟩ := belowQ_rng hc n
  have hlg0 := lg_top hn hlz
  have hlzn : lz ≤ nd := by rw [hnd, ← hlg0]; exact at_mono (partsQ c) (Nat.zero_le c.layers.length)
  have hnd1 : lz + 1 ≤ nd := by
    have h := at_fits (c := c) (j := 0) (by omega)
    have e : (partsQ c).at 0 = lz := hlg0
    rw [e, ← hnd] at h
    omega
  have hlzc : lz < cd := by omega
  have HLZ := hid (And.intro hlz hlg0)
  have HN := hid (And.intro hn (And.intro hnd (And.intro hc hr)))
  have HD := hid (And.intro hd vd)
  clear hr hg hn hc hd vd hnd hlz hlg0
  have HST := hid (StW.start w g (.slice (some ⟨b, off, none⟩) n cap) 25)
  have HDB := hid (Boxed.new (w.alloc (.cells #[.int .i64 g, .slice (some ⟨b, off, none⟩) n cap] 25)) 22 (.slice (some ⟨bd, od, none⟩) nd cd))
  refine (callsIn_wide (n := 6)).1 ?_
  refine callsIn_of_wp_marks Tryz.func59 rfl trivial ?_ rfl
  simp only [Tryz.ntmps59, List.size_toArray, List.length_cons, List.length_nil, Nat.reduceAdd, Nat.reduceSub, Array.replicate_succ, Array.replicate_zero, List.push_toArray, List.append_toArray, List.nil_append, List.cons_append]
  gi_wp2_with fail
  obtain ⟨X, hX⟩ : ∃ X, w.heap.size = X := ⟨_, rfl⟩
  have HX := hid hX
  have HS1 := hid (HST.out.next ((Below.refl (w.alloc (.cells #[.int .i64 g, .slice (some ⟨b, off, none⟩) n cap] 25)).heap.size _).alloc (Nat.le_refl _) (.cells #[.slice (some ⟨bd, od, none⟩) nd cd] 22)))
  rw [World.size_alloc] at HDB
  rw [hX] at HS1 HDB
  rw [hX]
  clear hX HST
  generalize (w.alloc (.cells #[.int .i64 g, .slice (some ⟨b, off, none⟩) n cap] 25)).alloc (.cells #[.slice (some ⟨bd, od, none⟩) nd cd] 22) = W0 at HS1 HDB ⊢
  refine ⟨trivial, ?_⟩
  refine (callsIn_wide.2 (HLG.out _ HS1.out.bel)).mono ?_
  rintro e w1 ⟨L, cl, rfl, hcl, hL, hrow, hb⟩
  have HS2 := hid (HS1.out.next hb)
  have HD2 : Hid (Boxed w1 (X + 1) 22 (.slice (some ⟨bd, od, none⟩) nd cd)) := hid ((hb.block (X + 1) HDB.out.lt).trans HDB.out)
  have HRW := hid hrow
  obtain ⟨z0, z1, zl⟩ := HS2.out.box
  have y0 := HRW.out n (by omega)
  rw [Nat.zero_add, HLZ.out.1] at y0
  have hLl : L < w1.heap.size := World.block_lt_of_cell? w1 _ y0
  have hXl := HD2.out.lt
  have dc := HD2.out.cell
  have df := HD2.out.frozen
  have y0' : ∀ o, (w1.alloc o).cell? ⟨L, n, none⟩ = some (.int .i64 (lz : Int)) := fun o => by rw [World.cell?_alloc_old _ _ _ (Nat.ne_of_lt hLl)]; exact y0
  clear hb HS1 HDB HLG hrow hL y0
  have n0 : (0 : Int) ≤ (n : Int) := by omega
  have n5 : (n : Int) < (n : Int) + 1 := by omega
  have m1 : (lz : Int) ≤ (cd : Int) := by omega
  have m2 : (lz : Int) ≤ (nd : Int) := by omega
  have m3 : ¬ cd = lz := by omega
  have m4 : (0 : Int) ≤ (lz : Int) := by omega
  gi_wp2_with fail
  clear y0'
  apply mid_in
  · gi_region_o
    all_goals exact ⟨rfl, rfl⟩
  · have hXw := HX.out
    obtain ⟨Y, hY⟩ : ∃ Y, w1.heap.size = Y := ⟨_, rfl⟩
    obtain ⟨M, hM⟩ : ∃ M, w1.setCell ⟨X + 1, 0, none⟩ (.slice (some ⟨bd, od + lz, none⟩) (nd - lz) (cd - lz)) = M := ⟨_, rfl⟩
    have hwY : w.heap.size ≤ Y := by rw [← hY]; exact HS2.out.bel.size
    have hXY : X + 1 < Y := by rw [← hY]; exact HD2.out.lt
    have e1 : M.heap.size = Y := by rw [← hM, World.size_setCell, hY]
    have q1 : Boxed M (X + 1) 22 (.slice (some ⟨bd, od + lz, none⟩) (nd - lz) (cd - lz)) := by rw [← hM]; exact HD2.out.set _
    have q2 : Below w.heap.size w M := by rw [← hM]; exact HS2.out.bel.setCell (p := ⟨X + 1, 0, none⟩) (by show w.heap.size ≤ X + 1; omega) _
    have q3 : IRow M L 0 (n + 1) (belowQ c) := fun j hj => by rw [← hM]; exact box_set_cell HD2.out (HRW.out j hj)
    have q4 : Box2 M X (.int .i64 g) (.slice (some ⟨b, off, none⟩) n cap) := by
      rw [← hM]
      have hw : Wrote (X + 1) 0 1 w1 (w1.setCell ⟨X + 1, 0, none⟩ (.slice (some ⟨bd, od + lz, none⟩) (nd - lz) (cd - lz))) := (Wrote.refl _ _ _ _).store (Nat.le_refl _) (by omega) _
      exact ⟨(World.cell?_of_block (w := w1) (hw.block X (by omega))).trans z0, (World.cell?_of_block (w := w1) (hw.block X (by omega))).trans z1, by rw [World.size_setCell]; exact zl⟩
    rw [hM, hY]
    obtain ⟨N1, hN1⟩ : ∃ N, (M.alloc (.cells #[.slice (some ⟨L, 0, none⟩) (n + 1) cl] 45)).alloc (.cells #[.slice (some ⟨bd, od, none⟩) lz cd] 22) = N := ⟨_, rfl⟩
    have b1 := (Below.refl M.heap.size M).alloc (Nat.le_refl _) (.cells #[.slice (some ⟨L, 0, none⟩) (n + 1) cl] 45)
    have b2 := b1.alloc (by simp) (.cells #[.slice (some ⟨bd, od, none⟩) lz cd] 22)
    have r1 := (Boxed.new M 45 (.slice (some ⟨L, 0, none⟩) (n + 1) cl)).alloc (.cells #[.slice (some ⟨bd, od, none⟩) lz cd] 22)
    have r2 := Boxed.new (M.alloc (.cells #[.slice (some ⟨L, 0, none⟩) (n + 1) cl] 45)) 22 (.slice (some ⟨bd, od, none⟩) lz cd)
    have e2 : ((M.alloc (.cells #[.slice (some ⟨L, 0, none⟩) (n + 1) cl] 45)).alloc (.cells #[.slice (some ⟨bd, od, none⟩) lz cd] 22)).heap.size = Y + 1 + 1 := by simp [e1]
    rw [World.size_alloc] at r2
    rw [hN1] at b2 r1 r2 e2 ⊢
    rw [e1] at r1 r2
    have p1 : Boxed N1.drew (X + 1) 22 (.slice (some ⟨bd, od + lz, none⟩) (nd - lz) (cd - lz)) := (b2.block (X + 1) q1.lt).trans q1
    have p2 : Below w.heap.size w N1.drew := (q2.trans (b2.mono q2.size)).drew
    have p3 : IRow N1.drew L 0 (n + 1) (belowQ c) := q3.kept b2.drew
    have p4 : Box2 N1.drew X (.int .i64 g) (.slice (some ⟨b, off, none⟩) n cap) := q4.kept b2.drew
    have p5 : Boxed N1.drew Y 45 (.slice (some ⟨L, 0, none⟩) (n + 1) cl) := r1
    have p6 : Boxed N1.drew (Y + 1) 22 (.slice (some ⟨bd, od, none⟩) lz cd) := r2
    have p7 : N1.drew.heap.size = Y + 1 + 1 := e2
    generalize N1.drew = W2 at p1 p2 p3 p4 p5 p6 p7 ⊢
    have HP := hid (And.intro p1 (And.intro p2 (And.intro p3 (And.intro p5 p6))))
    clear hM hN1 b1 b2 r1 r2 e1 e2 q1 q2 q3 q4 p1 p2 p3 p5 p6 hY HD2 HS2 HRW z0 z1 zl dc df hXl hLl
    obtain ⟨z0, z1, zl⟩ := p4
    have hmk := run_make_turns n (by omega)
    rw [p7] at zl
    gi_wp2_with (refine ⟨trivial, ?_⟩; gi_at_call 89; refine (callsIn_wide.2 (back_any _ _ _ _)).mono ?_; rintro e w3 ⟨rfl, rfl⟩)
    clear hmk
    obtain ⟨hn, hnd, hc, hr⟩ := HN.out
    obtain ⟨p1, p2, p3, p5, p6⟩ := HP.out
    obtain ⟨W3, hW3⟩ : ∃ W3, ((W2.alloc (.cells (madeCells #[.int .i64 0, .slice none 0 0, .slice none 0 0, .int .u64 0] (n * 4)) 106)).alloc (.cells #[.slice (some ⟨Y + 1 + 1, 0, none⟩) 0 n] 103)).alloc (.cells #[.slice (some ⟨b, off, none⟩) n cap] 23) = W3 := ⟨_, rfl⟩
    have b3 : Below W2.heap.size W2 W3 := by rw [← hW3]; exact (((Below.refl W2.heap.size W2).alloc (Nat.le_refl _) _).alloc (by simp) _).alloc (by simp; omega) _
    have e3 : W3.heap.size = Y + 1 + 1 + 1 + 1 + 1 := by rw [← hW3]; simp [p7]
    have a1 : Boxed W3 (Y + 1 + 1 + 1) 103 (.slice (some ⟨Y + 1 + 1, 0, none⟩) 0 n) := by
      rw [← hW3]
      have h := (Boxed.new (W2.alloc (.cells (madeCells #[.int .i64 0, .slice none 0 0, .slice none 0 0, .int .u64 0] (n * 4)) 106)) 103 (.slice (some ⟨Y + 1 + 1, 0, none⟩) 0 n)).alloc (.cells #[.slice (some ⟨b, off, none⟩) n cap] 23)
      rwa [World.size_alloc, p7] at h
    have a2 : W3.ownsRow w.heap.size 106 4 (.slice (some ⟨Y + 1 + 1, 0, none⟩) 0 n) 0 [] := by
      rw [← hW3]
      have h := World.ownsRow_made (base := w.heap.size) (e := 106) (size := 4) W2 (madeCells #[.int .i64 0, .slice none 0 0, .slice none 0 0, .int .u64 0] (n * 4)) n p2.size (by unfold maxLen; omega) (by simp [madeCells])
      rw [p7] at h
      exact (h.alloc _).alloc _
    have a3 : W3.cell? ⟨Y + 1 + 1 + 1 + 1, 0, none⟩ = some (.slice (some ⟨b, off, none⟩) n cap) := by
      rw [← hW3]
      have h := (Boxed.new ((W2.alloc (.cells (madeCells #[.int .i64 0, .slice none 0 0, .slice none 0 0, .int .u64 0] (n * 4)) 106)).alloc (.cells #[.slice (some ⟨Y + 1 + 1, 0, none⟩) 0 n] 103)) 23 (.slice (some ⟨b, off, none⟩) n cap)).cell
      rwa [World.size_alloc, World.size_alloc, p7] at h
    have a4 : Below w.heap.size w W3 := p2.trans (b3.mono p2.size)
    have hbw : b < w.heap.size := by
      obtain ⟨b', off', eb, hcl⟩ := hr hc.some
      cases eb
      obtain ⟨l0, hl0⟩ : ∃ l, c.layers[0]? = some l := ⟨c.layers[0]'(by omega), by simp⟩
      exact World.block_lt_of_cell? w _ (hcl 0 l0 hl0).1
    have I0 : TuIn c n bd od nd cd D w X L cl Y (Y + 1) (Y + 1 + 1 + 1) (Y + 1 + 1) 0 W3 := by
      refine ⟨fun _ => some ⟨bd, od, none⟩, fun _ => cd, some ⟨bd, od + lz, none⟩, a4, ?_, ?_, (b3.block _ p5.lt).trans p5, p3.kept b3, ?_, ?_, a1, a2, ?_, by omega, ?_⟩
      · rw [show (partsQ c).at 0 = lz from HLZ.out.2]; exact (b3.block _ p1.lt).trans p1
      · intro _; rw [show (partsQ c).at 0 = lz from HLZ.out.2]
      · rw [HLZ.out.2]; exact (b3.block _ p6.lt).trans p6
      · intro j hj
        have e : j = 0 := by omega
        subst e
        rw [HLZ.out.2]
        have h := HD.out.1.kept a4 (HD.out.1.lt (by omega))
        exact PRow.of fun i hi => h i (by omega)
      · have := p3.lt (by omega); omega
      · intro j _ x hx
        cases hx
        show bd ≠ Y + 1 + 1
        have h1 := HD.out.1.lt (by omega)
        have h2 := p2.size
        omega
    rw [hW3]
    clear hW3 a1 a2 z0 z1 zl p1 p2 p3 p5 p6 HP hnd
    refine range_known (F := Fence.wide) rfl (by omega) (gf := 116) (lb := #[.pointer (some ⟨Y + 1 + 1 + 1 + 1, 0, none⟩)]) rfl trivial (enters_of Tryz.func116 (by kernel_rfl) rfl)
      (n₀ := w.heap.size) (Bs := Y + 1 + 1 + 1 + 1) a4.size (by omega) (back_seq _ (Y + 1 + 1 + 1 + 1) w.heap.size b off n cap c.layers A C W3 (by omega) hn (by omega) hbw (Nat.lt_of_lt_of_le hbw a4.size) a3 (hr.kept a4)) (fun _ => rfl)
      (TuIn c n bd od nd cd D w X L cl Y (Y + 1) (Y + 1 + 1 + 1) (Y + 1 + 1)) (TuIn.own a4.size) I0
      (fun k => { tmps := #[(.agg #[.int .i64 g, .slice (some ⟨b, off, none⟩) n cap]), .slice (some ⟨bd, od, none⟩) nd cd, .pointer (some ⟨X, 0, none⟩), .pointer (some ⟨X + 1, 0, none⟩), .slice none 0 0, .pointer (some ⟨Y, 0, none⟩), .int .i64 (lz : Int), .pointer (some ⟨Y + 1, 0, none⟩), .pointer (some ⟨Y + 1 + 1 + 1, 0, none⟩), .int .i64 ((n : Int) - 1 - (k : Int)), undef, undef, (.agg #[.int .i64 g, .slice (some ⟨b, off, none⟩) n cap]), .slice (some ⟨L, 0, none⟩) (n + 1) cl, .slice (some ⟨L, 0, none⟩) (n + 1) cl, .pointer (some ⟨X, 1, none⟩), .slice (some ⟨b, off, none⟩) n cap, .int .i64 (n : Int), .pointer (some ⟨L, n, none⟩), .int .i64 (lz : Int), .slice (some ⟨bd, od, none⟩) nd cd, .int .i64 (lz : Int), .slice (some ⟨bd, od, none⟩) lz cd, .slice (some ⟨bd, od, none⟩) nd cd, .int .i64 (lz : Int), .slice (some ⟨bd, od + lz, none⟩) (nd - lz) (cd - lz), .pointer (some ⟨X, 1, none⟩), .slice (some ⟨b, off, none⟩) n cap, .int .i64 (n : Int), .slice (some ⟨Y + 1 + 1, 0, none⟩) 0 n, .pointer (some ⟨X, 1, none⟩), .slice (some ⟨b, off, none⟩) n cap, .func (.func 116) #[] #[.pointer (some ⟨Y + 1 + 1 + 1 + 1, 0, none⟩)], .int .i64 ((n : Int) - 1 - (k : Int)), (.agg #[.int .i64 (((c.layers[n - 1 - k]?).map LQ.log).getD 0), .slice (A (n - 1 - k)) (((c.layers[n - 1 - k]?).map fun l => l.gates.length).getD 0) (C (n - 1 - k))]), undef, undef, undef, undef, undef, undef, undef, undef, undef, undef, undef, undef, undef, undef, undef, undef, undef, undef, undef, undef, undef, undef, undef, undef, undef, undef], defers := [] }) ?assign ?body ?done
    case assign =>
      intro l k W K hK
      dsimp only [backV]
      gi_wp2
      exact hK
    case body =>
      intro l k W hk hI
      clear I0 a4 a3 b3 hbw hn hc hr
      obtain ⟨Z, CZ, a, h⟩ := hI
      obtain ⟨i, hi⟩ : ∃ i : Nat, i + k + 1 = n := ⟨n - 1 - k, by omega⟩
      have hx : (n : Int) - 1 - (k : Int) = (i : Int) := by omega
      obtain ⟨bk, hbk, bk4⟩ := belowQ_rng HN.out.2.2.1 i
      have hlk := lg_of HN.out.1 hi hbk
      have hfit := at_fits (c := c) (j := k) (by rw [HN.out.1]; exact hk)
      rw [hlk, ← HN.out.2.1] at hfit
      have hai := h.deq (by omega)
      subst hai
      obtain ⟨at', hat⟩ : ∃ x, (partsQ c).at k = x := ⟨_, rfl⟩
      rw [hat] at hfit
      have d0 := h.dbox.cell
      have d1 := h.dbox.frozen
      have l0 := h.lbox.cell
      have z0 := h.zbox.cell
      have z1 := h.zbox.frozen
      have v0 := h.abox.cell
      have v1 := h.abox.frozen
      have y0 := h.lrow i (by omega)
      rw [Nat.zero_add, hbk] at y0
      have hdr := HD.out.1.kept h.bel (HD.out.1.lt (by omega))
      have t0 := hdr (at' + 2 * bk) (by omega)
      obtain ⟨tau, htau⟩ : ∃ x, D (at' + 2 * bk) = x := ⟨_, rfl⟩
      rw [htau] at t0
      rw [hat] at d0
      obtain ⟨lk, hlk2⟩ : ∃ x, (partsQ c).lg k = x := ⟨_, rfl⟩
      rw [hlk2] at z0
      rw [hx]
      have i0 : (0 : Int) ≤ (i : Int) := by omega
      have i1 : (i : Int) < (n : Int) + 1 := by omega
      have HH := hid h
      have HT := hid (And.intro hat (And.intro htau (And.intro hlk2 (And.intro hlk (And.intro hi hx)))))
      clear h hdr hat htau hlk2 hlk hx hbk hi
      obtain ⟨k2, hk2⟩ : ∃ x, 2 * bk = x := ⟨_, rfl⟩
      rw [hk2] at t0 hfit
      have j1 : 2 * (bk : Int) = (k2 : Int) := by omega
      have j2 : (0 : Int) ≤ (k2 : Int) := by omega
      obtain ⟨rd, hrd⟩ : ∃ x, nd - at' = x := ⟨_, rfl⟩
      obtain ⟨rc, hrc⟩ : ∃ x, cd - at' = x := ⟨_, rfl⟩
      rw [hrd, hrc] at d0
      have j3 : (k2 : Int) ≤ (rc : Int) := by omega
      have j4 : (k2 : Int) < (rd : Int) := by omega
      have HK2 := hid (And.intro hk2 (And.intro hrd hrc))
      rw [← Nat.add_assoc] at t0
      have hmx : Tryz.prog.follows .mixedOrders = true := by kernel_rfl
      clear hk2 hrd hrc hfit
      have oldc : ∀ (o : Obj) (p : Addr) (v : Value), W.cell? p = some v → (W.alloc o).cell? p = some v := fun o p v hp => by rw [World.cell?_alloc_old _ _ _ (Nat.ne_of_lt (World.block_lt_of_cell? W _ hp))]; exact hp
      have t0' := fun o => oldc o _ _ t0
      have d0' := fun o => oldc o _ _ d0
      have z0' := fun o => oldc o _ _ z0
      clear oldc
      gi_wp2
      refine mid_round (A := ?A8) (W := ?W8) (fun W' => W'.cell? ⟨X + 1, 0, none⟩ = some (.slice (some ⟨bd, od + at', none⟩) rd rc) ∧ W'.cell? ⟨Y + 1, 0, none⟩ = some (.slice (Z k) lk (CZ k)) ∧ W'.cell? ⟨bd, od + at' + k2, none⟩ = some (.int .u64 tau)) hmx (by kernel_rfl) ⟨d0, z0, t0⟩ (fun hHeld => ?reg8) ?rest8
      case reg8 =>
        refine wpAnyH_take (i := 0) (v := ?v0) rfl (by kernel_rfl) (by kernel_rfl) (by kernel_rfl) (fun _ _ _ h => h) (Or.inl ⟨by rfl, ?y0⟩) hHeld ?r0
        case y0 => intro w hSw; (try dsimp only at hSw); go_simp; with_reducible rfl
        simp only [Act.put, List.setIfInBounds_toArray, List.set_cons_zero, List.set_cons_succ]
        refine wpAnyH_take (i := 1) (v := ?v1) rfl (by kernel_rfl) (by kernel_rfl) (by kernel_rfl) (fun _ _ _ h => h) (Or.inl ⟨by rfl, ?y1⟩) hHeld ?r1
        case y1 => intro w hSw; (try dsimp only at hSw); go_simp; with_reducible rfl
        simp only [Act.put, List.setIfInBounds_toArray, List.set_cons_zero, List.set_cons_succ]
        refine wpAnyH_take (i := 2) (v := ?v2) rfl (by kernel_rfl) (by kernel_rfl) (by kernel_rfl) (fun _ _ _ h => h) (Or.inl ⟨by rfl, ?y2⟩) hHeld ?r2
        case y2 => intro w hSw; (try dsimp only at hSw); go_simp; with_reducible rfl
        simp only [Act.put, List.setIfInBounds_toArray, List.set_cons_zero, List.set_cons_succ]
        refine wpAnyH_take (i := 3) (v := ?v3) rfl (by kernel_rfl) (by kernel_rfl) (by kernel_rfl) (fun _ _ _ h => h) (Or.inl ⟨by rfl, ?y3⟩) hHeld ?r3
        case y3 => intro w hSw; (try dsimp only at hSw); go_simp; with_reducible rfl
        simp only [Act.put, List.setIfInBounds_toArray, List.set_cons_zero, List.set_cons_succ]
        refine wpAnyH_take (i := 4) (v := ?v4) rfl (by kernel_rfl) (by kernel_rfl) (by kernel_rfl) (fun _ _ _ h => h) (Or.inl ⟨by rfl, ?y4⟩) hHeld ?r4
        case y4 => intro w hSw; (try dsimp only at hSw); go_simp; with_reducible rfl
        simp only [Act.put, List.setIfInBounds_toArray, List.set_cons_zero, List.set_cons_succ]
        refine wpAnyH_take (i := 5) (v := ?v5) rfl (by kernel_rfl) (by kernel_rfl) (by kernel_rfl) (fun _ _ _ h => h) (Or.inl ⟨by rfl, ?y5⟩) hHeld ?r5
        case y5 => intro w hSw; (try dsimp only at hSw); go_simp; with_reducible rfl
        simp only [Act.put, List.setIfInBounds_toArray, List.set_cons_zero, List.set_cons_succ]
        refine wpAnyH_take (i := 6) (v := ?v6) rfl (by kernel_rfl) (by kernel_rfl) (by kernel_rfl) (fun _ _ _ h => h) (Or.inl ⟨by rfl, ?y6⟩) hHeld ?r6
        case y6 => intro w hSw; (try dsimp only at hSw); go_simp; with_reducible rfl
        simp only [Act.put, List.setIfInBounds_toArray, List.set_cons_zero, List.set_cons_succ]
        refine wpAnyH_take (i := 7) (v := ?v7) rfl (by kernel_rfl) (by kernel_rfl) (by kernel_rfl) (fun _ _ _ h => h) (Or.inl ⟨by rfl, ?y7⟩) hHeld ?r7
        case y7 => intro w hSw; (try dsimp only at hSw); go_simp; with_reducible rfl
        simp only [Act.put, List.setIfInBounds_toArray, List.set_cons_zero, List.set_cons_succ]
        refine wpAnyH_take (i := 8) (v := ?v8) rfl (by kernel_rfl) (by kernel_rfl) (by kernel_rfl) (fun _ _ _ h => h) (Or.inl ⟨by rfl, ?y8⟩) hHeld ?r8
        case y8 => intro w hSw; (try dsimp only at hSw); go_simp; with_reducible rfl
        simp only [Act.put, List.setIfInBounds_toArray, List.set_cons_zero, List.set_cons_succ]
        refine wpAnyH_take (i := 9) (v := ?v9) rfl (by kernel_rfl) (by kernel_rfl) (by kernel_rfl) (fun _ _ _ h => h) (Or.inl ⟨by rfl, ?y9⟩) hHeld ?r9
        case y9 => intro w hSw; (try dsimp only at hSw); go_simp; with_reducible rfl
        simp only [Act.put, List.setIfInBounds_toArray, List.set_cons_zero, List.set_cons_succ]
        refine wpAnyH_ready (rs := [10]) (by kernel_rfl) (by simp) ?_
        refine AllReadyH.cons rfl (fun K hK => ?_) AllReadyH.nil
        go_simp
        refine hK.out _ _ ⟨d0' _, z0' _, t0' _⟩ (fun hHeld => ?_)
        clear hK K
        refine wpAnyH_ready (rs := [11]) (by kernel_rfl) (by simp) ?_
        refine AllReadyH.cons rfl (fun K hK => ?_) AllReadyH.nil
        go_simp
        refine hK.out _ _ ⟨d0' _, z0' _, t0' _⟩ (fun hHeld => ?_)
        clear hK K
        refine wpAnyH_done (by kernel_rfl) ?_ _
        refine ⟨?_, ?_⟩
        · with_reducible rfl
        · with_reducible rfl
      case rest8 =>
        obtain ⟨TB, hTB⟩ : ∃ x, W.heap.size = x := ⟨_, rfl⟩
        obtain ⟨hat, htau, hlk2, hlk, hi, hx⟩ := HT.out
        obtain ⟨hk2, hrd, hrc⟩ := HK2.out
        have hal := ((Below.refl W.heap.size W).alloc (Nat.le_refl _) (.cells #[.int .i64 (i : Int), .slice (Z k) lk (CZ k), .slice (some ⟨bd, od + at', none⟩) k2 rc, .int .u64 tau] 106)).drew
        have hbx : Box4 (W.alloc (.cells #[.int .i64 (i : Int), .slice (Z k) lk (CZ k), .slice (some ⟨bd, od + at', none⟩) k2 rc, .int .u64 tau] 106)).drew TB (.int .i64 (i : Int)) (.slice (Z k) lk (CZ k)) (.slice (some ⟨bd, od + at', none⟩) k2 rc) (.int .u64 tau) := by
          have h := Box4.new W (.int .i64 (i : Int)) (.slice (Z k) lk (CZ k)) (.slice (some ⟨bd, od + at', none⟩) k2 rc) (.int .u64 tau) 106
          rw [hTB] at h
          exact ⟨h.c0, h.c1, h.c2, h.c3, h.lt⟩
        have hkf : KeepsFrom W3.heap.size W (W.alloc (.cells #[.int .i64 (i : Int), .slice (Z k) lk (CZ k), .slice (some ⟨bd, od + at', none⟩) k2 rc, .int .u64 tau] 106)).drew := keepsFrom_below hal
        have h4 := HH.out.kept hal
        have hTBg : Y + 1 + 1 + 1 + 2 ≤ TB := by rw [← hTB]; exact HH.out.big
        rw [hTB]
        generalize (W.alloc (.cells #[.int .i64 (i : Int), .slice (Z k) lk (CZ k), .slice (some ⟨bd, od + at', none⟩) k2 rc, .int .u64 tau] 106)).drew = W4 at hal hbx hkf h4 ⊢
        have HH4 := hid h4
        have HAL := hid hal
        have HKF := hid hkf
        have HBX := hid hbx
        clear h4 hal hkf d0 d1 l0 z0 z1 v0 v1 y0 t0 t0' d0' z0' hat htau hlk2 hlk hi hx hk2 hrd hrc hTB
        obtain ⟨u0, u1, u2, u3, ul⟩ := hbx
        have v0 := HH4.out.abox.cell
        have v1 := HH4.out.abox.frozen
        have HTV : Hid (tvals c bd od cd D Z CZ k = [.int .i64 (i : Int), .slice (Z k) lk (CZ k), .slice (some ⟨bd, od + at', none⟩) k2 rc, .int .u64 tau]) := hid (by
          obtain ⟨hat, htau, hlk2, hlk, hi, hx⟩ := HT.out
          obtain ⟨hk2, hrd, hrc⟩ := HK2.out
          unfold tvals
          rw [HN.out.1, hx, hlk2, hlk, hat, hrc, hk2]
          have e : (partsQ c).tau D k = tau := by unfold Parts.tau; rw [hat, hlk]; exact htau
          rw [e])
        obtain ⟨ti, hti, htz⟩ := Option.map_eq_some_iff.1 Tryz.infoT
        simp only [Prod.mk.injEq] at htz
        have HTI := hid (And.intro hti htz.2.1)
        clear hti htz
        gi_wp2_with (gi_at_builtin; refine wpListIn_append_fits _ rfl _ _ 103 rfl w.heap.size 106 ti 4 Tryz.underlying103 HTI.out.1 HTI.out.2 (Y + 1 + 1) k n _ rfl (HH4.out.arow.alloc _) ⟨W4.heap.size, 0, none⟩ 1 1 [.int .i64 (i : Int), .slice (Z k) lk (CZ k), .slice (some ⟨bd, od + at', none⟩) k2 rc, .int .u64 tau] rfl rfl (news4 W4 _ _ _ _ _) (by intro u hu; simp at hu; rcases hu with rfl | rfl | rfl | rfl <;> rfl) (by omega) ?_; intro w6 hown hgrow; obtain ⟨⟨vc, vf⟩, hput⟩ := HH4.out.put (by omega) (by rw [HTV.out]; exact hown) hgrow)
        obtain ⟨w5, hw5⟩ : ∃ x, w6.setCell ⟨Y + 1 + 1 + 1, 0, none⟩ (.slice (some ⟨Y + 1 + 1, 0, none⟩) (k + 1) n) = x := ⟨_, rfl⟩
        have hk6 : KeepsFrom W3.heap.size W w5 := by
          rw [← hw5]
          exact (HKF.out.trans (keepsFrom_below ((Below.refl W4.heap.size W4).alloc (Nat.le_refl _) _))).trans ((KeepsFrom.of_grownBy hgrow (fun j e => by cases e; omega)).trans ((KeepsOthers.setCell _ _ _).from _))
        have hb6 : KeepB w.heap.size (Y + 1 + 1 + 1 + 1) W w5 := by
          rw [← hw5]
          have g1 := HH.out.big
          have g2 := HAL.out.size
          have s1 : KeepB w.heap.size (Y + 1 + 1 + 1 + 1) W W4 := KeepB.below HAL.out HH.out.bel.size (by omega)
          have s2 := s1.trans (KeepB.below ((Below.refl W4.heap.size W4).alloc (Nat.le_refl _) (.cells #[.int .i64 (i : Int), .slice (Z k) lk (CZ k), .slice (some ⟨bd, od + at', none⟩) k2 rc, .int .u64 tau] 106)) HH4.out.bel.size (by omega))
          exact (s2.trans (KeepB.grown hgrow (by omega) (by have := HH4.out.bel.size; simp; omega) (by simp; omega) (by omega))).trans (KeepB.set w6 _ _ (by omega) (by omega))
        have hbt : Box4 w5 TB (.int .i64 (i : Int)) (.slice (Z k) lk (CZ k)) (.slice (some ⟨bd, od + at', none⟩) k2 rc) (.int .u64 tau) := by
          have hblk : w5.heap[TB]? = W4.heap[TB]? := by
            rw [← hw5, Below.heap_setCell _ _ _ _ (show TB ≠ Y + 1 + 1 + 1 by omega), hgrow.block TB (by simp; omega) (fun e => by cases e; omega)]
            exact Below.heap_alloc W4 _ TB ul
          have hbig : TB < w5.heap.size := by
            rw [← hw5, World.size_setCell]
            exact Nat.lt_of_lt_of_le (by simp; omega) hgrow.size
          exact ⟨(World.cell?_of_block (w := W4) (a := ⟨TB, 0, none⟩) hblk).trans u0, (World.cell?_of_block (w := W4) (a := ⟨TB, 1, none⟩) hblk).trans u1, (World.cell?_of_block (w := W4) (a := ⟨TB, 2, none⟩) hblk).trans u2, (World.cell?_of_block (w := W4) (a := ⟨TB, 3, none⟩) hblk).trans u3, hbig⟩
        have hbg5 : Y + 1 + 1 + 1 + 2 ≤ w5.heap.size := by have := hbt.lt; omega
        rw [hw5] at hput ⊢
        clear hw5 hown hgrow vc vf u0 u1 u2 u3 ul v0 v1 HBX HKF HAL HTI
        have HPUT := hid hput
        have HK6 := hid (And.intro hk6 hb6)
        clear hput hk6 hb6
        obtain ⟨u0, u1, u2, u3, ul⟩ := hbt
        have dbx := HPUT.out.2.1
        rw [HT.out.1, HK2.out.2.1, HK2.out.2.2] at dbx
        have d0 := dbx.cell
        have d1 := dbx.frozen
        have z0 := HPUT.out.2.2.2.2.1.cell
        have z1 := HPUT.out.2.2.2.2.1.frozen
        have s0 : (0 : Int) ≤ (k2 : Int) + 1 := by omega
        have s1 : (k2 : Int) + 1 ≤ (rd : Int) := by omega
        have s2 : IntKind.i64.wrap ((k2 : Int) + 1) = (k2 : Int) + 1 := IntWalk.i64_in _ (by omega)
        have hdr5 : Row w5 bd (od + at') (2 * bk) (fun j => D (at' + j)) := fun j hj => by
          have h := (HD.out.1.kept HPUT.out.1 (HD.out.1.lt (by omega))) (at' + j) (by have := HK2.out.1; have := HK2.out.2.1; omega)
          rw [← Nat.add_assoc] at h
          exact h
        have HNX := hid (fun W' (hb : Below w5.heap.size w5 W') => next_any (i : Int) (Z k) lk (CZ k) bd (od + at') bk rc tau (fun j => D (at' + j)) W' (by omega) (by have := HK2.out.1; have := HK2.out.2.1; have := HK2.out.2.2; omega) (by have := HK2.out.2.2; omega) (hdr5.kept hb (Nat.lt_of_lt_of_le (HD.out.1.lt (by omega)) HPUT.out.1.size)) (fun j => HD.out.2 (at' + j)) (by have := HD.out.2 (at' + 2 * bk); rw [HT.out.2.1] at this; exact this.1) (by have := HD.out.2 (at' + 2 * bk); rw [HT.out.2.1] at this; exact this.2) (Nat.lt_of_lt_of_le (Nat.lt_of_lt_of_le (HD.out.1.lt (by omega)) HPUT.out.1.size) hb.size))
        rw [HK2.out.1] at HNX
        clear hdr5
        have HB7 : Hid (∀ w7, Below w5.heap.size w5 w7 → w7.cell? ⟨Y + 1, 0, none⟩ = some (.slice (Z k) ((partsQ c).lg k) (CZ k)) ∧ w7.frozen? ⟨Y + 1, 0, none⟩ = false ∧ w7.cell? ⟨X + 1, 0, none⟩ = some (.slice (some ⟨bd, od + at', none⟩) rd rc) ∧ w7.frozen? ⟨X + 1, 0, none⟩ = false) := hid (fun w7 hb7 => by
          have zb7 : Boxed w7 (Y + 1) 22 (.slice (Z k) ((partsQ c).lg k) (CZ k)) := (hb7.block _ HPUT.out.2.2.2.2.1.lt).trans HPUT.out.2.2.2.2.1
          have db7 : Boxed w7 (X + 1) 22 (.slice (some ⟨bd, od + at', none⟩) rd rc) := (hb7.block _ dbx.lt).trans dbx
          exact ⟨zb7.cell, zb7.frozen, db7.cell, db7.frozen⟩)
        have HK8 : Hid (∀ (W' : World) (q : Nat) (v : Value), TB ≠ q → (fun W' => W'.cell? ⟨TB, 0, none⟩ = some (.int .i64 (i : Int)) ∧ W'.cell? ⟨TB, 1, none⟩ = some (.slice (Z k) lk (CZ k)) ∧ W'.cell? ⟨TB, 2, none⟩ = some (.slice (some ⟨bd, od + at', none⟩) k2 rc) ∧ W'.cell? ⟨TB, 3, none⟩ = some (.int .u64 tau)) W' → (fun W' => W'.cell? ⟨TB, 0, none⟩ = some (.int .i64 (i : Int)) ∧ W'.cell? ⟨TB, 1, none⟩ = some (.slice (Z k) lk (CZ k)) ∧ W'.cell? ⟨TB, 2, none⟩ = some (.slice (some ⟨bd, od + at', none⟩) k2 rc) ∧ W'.cell? ⟨TB, 3, none⟩ = some (.int .u64 tau)) (W'.setCell ⟨q, 0, none⟩ v)) := hid (fun W' q v hq h => by
          have kz : ∀ (p : Addr) (u : Value), p.block ≠ q → W'.cell? p = some u → (W'.setCell ⟨q, 0, none⟩ v).cell? p = some u := fun p u hp hc => (World.cell?_of_block (w := W') (a := p) (Below.heap_setCell _ _ _ _ hp)).trans hc
          exact ⟨kz _ _ hq h.1, kz _ _ hq h.2.1, kz _ _ hq h.2.2.1, kz _ _ hq h.2.2.2⟩)
        have HFIN : Hid (∀ (w7 : World) (B : Nat) (a : Act), w5.heap.size ≤ B → Row w7 B 0 bk (linQ (fun j => D (at' + j)) (fun j => D (at' + (bk + j))) tau) → Below w5.heap.size w5 w7 → knownPost W3.heap.size w.heap.size (Y + 1 + 1 + 1 + 1) (TuIn c n bd od nd cd D w X L cl Y (Y + 1) (Y + 1 + 1 + 1) (Y + 1 + 1)) (k + 1) W .normal a ((w7.setCell ⟨Y + 1, 0, none⟩ (.slice (some ⟨B, 0, none⟩) bk bk)).setCell ⟨X + 1, 0, none⟩ (.slice (if rc = k2 + 1 then some ⟨bd, od + at', none⟩ else some ⟨bd, od + at' + (k2 + 1), none⟩) (rd - (k2 + 1)) (rc - (k2 + 1))))) := hid (fun w7 B a hB hrow hb7 => by
          obtain ⟨hat, htau, hlk2, hlk, hi, hx⟩ := HT.out
          obtain ⟨hk2, hrd, hrc⟩ := HK2.out
          have g1 := hb7.size
          refine ⟨(HK6.out.1.trans (keepsFrom_below hb7)).trans (((KeepsOthers.setCell _ _ _).from _).trans ((KeepsOthers.setCell _ _ _).from _)), (HK6.out.2.trans (KeepB.below hb7 HPUT.out.1.size (by omega))).trans ((KeepB.set w7 (Y + 1) _ (by omega) (by omega)).trans (KeepB.set _ (X + 1) _ (by have := HX.out; omega) (by omega))), ?_⟩
          exact TuI.next (dv := .slice (some ⟨bd, od + (partsQ c).at k, none⟩) (nd - (partsQ c).at k) (cd - (partsQ c).at k)) (lk := lk) HPUT.out hat hlk hk2 hrd hrc htau HX.out hXY ⟨_, _, _, rfl⟩ hbg5 HH4.out.lfar HH4.out.zfar hB hrow hb7)
        have hne : ¬ (X + 1 = Y + 1) := by omega
        refine held_round (fun W' => W'.cell? ⟨TB, 0, none⟩ = some (.int .i64 (i : Int)) ∧ W'.cell? ⟨TB, 1, none⟩ = some (.slice (Z k) lk (CZ k)) ∧ W'.cell? ⟨TB, 2, none⟩ = some (.slice (some ⟨bd, od + at', none⟩) k2 rc) ∧ W'.cell? ⟨TB, 3, none⟩ = some (.int .u64 tau)) hmx (by kernel_rfl) (fun ⟨_, _, h⟩ => h) ⟨u0, u1, u2, u3⟩ (fun hHeld => ?_)
        refine wpAnyH_take (i := 0) (v := ?va0) rfl (by kernel_rfl) (by kernel_rfl) (by kernel_rfl) (fun _ _ _ h => h) (Or.inl ⟨by rfl, ?ya0⟩) hHeld ?ra0
        case ya0 => intro w hSw; (try dsimp only at hSw); go_simp; with_reducible rfl
        simp only [Act.put, List.setIfInBounds_toArray, List.set_cons_zero, List.set_cons_succ]
        refine wpAnyH_take (i := 3) (v := ?va3) rfl (by kernel_rfl) (by kernel_rfl) (by kernel_rfl) (fun _ _ _ h => h) (Or.inl ⟨by rfl, ?ya3⟩) hHeld ?ra3
        case ya3 => intro w hSw; (try dsimp only at hSw); go_simp; with_reducible rfl
        simp only [Act.put, List.setIfInBounds_toArray, List.set_cons_zero, List.set_cons_succ]
        refine wpAnyH_take (i := 4) (v := ?va4) rfl (by kernel_rfl) (by kernel_rfl) (by kernel_rfl) (fun _ _ _ h => h) (Or.inl ⟨by rfl, ?ya4⟩) hHeld ?ra4
        case ya4 => intro w hSw; (try dsimp only at hSw); go_simp; with_reducible rfl
        simp only [Act.put, List.setIfInBounds_toArray, List.set_cons_zero, List.set_cons_succ]
        refine wpAnyH_ready (rs := [1, 2]) (by kernel_rfl) (by simp) ?_
        refine AllReadyH.cons rfl (fun K hK => ?_) (AllReadyH.cons rfl (fun K hK => ?_) AllReadyH.nil)
        · skip
          go_simp
          refine (HNX.out _ (Below.refl _ w5).drew).mono ?_
          rintro e w7 ⟨B, rfl, hB, hrow, hb⟩
          have hb7 : Below w5.heap.size w5 w7 := (Below.refl _ w5).drew.trans hb
          refine hK.out _ _ ⟨(hb7.cell ul).trans u0, (hb7.cell ul).trans u1, (hb7.cell ul).trans u2, (hb7.cell ul).trans u3⟩ (fun hH2 => ?_)
          clear hK K
          obtain ⟨z07, z17, d07, d17⟩ := HB7.out w7 hb7
          refine wpAnyH_ready (rs := [2, 6]) (by kernel_rfl) (by simp) ?_
          refine AllReadyH.cons rfl (fun K hK => ?_) (AllReadyH.cons rfl (fun K hK => ?_) AllReadyH.nil)
          · skip
            go_simp
            refine hK.out _ _ hH2 (fun hH3 => ?_)
            clear hK K
            refine wpAnyH_take (i := 5) (v := ?vb5) rfl (by kernel_rfl) (by kernel_rfl) (by kernel_rfl) (fun _ _ _ h => h) (Or.inl ⟨by rfl, ?yb5⟩) hH3 ?rb5
            case yb5 => intro w hSw; (try dsimp only at hSw); go_simp; with_reducible rfl
            simp only [Act.put, List.setIfInBounds_toArray, List.set_cons_zero, List.set_cons_succ]
            refine wpAnyH_ready (rs := [6]) (by kernel_rfl) (by simp) ?_
            refine AllReadyH.cons rfl (fun K hK => ?_) AllReadyH.nil
            go_simp
            refine hK.out _ _ (HK8.out _ _ _ (by omega) hH3) (fun hH4 => ?_)
            clear hK K
            refine wpAnyH_ready (rs := [7]) (by kernel_rfl) (by simp) ?_
            refine AllReadyH.cons rfl (fun K hK => ?_) AllReadyH.nil
            go_simp
            refine hK.out _ _ (HK8.out _ _ _ (by omega) hH4) (fun _ => ?_)
            clear hK K
            refine wpAnyH_done (by kernel_rfl) ?_ _
            exact HFIN.out w7 B ⟨#[], []⟩ hB hrow hb7
          · skip
            go_simp
            refine hK.out _ _ (HK8.out _ _ _ (by omega) hH2) (fun hH3 => ?_)
            clear hK K
            refine wpAnyH_ready (rs := [2]) (by kernel_rfl) (by simp) ?_
            refine AllReadyH.cons rfl (fun K hK => ?_) AllReadyH.nil
            go_simp
            refine hK.out _ _ hH3 (fun hH4 => ?_)
            clear hK K
            refine wpAnyH_take (i := 5) (v := ?vc5) rfl (by kernel_rfl) (by kernel_rfl) (by kernel_rfl) (fun _ _ _ h => h) (Or.inl ⟨by rfl, ?yc5⟩) hH4 ?rc5
            case yc5 => intro w hSw; (try dsimp only at hSw); go_simp; with_reducible rfl
            simp only [Act.put, List.setIfInBounds_toArray, List.set_cons_zero, List.set_cons_succ]
            refine wpAnyH_ready (rs := [7]) (by kernel_rfl) (by simp) ?_
            refine AllReadyH.cons rfl (fun K hK => ?_) AllReadyH.nil
            go_simp
            refine hK.out _ _ (HK8.out _ _ _ (by omega) hH4) (fun _ => ?_)
            clear hK K
            refine wpAnyH_done (by kernel_rfl) ?_ _
            exact HFIN.out w7 B ⟨#[], []⟩ hB hrow hb7
        · skip
          go_simp
          refine hK.out _ _ hHeld (fun hH2 => ?_)
          clear hK K
          refine wpAnyH_take (i := 5) (v := ?vd5) rfl (by kernel_rfl) (by kernel_rfl) (by kernel_rfl) (fun _ _ _ h => h) (Or.inl ⟨by rfl, ?yd5⟩) hH2 ?rd5
          case yd5 => intro w hSw; (try dsimp only at hSw); go_simp; with_reducible rfl
          simp only [Act.put, List.setIfInBounds_toArray, List.set_cons_zero, List.set_cons_succ]
          refine wpAnyH_ready (rs := [1]) (by kernel_rfl) (by simp) ?_
          refine AllReadyH.cons rfl (fun K hK => ?_) AllReadyH.nil
          go_simp
          refine (HNX.out _ (Below.refl _ w5).drew).mono ?_
          rintro e w7 ⟨B, rfl, hB, hrow, hb⟩
          have hb7 : Below w5.heap.size w5 w7 := (Below.refl _ w5).drew.trans hb
          refine hK.out _ _ ⟨(hb7.cell ul).trans u0, (hb7.cell ul).trans u1, (hb7.cell ul).trans u2, (hb7.cell ul).trans u3⟩ (fun hH3 => ?_)
          clear hK K
          obtain ⟨z07, z17, d07, d17⟩ := HB7.out w7 hb7
          refine wpAnyH_ready (rs := [6]) (by kernel_rfl) (by simp) ?_
          refine AllReadyH.cons rfl (fun K hK => ?_) AllReadyH.nil
          go_simp
          refine hK.out _ _ (HK8.out _ _ _ (by omega) hH3) (fun hH4 => ?_)
          clear hK K
          refine wpAnyH_ready (rs := [7]) (by kernel_rfl) (by simp) ?_
          refine AllReadyH.cons rfl (fun K hK => ?_) AllReadyH.nil
          go_simp
          refine hK.out _ _ (HK8.out _ _ _ (by omega) hH4) (fun _ => ?_)
          clear hK K
          refine wpAnyH_done (by kernel_rfl) ?_ _
          exact HFIN.out w7 B ⟨#[], []⟩ hB hrow hb7
    case done =>
      intro Dq W hDq hI hK
      have hI2 := OwnFrom.putObj (TuIn.own (c := c) (n := n) (bd := bd) (od := od) (nd := nd) (cd := cd) (D := D) (w := w) (X := X) (L := L) (cl := cl) (Lb := Y) (Zb := Y + 1) (Ab := Y + 1 + 1 + 1) (R0 := Y + 1 + 1) a4.size) (.deferred none) hI hDq hK rfl
      obtain ⟨Z, CZ, a, h⟩ := hI
      have v0 := h.abox.cell
      have HI2 := hid hI2
      clear hI2 h
      gi_wp2
      refine ⟨by simp, .inl ⟨_, _, rfl, run_takeDeferred hK, ?_⟩⟩
      refine ⟨_, results_tmp rfl _ _ _, ?_⟩
      obtain ⟨Z, CZ, a, h⟩ := HI2.out
      exact ⟨_, _, Z, CZ, rfl, TuRow.of h.arow (fun j hj => h.zrow j (by omega)), h.bel⟩

end Go.Proofs.YtbchbmelofojkaaGreatDoor

/-
  Contracts of package gkr's Verify, of every circuit, every proof and every draws; it makes new rows and writes nothing that was there.
-/
namespace Go.Proofs.YtbchbmelofojkaaGreatDoor
open Go.RowKit
set_option linter.unusedVariables false
attribute [local go_sem ↓] Go.wp_at_zero Go.wp_at_succ

set_option maxHeartbeats 2000000 in
set_option maxRecDepth 100000 in
theorem vf_form (c : CQ) (g : Int) (ao : Option Addr) (n cap : Nat) (ap : Option Addr) (np cp : Nat) (ai ao2 ad : Option Addr) (ni ci no co nd cd : Nat) (x : Int) (w : World) (hx0 : x ≠ 0)
    (hf : ∀ W, Below w.heap.size w W → Calls Tryz.prog 70 #[.agg #[.int .i64 g, .slice ao n cap], .agg #[.slice ap np cp]] W fun e w' => e = .returned (.int .i64 x) ∧ Below W.heap.size W w') :
    Calls Tryz.prog 38 #[.agg #[.int .i64 g, .slice ao n cap], .slice ai ni ci, .slice ao2 no co, .agg #[.slice ap np cp], .slice ad nd cd] w fun e w' => e = .returned (.tuple #[.bool false, .int .i64 x]) ∧ Below w.heap.size w w' := by
  have HS0 := hid (StQ.start w g (.slice ao n cap) (.slice ap np cp) 25 63)
  have HF := hid hf
  have e1 : (x != 0) = true := by simp [hx0]
  clear hf hx0
  go_enter Tryz.func38, Tryz.ntmps38
  go_wp2_with fail
  refine (HF.out _ HS0.out.bel).mono ?_
  rintro e w1 ⟨rfl, hb⟩
  have HB := hid (HS0.out.bel.trans (hb.mono HS0.out.bel.size))
  clear hb
  go_wp2_with fail
  go_ret2
  exact ⟨rfl, HB.out⟩
theorem form_is {c : CQ} {g : Int} {b off n cap : Nat} {A : Nat → Option Addr} {C : Nat → Nat} {ap : Option Addr} {np cp : Nat} {p : PQ} {m : PM} {w : World} {x : Int} (hg : c.log = g) (hn : c.layers.length = n) (hr : CRow w (some ⟨b, off, none⟩) c.layers A C) (hc : c.right) (hp : p.n = np) (hpr : PfRow w ap p m) (hx : formE c p x) :
    ∀ W, Below w.heap.size w W → Calls Tryz.prog 70 #[.agg #[.int .i64 g, .slice (some ⟨b, off, none⟩) n cap], .agg #[.slice ap np cp]] W fun e w' => e = .returned (.int .i64 x) ∧ Below W.heap.size W w' := fun W h =>
  (form_right c g b off n cap A C ap np cp p m W hg hn (hr.kept h) hc hp (hpr.kept h)).mono fun e w' ⟨y, he, hy, hb⟩ => by
    refine ⟨?_, hb⟩
    have : y = x := by
      rcases hy with ⟨h1, h2⟩ | ⟨_, h1, h2⟩ | ⟨_, h1, h2⟩
      · exact absurd (checkE_one h1 (checkE_zero.2 hc)) h2
      · rcases hx with ⟨g1, g2⟩ | ⟨_, g1, g2⟩ | ⟨_, g1, g2⟩
        · exact absurd (checkE_one g1 (checkE_zero.2 hc)) g2
        · omega
        · exact absurd h1 g1
      · rcases hx with ⟨g1, g2⟩ | ⟨_, g1, g2⟩ | ⟨_, g1, g2⟩
        · exact absurd (checkE_one g1 (checkE_zero.2 hc)) g2
        · exact absurd g1 h1
        · omega
    rw [he, this]

set_option maxHeartbeats 2000000 in
set_option maxRecDepth 100000 in
theorem vf_ends (c : CQ) (g : Int) (b off n cap : Nat) (A : Nat → Option Addr) (C : Nat → Nat) (ap : Option Addr) (np cp : Nat) (p : PQ) (m : PM) (ai ao2 ad : Option Addr) (ni ci no co nd cd : Nat) (w : World) (hg : c.log = g) (hn : c.layers.length = n) (hr : CRow w (some ⟨b, off, none⟩) c.layers A C) (hc : c.right) (hp : p.n = np) (hpr : PfRow w ap p m) (hs : shapedQ c p) (hno : ¬ endsQ c ni no) :
    Calls Tryz.prog 38 #[.agg #[.int .i64 g, .slice (some ⟨b, off, none⟩) n cap], .slice ai ni ci, .slice ao2 no co, .agg #[.slice ap np cp], .slice ad nd cd] w fun e w' => e = .returned (.tuple #[.bool false, .int .i64 4]) ∧ Below w.heap.size w w' := by
  have HS0 := hid (StQ.start w g (.slice (some ⟨b, off, none⟩) n cap) (.slice ap np cp) 25 63)
  have HF := hid (form_is (cap := cap) (cp := cp) (x := 0) hg hn hr hc hp hpr (.inr (.inl ⟨hc, hs, rfl⟩)))
  have HE : Hid (∀ W, Below w.heap.size w W → Calls Tryz.prog 71 #[.agg #[.int .i64 g, .slice (some ⟨b, off, none⟩) n cap], .slice ai ni ci, .slice ao2 no co] W fun e w' => e = .returned (.bool false) ∧ Below W.heap.size W w') := hid (fun W h => (hasEnds_any c g b off n cap A C ai ao2 ni ci no co W hg hn (hr.kept h) hc).mono fun e w' ⟨r, he, hrr, hb⟩ => ⟨by rw [he]; cases r with | false => rfl | true => exact absurd (hrr.1 rfl) hno, hb⟩)
  clear hg hn hr hc hp hpr hs hno
  go_enter Tryz.func38, Tryz.ntmps38
  go_wp2_with fail
  obtain ⟨X, hX⟩ : ∃ X, w.heap.size = X := ⟨_, rfl⟩
  rw [hX] at HS0
  rw [hX]
  clear hX
  generalize (w.alloc (.cells #[.int .i64 g, .slice (some ⟨b, off, none⟩) n cap] 25)).alloc (.cells #[.slice ap np cp] 63) = W0 at HS0 ⊢
  refine (HF.out _ HS0.out.bel).mono ?_
  rintro e w1 ⟨rfl, hb⟩
  have HS1 := hid (HS0.out.next hb)
  clear hb HS0
  obtain ⟨z0, z1, zl⟩ := HS1.out.box
  go_wp2_with fail
  refine (HE.out _ HS1.out.bel).mono ?_
  rintro e w2 ⟨rfl, hb⟩
  have HS2 := hid (HS1.out.next hb)
  clear hb HS1 z0 z1 zl
  go_wp2_with fail
  go_ret2
  exact ⟨rfl, HS2.out.bel⟩

set_option maxHeartbeats 2000000 in
set_option maxRecDepth 100000 in
theorem vf_draws (c : CQ) (g : Int) (b off n cap : Nat) (A : Nat → Option Addr) (C : Nat → Nat) (ap : Option Addr) (np cp : Nat) (p : PQ) (m : PM) (ai ao2 ad : Option Addr) (ni ci no co nd cd : Nat) (w : World) (hg : c.log = g) (hn : c.layers.length = n) (hr : CRow w (some ⟨b, off, none⟩) c.layers A C) (hc : c.right) (hp : p.n = np) (hpr : PfRow w ap p m) (hs : shapedQ c p) (hen : endsQ c ni no) (hnd : nd ≠ needQ c) :
    Calls Tryz.prog 38 #[.agg #[.int .i64 g, .slice (some ⟨b, off, none⟩) n cap], .slice ai ni ci, .slice ao2 no co, .agg #[.slice ap np cp], .slice ad nd cd] w fun e w' => e = .returned (.tuple #[.bool false, .int .i64 1]) ∧ Below w.heap.size w w' := by
  have HS0 := hid (StQ.start w g (.slice (some ⟨b, off, none⟩) n cap) (.slice ap np cp) 25 63)
  have HF := hid (form_is (cap := cap) (cp := cp) (x := 0) hg hn hr hc hp hpr (.inr (.inl ⟨hc, hs, rfl⟩)))
  have HE : Hid (∀ W, Below w.heap.size w W → Calls Tryz.prog 71 #[.agg #[.int .i64 g, .slice (some ⟨b, off, none⟩) n cap], .slice ai ni ci, .slice ao2 no co] W fun e w' => e = .returned (.bool true) ∧ Below W.heap.size W w') := hid (fun W h => (hasEnds_any c g b off n cap A C ai ao2 ni ci no co W hg hn (hr.kept h) hc).mono fun e w' ⟨r, he, hrr, hb⟩ => ⟨by rw [he, hrr.2 hen], hb⟩)
  have HD := hid (fun W (h : Below w.heap.size w W) => cdraws_any c g b off n cap A C W hg hn (hr.kept h) hc)
  generalize needQ c = q at HD hnd
  have e1 : ((nd : Int) != (q : Int)) = true := by simp; omega
  clear hg hn hr hc hp hpr hs hen hnd
  go_enter Tryz.func38, Tryz.ntmps38
  go_wp2_with fail
  obtain ⟨X, hX⟩ : ∃ X, w.heap.size = X := ⟨_, rfl⟩
  rw [hX] at HS0
  rw [hX]
  clear hX
  generalize (w.alloc (.cells #[.int .i64 g, .slice (some ⟨b, off, none⟩) n cap] 25)).alloc (.cells #[.slice ap np cp] 63) = W0 at HS0 ⊢
  refine (HF.out _ HS0.out.bel).mono ?_
  rintro e w1 ⟨rfl, hb⟩
  have HS1 := hid (HS0.out.next hb)
  clear hb HS0
  obtain ⟨z0, z1, zl⟩ := HS1.out.box
  go_wp2_with fail
  refine (HE.out _ HS1.out.bel).mono ?_
  rintro e w2 ⟨rfl, hb⟩
  have HS2 := hid (HS1.out.next hb)
  clear hb HS1 z0 z1 zl
  obtain ⟨z0, z1, zl⟩ := HS2.out.box
  go_wp2_with fail
  refine (HD.out _ HS2.out.bel).mono ?_
  rintro e w3 ⟨rfl, hb⟩
  have HS3 := hid (HS2.out.next hb)
  clear hb HS2 z0 z1 zl
  go_wp2_with fail
  go_ret2
  exact ⟨rfl, HS3.out.bel⟩

end Go.Proofs.YtbchbmelofojkaaGreatDoor

/-
  A contract of package gkr's Verify, of right circuits and proofs of a right form: whether the proof holds; it makes new rows and writes nothing that was there.
-/
namespace Go.Proofs.YtbchbmelofojkaaGreatDoor
open Go.RowKit
set_option linter.unusedVariables false
attribute [local go_sem ↓] Go.wp_at_zero Go.wp_at_succ

/-- What Verify tells of right things. -/
def verOut (H : Prop) (w : World) (e : Ending) (w' : World) : Prop := ∃ r : Bool, e = .returned (.tuple #[.bool r, .int .i64 0]) ∧ (r = true ↔ H) ∧ Below w.heap.size w w'
/-- The nine cells that a turn's call reads. -/
abbrev NineC (TB X pb po : Nat) (p q r s u v vp x y : Value) (W : World) : Prop := (W.cell? ⟨TB, 0, none⟩ = some p ∧ W.cell? ⟨TB, 1, none⟩ = some q ∧ W.cell? ⟨TB, 2, none⟩ = some r ∧ W.cell? ⟨TB, 3, none⟩ = some s) ∧ (W.cell? ⟨X, 0, none⟩ = some u ∧ W.cell? ⟨X, 1, none⟩ = some v) ∧ W.cell? ⟨X + 1, 0, none⟩ = some vp ∧ W.cell? ⟨pb, po, none⟩ = some x ∧ W.cell? ⟨pb, po + 1, none⟩ = some y
theorem NineC.kept {TB X pb po : Nat} {p q r s u v vp x y : Value} {W W' : World} (h : NineC TB X pb po p q r s u v vp x y W) (hb : Below W.heap.size W W') : NineC TB X pb po p q r s u v vp x y W' := by
  have k : ∀ (a : Addr) (z : Value), W.cell? a = some z → W'.cell? a = some z := fun a z hz => (hb.cell (World.block_lt_of_cell? W _ hz)).trans hz
  exact ⟨⟨k _ _ h.1.1, k _ _ h.1.2.1, k _ _ h.1.2.2.1, k _ _ h.1.2.2.2⟩, ⟨k _ _ h.2.1.1, k _ _ h.2.1.2⟩, k _ _ h.2.2.1, k _ _ h.2.2.2.1, k _ _ h.2.2.2.2⟩

set_option maxHeartbeats 8000000 in
set_option maxRecDepth 100000 in
theorem vf_ok (c : CQ) (g : Int) (b off n cap : Nat) (A : Nat → Option Addr) (C : Nat → Nat) (bi oi ni ci bo oo no co : Nat) (fi fo : Nat → Int) (ap : Option Addr) (np cp : Nat) (p : PQ) (m : PM) (bd od nd cd : Nat) (D : Nat → Int) (w : World)
    (hg : c.log = g) (hn : c.layers.length = n) (hr : CRow w (some ⟨b, off, none⟩) c.layers A C) (hc : c.right) (hp : p.n = np) (hpr : PfRow w ap p m) (hpn : p.nums) (hs : shapedQ c p) (hen : endsQ c ni no)
    (hi : Row w bi oi ni fi) (vi : Nums fi) (ho : Row w bo oo no fo) (vo : Nums fo) (hd : Row w bd od nd D) (vd : Nums D) (hnd : nd = needQ c) (hcd : nd ≤ cd) (hcm : cd ≤ maxLen) (ht : Tab w) :
    Calls Tryz.prog 38 #[.agg #[.int .i64 g, .slice (some ⟨b, off, none⟩) n cap], .slice (some ⟨bi, oi, none⟩) ni ci, .slice (some ⟨bo, oo, none⟩) no co, .agg #[.slice ap np cp], .slice (some ⟨bd, od, none⟩) nd cd] w fun e w' => verOut ((partsQ c).holds D p.told (ofK (evS (fun j => kk (fo j)) (fun j => kk (D j)) ((partsQ c).lg 0))) (fun j => kk (fi j))) w e w' := by
  have n4 : n ≤ 4 := by have := hc.few; omega
  have n1 : 1 ≤ n := by have := List.length_pos_iff.2 hc.some; omega
  have nd40 : nd ≤ 40 := by rw [hnd]; exact needQ_le hc
  have hbd : bd < w.heap.size := hd.lt (by
    have h := at_fits (c := c) (j := 0) (by omega)
    rw [← hnd] at h
    omega)
  have hni : ni = 2 ^ (partsQ c).lg n := by rw [← hn]; exact hen.1
  have hno : no = 2 ^ (partsQ c).lg 0 := hen.2
  have hbi := hi.lt (by rw [hni]; exact Nat.two_pow_pos _)
  have hbo := ho.lt (by rw [hno]; exact Nat.two_pow_pos _)
  have HS0 := hid (StQ.start w g (.slice (some ⟨b, off, none⟩) n cap) (.slice ap np cp) 25 63)
  have HF := hid (form_is (cap := cap) (cp := cp) (x := 0) hg hn hr hc hp hpr (.inr (.inl ⟨hc, hs, rfl⟩)))
  have HE : Hid (∀ W, Below w.heap.size w W → Calls Tryz.prog 71 #[.agg #[.int .i64 g, .slice (some ⟨b, off, none⟩) n cap], .slice (some ⟨bi, oi, none⟩) ni ci, .slice (some ⟨bo, oo, none⟩) no co] W fun e w' => e = .returned (.bool true) ∧ Below W.heap.size W w') := hid (fun W h => (hasEnds_any c g b off n cap A C _ _ ni ci no co W hg hn (hr.kept h) hc).mono fun e w' ⟨r, he, hrr, hb⟩ => ⟨by rw [he, hrr.2 hen], hb⟩)
  have HD : Hid (∀ W, Below w.heap.size w W → Calls Tryz.prog 58 #[.agg #[.int .i64 g, .slice (some ⟨b, off, none⟩) n cap]] W fun e w' => e = .returned (.int .i64 (nd : Int)) ∧ Below W.heap.size W w') := hid (fun W h => by rw [hnd]; exact cdraws_any c g b off n cap A C W hg hn (hr.kept h) hc)
  have HTU := hid (fun W (h : Below w.heap.size w W) => turns_any c g b off n cap A C bd od nd cd D W hg hn (hr.kept h) hc (hd.kept h hbd) vd hnd hcd hcm)
  obtain ⟨c0, hc0⟩ : ∃ x, ofK (evS (fun j => kk (fo j)) (fun j => kk (D j)) ((partsQ c).lg 0)) = x := ⟨_, rfl⟩
  have rc0 : 0 ≤ c0 ∧ c0 ≤ 2305843009213693950 := by rw [← hc0]; exact ofK_rng _
  have HE0 : Hid (∀ W (z : Option Addr) (cz : Nat), Below w.heap.size w W → PRow W z ((partsQ c).lg 0) D → Calls Tryz.prog 36 #[.slice (some ⟨bo, oo, none⟩) no co, .slice z ((partsQ c).lg 0) cz] W fun e w' => e = .returned (.tuple #[.int .u64 c0, .int .i64 0]) ∧ Below W.heap.size W w') := hid (fun W z cz h hz => by
    rw [← hc0]
    exact eval_ok bo oo ((partsQ c).lg 0) no co cz z fo D W (by have := parts_lg hc 0; omega) hno (ht.kept h ht.1) (ho.kept h hbo) vo hz vd)
  have HEN : Hid (∀ W (z : Nat) (cz : Nat) (f : Nat → Int), Below w.heap.size w W → Row W z 0 ((partsQ c).lg n) f → Nums f → Calls Tryz.prog 36 #[.slice (some ⟨bi, oi, none⟩) ni ci, .slice (some ⟨z, 0, none⟩) ((partsQ c).lg n) cz] W fun e w' => e = .returned (.tuple #[.int .u64 (ofK (evS (fun j => kk (fi j)) (fun j => kk (f j)) ((partsQ c).lg n))), .int .i64 0]) ∧ Below W.heap.size W w') := hid (fun W z cz f h hz vf => eval_ok bi oi ((partsQ c).lg n) ni ci cz _ fi f W (by have := parts_lg hc n; omega) hni (ht.kept h ht.1) (hi.kept h hbi) vi (PRow.of hz) vf)
  rw [hc0]
  have HG := hid hg
  have HN := hid hn
  have HR := hid hr
  have HC := hid hc
  have HP := hid hp
  have HPR := hid hpr
  have HPN := hid hpn
  have HSH := hid hs
  have HDD := hid (And.intro hd (And.intro vd hbd))
  have HND := hid hnd
  have e1 : ((nd : Int) != (nd : Int)) = false := by simp
  clear hg hn hr hc hp hpr hpn hs hen hi vi ho vo hd vd hnd ht hni hno hbi hbo hbd hc0
  go_enter Tryz.func38, Tryz.ntmps38
  go_wp2_with fail
  obtain ⟨X, hX⟩ : ∃ X, w.heap.size = X := ⟨_, rfl⟩
  rw [hX] at HS0
  rw [hX]
  clear hX
  generalize (w.alloc (.cells #[.int .i64 g, .slice (some ⟨b, off, none⟩) n cap] 25)).alloc (.cells #[.slice ap np cp] 63) = W0 at HS0 ⊢
  refine (HF.out _ HS0.out.bel).mono ?_
  rintro e w1 ⟨rfl, hb⟩
  have HS1 := hid (HS0.out.next hb)
  clear hb HS0 HF
  obtain ⟨z0, z1, zl⟩ := HS1.out.box
  go_wp2_with fail
  refine (HE.out _ HS1.out.bel).mono ?_
  rintro e w2 ⟨rfl, hb⟩
  have HS2 := hid (HS1.out.next hb)
  clear hb HS1 z0 z1 zl HE
  obtain ⟨z0, z1, zl⟩ := HS2.out.box
  go_wp2_with fail
  refine (HD.out _ HS2.out.bel).mono ?_
  rintro e w3 ⟨rfl, hb⟩
  have HS3 := hid (HS2.out.next hb)
  clear hb HS2 z0 z1 zl HD
  obtain ⟨z0, z1, zl⟩ := HS3.out.box
  go_wp2_with fail
  clear e1
  refine (HTU.out _ HS3.out.bel).mono ?_
  rintro e w4 ⟨T, ct, Z, CZ, rfl, htr, hb⟩
  have HS4 := hid (HS3.out.next hb)
  have HTR := hid htr
  clear hb HS3 z0 z1 zl HTU htr
  have y1 := HTR.out.c1 0 (by omega)
  rw [Nat.zero_mul, Nat.zero_add] at y1
  have n0 : (0 : Int) < (n : Int) := by omega
  go_wp2_with fail
  refine (HE0.out _ _ _ HS4.out.bel (HTR.out.zrow 0 (by omega))).mono ?_
  rintro e w5 ⟨rfl, hb⟩
  have HS5 := hid (HS4.out.next hb)
  have HTR5 := hid (HTR.out.kept hb)
  clear hb HS4 HTR HE0 y1
  go_wp2_with fail
  go_loopg [14, 52] n (fun q a i wr => ∃ (t : Nat) (cl : Int), t ≤ n ∧ q = n - t ∧ a = .int .u64 cl ∧ i = .int .i64 (t : Int) ∧ 0 ≤ cl ∧ cl ≤ 2305843009213693950 ∧ Hid (cl = (partsQ c).claim D p.told c0 t) ∧ Hid (∀ j, j < t → (partsQ c).part D p.told c0 j) ∧ Hid (StQ w wr X g (.slice (some ⟨b, off, none⟩) n cap) (.slice ap np cp)) ∧ Hid (TuRow wr T c bd od cd D Z CZ n))
  case atStart => exact ⟨0, c0, by omega, rfl, rfl, rfl, rc0.1, rc0.2, hid rfl, hid (fun j hj => absurd hj (by omega)), HS5, HTR5⟩
  case round =>
    clear HS5 HTR5
    obtain ⟨t, cl, htn, rfl, rfl, rfl, cl0, cl1, HCL, HOK, HS, HTR⟩ := hrel
    by_cases htl : t < n
    · obtain ⟨i, hi⟩ : ∃ i : Nat, i + t + 1 = n := ⟨n - 1 - t, by omega⟩
      have y0 := HTR.out.c0 t htl
      have y1 := HTR.out.c1 t htl
      have y2 := HTR.out.c2 t htl
      have y3 := HTR.out.c3 t htl
      obtain ⟨bk, hbk⟩ : ∃ x, (partsQ c).lg (t + 1) = x := ⟨_, rfl⟩
      obtain ⟨lk, hlk⟩ : ∃ x, (partsQ c).lg t = x := ⟨_, rfl⟩
      obtain ⟨at', hat⟩ : ∃ x, (partsQ c).at t = x := ⟨_, rfl⟩
      obtain ⟨tau, htau⟩ : ∃ x, (partsQ c).tau D t = x := ⟨_, rfl⟩
      rw [HN.out, show (n : Int) - 1 - (t : Int) = (i : Int) from by omega] at y0
      rw [hlk] at y1
      rw [hat, hbk] at y2
      rw [htau] at y3
      have hfit := at_fits (c := c) (j := t) (by rw [HN.out]; exact htl)
      rw [hat, hbk, ← HND.out] at hfit
      have hpt : t < p.n := by rw [HSH.out.1, HN.out]; exact htl
      obtain ⟨pb, po, rfl, hcl2⟩ := HPR.out.kept HS.out.bel (by omega)
      obtain ⟨x0, x1, x2, x3⟩ := hcl2 t hpt
      obtain ⟨sh1, sh2, sh3⟩ := HSH.out.2 t hpt
      rw [hbk] at sh1 sh2
      rw [sh1] at x0 x2 sh3
      rw [sh2] at x1 x3
      rw [Nat.mul_comm 2 t] at x0 x1
      obtain ⟨vR, vL⟩ := HPN.out t hpt
      rw [sh1] at vR
      obtain ⟨lb, lo, hla, x4⟩ := x3 (by omega)
      rw [hla] at x1
      obtain ⟨ra, hra⟩ : ∃ x, m.ra t = x := ⟨_, rfl⟩
      obtain ⟨rc, hrc⟩ : ∃ x, m.rc t = x := ⟨_, rfl⟩
      obtain ⟨lc, hlc⟩ : ∃ x, m.lc t = x := ⟨_, rfl⟩
      rw [hra, hrc] at x0
      rw [hlc] at x1
      rw [hra] at x2
      have HFO : Hid (∀ W, Below wr.heap.size wr W → Calls Tryz.prog 72 #[turnV (i : Int) (Z t) lk (CZ t) (some ⟨bd, od + at', none⟩) (2 * bk) (cd - at') tau, .agg #[.int .i64 g, .slice (some ⟨b, off, none⟩) n cap], .agg #[.slice ra (2 * bk) rc, .slice (some ⟨lb, lo, none⟩) (bk + 1) lc], .int .u64 cl] W fun e w' => folOut (partsQ c) D p.told c0 t W e w') := hid (fun W h => by
        have hbw := HS.out.bel.trans (h.mono HS.out.bel.size)
        have hz := (HTR.out.zrow t htl).kept h
        rw [hlk] at hz
        have hdd := HDD.out.1.kept hbw HDD.out.2.2
        rw [← htau]
        refine follow_any c g b off n cap A C i t lk bk (Z t) (CZ t) bd (od + at') (cd - at') D ra lb lo rc lc (m.A t) (p.rl t) (m.C t) p.told c0 cl W HG.out HN.out (HR.out.kept hbw) HC.out hi hlk hbk hz HDD.out.2.1 (fun j hj => ?_) (by omega) (by omega) (x2.kept h) sh3 vR (x4.kept h (x4.lt (by omega))) vL HCL.out cl0 cl1
        have := hdd (at' + j) (by omega)
        rw [← Nat.add_assoc] at this
        rw [hat]
        exact this)
      clear hcl2 x2 x3 x4 vR vL sh1 sh2 sh3 hra hrc hlc hla hbk hlk hat htau hfit hpt hi
      obtain ⟨k2, hk2⟩ : ∃ x, 2 * bk = x := ⟨_, rfl⟩
      rw [hk2] at HFO y2 x0
      clear hk2
      obtain ⟨rcd, hrcd⟩ : ∃ x, cd - at' = x := ⟨_, rfl⟩
      rw [hrcd] at HFO y2
      clear hrcd
      have t0 : (0 : Int) ≤ (t : Int) := by omega
      have t1 : (t : Int) < (n : Int) := by omega
      have t2 : (t : Int) < (np : Int) := by have := HP.out; have := HSH.out.1; have := HN.out; omega
      have hal := (Below.refl wr.heap.size wr).alloc (Nat.le_refl _) (.cells #[.int .i64 (i : Int), .slice (Z t) lk (CZ t), .slice (some ⟨bd, od + at', none⟩) k2 rcd, .int .u64 tau] 106)
      have HAL := hid hal
      have HBT := hid (Box4.new wr (.int .i64 (i : Int)) (.slice (Z t) lk (CZ t)) (.slice (some ⟨bd, od + at', none⟩) k2 rcd) (.int .u64 tau) 106)
      have HX := hid (And.intro x0 x1)
      clear hal x0 x1
      go_wp2_with fail
      clear y0 y1 y2 y3
      obtain ⟨TB, hTB⟩ : ∃ x, wr.heap.size = x := ⟨_, rfl⟩
      rw [hTB] at HBT
      have HTB := hid hTB
      rw [hTB]
      clear hTB
      have HNC : Hid (NineC TB X pb (po + t * 2) (.int .i64 (i : Int)) (.slice (Z t) lk (CZ t)) (.slice (some ⟨bd, od + at', none⟩) k2 rcd) (.int .u64 tau) (.int .i64 g) (.slice (some ⟨b, off, none⟩) n cap) (.slice (some ⟨pb, po, none⟩) np cp) (.slice ra k2 rc) (.slice (some ⟨lb, lo, none⟩) (bk + 1) lc) (wr.alloc (.cells #[.int .i64 (i : Int), .slice (Z t) lk (CZ t), .slice (some ⟨bd, od + at', none⟩) k2 rcd, .int .u64 tau] 106))) := hid (by
        have hs := HS.out.next HAL.out
        have k : ∀ (a : Addr) (z : Value), wr.cell? a = some z → (wr.alloc (.cells #[.int .i64 (i : Int), .slice (Z t) lk (CZ t), .slice (some ⟨bd, od + at', none⟩) k2 rcd, .int .u64 tau] 106)).cell? a = some z := fun a z hz => (HAL.out.cell (World.block_lt_of_cell? wr _ hz)).trans hz
        exact ⟨⟨HBT.out.c0, HBT.out.c1, HBT.out.c2, HBT.out.c3⟩, ⟨hs.box.c0, hs.box.c1⟩, hs.pc, k _ _ HX.out.1, k _ _ HX.out.2⟩)
      have HS6 := hid (HS.out.next HAL.out)
      have HTR6 := hid (HTR.out.kept HAL.out)
      have HFO6 : Hid (∀ W, Below (wr.alloc (.cells #[.int .i64 (i : Int), .slice (Z t) lk (CZ t), .slice (some ⟨bd, od + at', none⟩) k2 rcd, .int .u64 tau] 106)).heap.size (wr.alloc (.cells #[.int .i64 (i : Int), .slice (Z t) lk (CZ t), .slice (some ⟨bd, od + at', none⟩) k2 rcd, .int .u64 tau] 106)) W → Calls Tryz.prog 72 #[.agg #[.int .i64 (i : Int), .slice (Z t) lk (CZ t), .slice (some ⟨bd, od + at', none⟩) k2 rcd, .int .u64 tau], .agg #[.int .i64 g, .slice (some ⟨b, off, none⟩) n cap], .agg #[.slice ra k2 rc, .slice (some ⟨lb, lo, none⟩) (bk + 1) lc], .int .u64 cl] W fun e w' => folOut (partsQ c) D p.told c0 t W e w') := hid (fun W h => HFO.out W (HAL.out.trans (h.mono HAL.out.size)))
      clear HBT HX HAL HS HTR HFO HTB
      generalize wr.alloc (.cells #[.int .i64 (i : Int), .slice (Z t) lk (CZ t), .slice (some ⟨bd, od + at', none⟩) k2 rcd, .int .u64 tau] 106) = W6 at HNC HS6 HTR6 HFO6 ⊢
      have nc := HNC.out
      go_region_held3 (NineC TB X pb (po + t * 2) (.int .i64 (i : Int)) (.slice (Z t) lk (CZ t)) (.slice (some ⟨bd, od + at', none⟩) k2 rcd) (.int .u64 tau) (.int .i64 g) (.slice (some ⟨b, off, none⟩) n cap) (.slice (some ⟨pb, po, none⟩) np cp) (.slice ra k2 rc) (.slice (some ⟨lb, lo, none⟩) (bk + 1) lc)) (first | assumption | exact nc7) (first
        | (go_at_call 72; refine (HFO6.out _ (Below.refl _ W6).drew).mono ?_; rintro e w7 ⟨v, ok, rfl, hok, hv, hb⟩; have hb7 : Below W6.heap.size W6 w7 := (Below.refl _ W6).drew.trans hb; have nc7 := nc.kept hb7; clear hb))
      have HS7 := hid (HS6.out.next hb7)
      have HTR7 := hid (HTR6.out.kept hb7)
      have HOV := hid (And.intro hok hv)
      clear nc nc7 hb7 hok hv HS6 HTR6 HNC HFO6
      cases ok with
      | false =>
        have HNO : Hid (¬ (partsQ c).holds D p.told c0 (fun j => kk (fi j))) := hid (fun h => Bool.false_ne_true (HOV.out.1.2 (h.1 t (show t < c.layers.length by rw [HN.out]; exact htl))))
        go_wp2_with fail
        go_ret2
        exact ⟨false, rfl, ⟨fun h => absurd h Bool.false_ne_true, fun h => absurd h HNO.out⟩, HS7.out.bel⟩
      | true =>
        have HV : Hid (v = (partsQ c).claim D p.told c0 (t + 1)) := hid (HOV.out.2 (by first | rfl | trivial))
        have HON : Hid (∀ j, j < t + 1 → (partsQ c).part D p.told c0 j) := hid (fun j hj => by
          by_cases e : j = t
          · rw [e]; exact HOV.out.1.1 (by first | rfl | trivial)
          · exact HOK.out j (by omega))
        have rv : 0 ≤ v ∧ v ≤ 2305843009213693950 := by rw [HV.out]; exact claim_in rc0.1 rc0.2 (partsQ c) D p.told (t + 1)
        go_wp2_with fail
        go_roundg (n - (t + 1))
        case measure => go_light; omega
        case rel => exact ⟨t + 1, v, by omega, rfl, rfl, by go_num, rv.1, rv.2, HV, HON, HS7, HTR7⟩
    · have e : t = n := by omega
      obtain ⟨q, hq⟩ : ∃ q, q + 1 = n := ⟨n - 1, by omega⟩
      have y0 := HTR.out.c0 q (by omega)
      have y1 := HTR.out.c1 q (by omega)
      have y2 := HTR.out.c2 q (by omega)
      have y3 := HTR.out.c3 q (by omega)
      obtain ⟨bk, hbk⟩ : ∃ x, (partsQ c).lg n = x := ⟨_, rfl⟩
      obtain ⟨lk, hlk⟩ : ∃ x, (partsQ c).lg q = x := ⟨_, rfl⟩
      obtain ⟨at', hat⟩ : ∃ x, (partsQ c).at q = x := ⟨_, rfl⟩
      obtain ⟨tau, htau⟩ : ∃ x, (partsQ c).tau D q = x := ⟨_, rfl⟩
      have hbk2 : (partsQ c).lg (q + 1) = bk := by rw [hq, hbk]
      rw [HN.out, show (n : Int) - 1 - (q : Int) = 0 from by omega] at y0
      rw [hlk] at y1
      rw [hat, hbk2] at y2
      rw [htau] at y3
      have hfit := at_fits (c := c) (j := q) (by rw [HN.out]; omega)
      rw [hat, hbk2, ← HND.out] at hfit
      have bk4 : bk ≤ 4 := by rw [← hbk]; exact parts_lg HC.out n
      have rtau : 0 ≤ tau ∧ tau ≤ 18446744073709551615 := by rw [← htau]; exact HDD.out.2.1 _
      have HNX : Hid (∀ W, Below wr.heap.size wr W → Calls Tryz.prog 73 #[turnV 0 (Z q) lk (CZ q) (some ⟨bd, od + at', none⟩) (2 * bk) (cd - at') tau] W fun e w' => ∃ B, e = .returned (.slice (some ⟨B, 0, none⟩) bk bk) ∧ Row w' B 0 bk (zQ (partsQ c) D n) ∧ Below W.heap.size W w') := hid (fun W h => by
        have hbw := HS.out.bel.trans (h.mono HS.out.bel.size)
        have hdd := HDD.out.1.kept hbw HDD.out.2.2
        refine (next_any 0 (Z q) lk (CZ q) bd (od + at') bk (cd - at') tau (fun j => D (at' + j)) W (by omega) (by omega) (by omega) (fun j hj => ?_) (fun j => HDD.out.2.1 _) rtau.1 rtau.2 (Nat.lt_of_lt_of_le HDD.out.2.2 hbw.size)).mono ?_
        · have := hdd (at' + j) (by omega)
          rw [← Nat.add_assoc] at this
          exact this
        · rintro e w' ⟨B, he, _, hrow, hb⟩
          refine ⟨B, he, hrow.congr fun j _ => ?_, hb⟩
          rw [← hq]
          show _ = linQ (fun i => D ((partsQ c).at q + i)) (fun i => D ((partsQ c).at q + (partsQ c).lg (q + 1) + i)) ((partsQ c).tau D q) j
          unfold linQ
          dsimp only
          rw [hat, hbk2, htau, Nat.add_assoc])
      obtain ⟨lv, hlv⟩ : ∃ x, ofK (evS (fun j => kk (fi j)) (fun j => kk (zQ (partsQ c) D n j)) bk) = x := ⟨_, rfl⟩
      have HLV : Hid (ofK (evS (fun j => kk (fi j)) ((partsQ c).z D (partsQ c).n) ((partsQ c).lg (partsQ c).n)) = lv) := hid (by
        rw [← hlv, show (partsQ c).n = n from HN.out, hbk]
        congr 1
        exact evS_congr _ (fun _ _ => rfl) (fun j _ => (kk_zQ (partsQ c) D n j).symm))
      have HEV := hid (fun W B (h : Below w.heap.size w W) (hz : Row W B 0 ((partsQ c).lg n) (zQ (partsQ c) D n)) => HEN.out W B ((partsQ c).lg n) _ h hz (Nums_zQ HDD.out.2.1 _ _))
      rw [hbk, hlv] at HEV
      have HFIN : Hid ((partsQ c).holds D p.told c0 (fun j => kk (fi j)) ↔ cl = lv) := hid (by
        constructor
        · intro h
          have := h.2
          rw [HLV.out, show (partsQ c).n = n from HN.out] at this
          rw [HCL.out, e, this]
        · intro h
          refine ⟨fun j hj => HOK.out j (by have : j < c.layers.length := hj; rw [HN.out] at this; omega), ?_⟩
          rw [HLV.out, show (partsQ c).n = n from HN.out, ← h, HCL.out, e])
      have t1 : ¬ ((t : Int) < (n : Int)) := by omega
      have q0 : (0 : Int) ≤ (q : Int) := by omega
      have q1 : (q : Int) < (n : Int) := by omega
      have q2 : (n : Int) - 1 = (q : Int) := by omega
      clear e hq hbk hlk hat htau hbk2 hfit hlv HEN HLV
      obtain ⟨k2, hk2⟩ : ∃ x, 2 * bk = x := ⟨_, rfl⟩
      rw [hk2] at HNX y2
      clear hk2
      obtain ⟨rcd, hrcd⟩ : ∃ x, cd - at' = x := ⟨_, rfl⟩
      rw [hrcd] at HNX y2
      clear hrcd
      go_wp2_with fail
      refine (HNX.out _ (Below.refl _ wr)).mono ?_
      rintro e w7 ⟨B, rfl, hrow, hb⟩
      have HS7 := hid (HS.out.next hb)
      have HRW := hid hrow
      clear hrow hb HS HTR HNX y0 y1 y2 y3
      go_wp2_with fail
      refine (HEV.out w7 B HS7.out.bel HRW.out).mono ?_
      rintro e w8 ⟨rfl, hb⟩
      have HS8 := hid (HS7.out.next hb)
      clear hb HS7 HRW HEV
      by_cases hcl : cl = lv
      · have e4 : (cl == lv) = true := beq_iff_eq.2 hcl
        have HH : Hid ((partsQ c).holds D p.told c0 (fun j => kk (fi j))) := hid (HFIN.out.2 hcl)
        clear hcl
        go_wp2_with fail
        go_ret2
        exact ⟨true, rfl, ⟨fun _ => HH.out, fun _ => rfl⟩, HS8.out.bel⟩
      · have e4 : (cl == lv) = false := beq_eq_false_iff_ne.2 hcl
        have HH : Hid (¬ (partsQ c).holds D p.told c0 (fun j => kk (fi j))) := hid (fun h => hcl (HFIN.out.1 h))
        clear hcl
        go_wp2_with fail
        go_ret2
        exact ⟨false, rfl, ⟨fun h => absurd h Bool.false_ne_true, fun h => absurd h HH.out⟩, HS8.out.bel⟩

end Go.Proofs.YtbchbmelofojkaaGreatDoor

/-
  Contracts of package gkr's Prove: of what has an error; of right circuits, inputs and draws; it makes new rows and writes nothing that was there.
-/
namespace Go.Proofs.YtbchbmelofojkaaGreatDoor
open Go.RowKit
set_option linter.unusedVariables false
attribute [local go_sem ↓] Go.wp_at_zero Go.wp_at_succ

set_option maxHeartbeats 2000000 in
set_option maxRecDepth 100000 in
theorem pv_run (g : Int) (ao : Option Addr) (n cap : Nat) (ai : Option Addr) (ni ci : Nat) (ad : Option Addr) (nd cd : Nat) (x : Int) (w : World) (hx0 : x ≠ 0)
    (HR : Hid (∀ W, Below w.heap.size w W → Calls Tryz.prog 24 #[.agg #[.int .i64 g, .slice ao n cap], .slice ai ni ci] W fun e w' => e = .returned (.tuple #[.slice none 0 0, .int .i64 x]) ∧ Below W.heap.size W w')) :
    Calls Tryz.prog 26 #[.agg #[.int .i64 g, .slice ao n cap], .slice ai ni ci, .slice ad nd cd] w fun e w' => e = .returned (.tuple #[.agg #[.slice none 0 0], .int .i64 x]) ∧ Below w.heap.size w w' := by
  have HS0 := hid (StV.start w g (.slice ao n cap) 25 63)
  have e1 : (x != 0) = true := by simp [hx0]
  clear hx0
  go_enter Tryz.func26, Tryz.ntmps26
  go_wp2_with fail
  obtain ⟨X, hX⟩ : ∃ X, w.heap.size = X := ⟨_, rfl⟩
  rw [hX] at HS0
  rw [hX]
  have HX := hid hX
  clear hX
  generalize (w.alloc (.cells #[.int .i64 g, .slice ao n cap] 25)).alloc (.cells #[.slice none 0 0] 63) = W0 at HS0 ⊢
  refine (HR.out _ HS0.out.st.bel).mono ?_
  rintro e w1 ⟨rfl, hb⟩
  have HS1 := hid (HS0.out.next hb)
  clear hb HS0
  have pc := HS1.out.st.pc
  have fz := HS1.out.free
  go_wp2_with fail
  refine bodyPost_ret (results_prf rfl rfl (World.cell?_setCell_same _ _ _ pc)) rfl ?_
  exact ⟨rfl, by rw [HX.out]; have := HS1.out.st.bel; rw [HX.out] at this; exact this.setCell (by show X ≤ X + 1; omega) _⟩
set_option maxHeartbeats 2000000 in
set_option maxRecDepth 100000 in
theorem pv_draws (g : Int) (ao : Option Addr) (n cap : Nat) (ai : Option Addr) (ni ci : Nat) (ad : Option Addr) (nd cd : Nat) (q : Nat) (w : World) (hq : nd ≠ q)
    (HR : Hid (∀ W, Below w.heap.size w W → Calls Tryz.prog 24 #[.agg #[.int .i64 g, .slice ao n cap], .slice ai ni ci] W fun e w' => ∃ vv, e = .returned (.tuple #[vv, .int .i64 0]) ∧ Below W.heap.size W w'))
    (HD : Hid (∀ W, Below w.heap.size w W → Calls Tryz.prog 58 #[.agg #[.int .i64 g, .slice ao n cap]] W fun e w' => e = .returned (.int .i64 (q : Int)) ∧ Below W.heap.size W w')) :
    Calls Tryz.prog 26 #[.agg #[.int .i64 g, .slice ao n cap], .slice ai ni ci, .slice ad nd cd] w fun e w' => e = .returned (.tuple #[.agg #[.slice none 0 0], .int .i64 1]) ∧ Below w.heap.size w w' := by
  have HS0 := hid (StV.start w g (.slice ao n cap) 25 63)
  have e1 : ((nd : Int) != (q : Int)) = true := by simp; omega
  clear hq
  go_enter Tryz.func26, Tryz.ntmps26
  go_wp2_with fail
  obtain ⟨X, hX⟩ : ∃ X, w.heap.size = X := ⟨_, rfl⟩
  rw [hX] at HS0
  rw [hX]
  have HX := hid hX
  clear hX
  generalize (w.alloc (.cells #[.int .i64 g, .slice ao n cap] 25)).alloc (.cells #[.slice none 0 0] 63) = W0 at HS0 ⊢
  refine (HR.out _ HS0.out.st.bel).mono ?_
  rintro e w1 ⟨vv, rfl, hb⟩
  have HS1 := hid (HS0.out.next hb)
  clear hb HS0
  obtain ⟨z0, z1, zl⟩ := HS1.out.st.box
  go_wp2_with fail
  refine (HD.out _ HS1.out.st.bel).mono ?_
  rintro e w2 ⟨rfl, hb⟩
  have HS2 := hid (HS1.out.next hb)
  clear hb HS1 z0 z1 zl
  have pc := HS2.out.st.pc
  have fz := HS2.out.free
  go_wp2_with fail
  refine bodyPost_ret (results_prf rfl rfl (World.cell?_setCell_same _ _ _ pc)) rfl ?_
  exact ⟨rfl, by rw [HX.out]; have := HS2.out.st.bel; rw [HX.out] at this; exact this.setCell (by show X ≤ X + 1; omega) _⟩
set_option maxHeartbeats 8000000 in
set_option maxRecDepth 100000 in
theorem pv_own (c : CQ) (g b off n cap : Nat) (A : Nat → Option Addr) (C : Nat → Nat) (bi oi N ci : Nat) (f : Nat → Int) (bd od nd cd : Nat) (D : Nat → Int) (w : World)
    (hg : c.log = (g : Int)) (hn : c.layers.length = n) (hr : CRow w (some ⟨b, off, none⟩) c.layers A C) (hc : c.right) (sh : wrap64 ((2 : Int) ^ g) = (N : Int)) (hN : lenQ c 0 = N) (hi : Row w bi oi N f) (vi : Nums f) (hd : Row w bd od nd D) (vd : Nums D) (hnd : nd = needQ c) (hcd : nd ≤ cd) (hcm : cd ≤ maxLen) (ht : Tab w) :
    Calls Tryz.prog 26 #[.agg #[.int .i64 (g : Int), .slice (some ⟨b, off, none⟩) n cap], .slice (some ⟨bi, oi, none⟩) N ci, .slice (some ⟨bd, od, none⟩) nd cd] w fun e w' => proveOwn c f D n w e w' := by
  have n4 : n ≤ 4 := by have := hc.few; omega
  have n1 : 1 ≤ n := by have := List.length_pos_iff.2 hc.some; omega
  have nd40 : nd ≤ 40 := by rw [hnd]; exact needQ_le hc
  have hNr := lenQ_rng hc 0 (by omega)
  rw [hN] at hNr
  have hbd : bd < w.heap.size := hd.lt (by
    have h := at_fits (c := c) (j := 0) (by omega)
    rw [← hnd] at h
    omega)
  have hbi := hi.lt hNr.1
  have HS0 := hid (StV.start w (g : Int) (.slice (some ⟨b, off, none⟩) n cap) 25 63)
  have HRU := hid (fun W (h : Below w.heap.size w W) => run_ok c g b off n cap A C bi oi N ci f W hg hn (hr.kept h) hc sh hN hNr.2 hNr.1 (hi.kept h hbi) vi)
  have HDR : Hid (∀ W, Below w.heap.size w W → Calls Tryz.prog 58 #[.agg #[.int .i64 (g : Int), .slice (some ⟨b, off, none⟩) n cap]] W fun e w' => e = .returned (.int .i64 (nd : Int)) ∧ Below W.heap.size W w') := hid (fun W h => by rw [hnd]; exact cdraws_any c g b off n cap A C W hg hn (hr.kept h) hc)
  have HTU := hid (fun W (h : Below w.heap.size w W) => turns_any c g b off n cap A C bd od nd cd D W hg hn (hr.kept h) hc (hd.kept h hbd) vd hnd hcd hcm)
  have HN := hid hn
  have HR := hid hr
  have HC := hid hc
  have HT := hid ht
  have HDD := hid (And.intro hd (And.intro vd (And.intro hbd hnd)))
  have e1 : ((nd : Int) != (nd : Int)) = false := by simp
  have hmk := run_make_parts n (by omega)
  clear hg hn hr hc hi vi hd vd hnd ht hbi hbd sh hN hNr
  go_enter Tryz.func26, Tryz.ntmps26
  go_wp2_with fail
  obtain ⟨X, hX⟩ : ∃ X, w.heap.size = X := ⟨_, rfl⟩
  rw [hX] at HS0
  rw [hX]
  have HX := hid hX
  clear hX
  generalize (w.alloc (.cells #[.int .i64 (g : Int), .slice (some ⟨b, off, none⟩) n cap] 25)).alloc (.cells #[.slice none 0 0] 63) = W0 at HS0 ⊢
  refine (HRU.out _ HS0.out.st.bel).mono ?_
  rintro e w1 ⟨V, Dv, rfl, hO⟩
  have HS1 := hid (HS0.out.next hO.below)
  have HO1 := hid hO
  clear hO HS0 HRU
  obtain ⟨z0, z1, zl⟩ := HS1.out.st.box
  go_wp2_with fail
  refine (HDR.out _ HS1.out.st.bel).mono ?_
  rintro e w2 ⟨rfl, hb⟩
  have HS2 := hid (HS1.out.next hb)
  have HO2 := hid (HO1.out.kept hb)
  clear hb HS1 HO1 HDR z0 z1 zl
  obtain ⟨z0, z1, zl⟩ := HS2.out.st.box
  have HAL := hid ((Below.refl w2.heap.size w2).alloc (Nat.le_refl _) (.cells (madeCells #[.slice none 0 0, .slice none 0 0] (n * 2)) 67))
  have HS3 := hid (HS2.out.next HAL.out)
  obtain ⟨y0, y1, yl⟩ := HS3.out.st.box
  go_wp2_with fail
  clear e1 hmk z0 z1 zl y0 y1 yl
  refine (HTU.out _ HS3.out.st.bel).mono ?_
  rintro e w4 ⟨T, ct, Z, CZ, rfl, htr, hb⟩
  have hst := PvS.start hb (fun j => (partsQ c).lg (j + 1)) (fun _ => 0) (fun _ => 0) (fun _ _ => 0) (rightP c f D).R (rightP c f D).L
  obtain ⟨PB, hPB⟩ : ∃ x, w2.heap.size = x := ⟨_, rfl⟩
  rw [hPB] at hst
  rw [hPB]
  have HPB := hid hPB
  have HTR := hid htr
  have HP0 := hid hst.2
  have HPS : Hid (∃ R L a, PvS w2 w4 w4 PB n 0 0 (fun j => (partsQ c).lg (j + 1)) R L a (rightP c f D).R (rightP c f D).L) := hid ⟨_, _, _, hst.1⟩
  have HXP : Hid (X + 1 < PB ∧ V < PB) := hid (by have h1 := HS2.out.lt; have h2 := HO2.out.lt; omega)
  have HBL : Hid (∀ W, Below PB w2 W → StV w W X (g : Int) (.slice (some ⟨b, off, none⟩) n cap) ∧ OutL W0 W V (n + 1) (n + 1) (lenQ c) Dv (valsQ c f)) := hid (fun W h => by
    rw [← hPB] at h
    exact ⟨HS2.out.next h, HO2.out.kept h⟩)
  clear hb hst hPB htr HS3 HS2 HAL HTU HO2
  go_wp2_with fail
  go_loopg [38] n (fun q i wr => ∃ t : Nat, t ≤ n ∧ q = n - t ∧ i = .int .i64 (t : Int) ∧ Hid (∃ R L a, PvS w2 w4 wr PB n t t (fun j => (partsQ c).lg (j + 1)) R L a (rightP c f D).R (rightP c f D).L))
  case atStart => exact ⟨0, by omega, rfl, rfl, HPS⟩
  case round =>
    clear HPS
    obtain ⟨t, htn, rfl, rfl, HPS⟩ := hrel
    obtain ⟨R, L, a, hps⟩ := HPS.out
    have HPS := hid hps
    clear hps
    by_cases htl : t < n
    · obtain ⟨i, hi⟩ : ∃ i : Nat, i + t + 1 = n := ⟨n - 1 - t, by omega⟩
      have htw := HPS.out.turns HP0.out HTR.out
      have y0 := htw.c0 t htl
      have y1 := htw.c1 t htl
      have y2 := htw.c2 t htl
      have y3 := htw.c3 t htl
      obtain ⟨bk, hbk⟩ : ∃ x, (partsQ c).lg (t + 1) = x := ⟨_, rfl⟩
      obtain ⟨lk, hlk⟩ : ∃ x, (partsQ c).lg t = x := ⟨_, rfl⟩
      obtain ⟨at', hat⟩ : ∃ x, (partsQ c).at t = x := ⟨_, rfl⟩
      obtain ⟨tau, htau⟩ : ∃ x, (partsQ c).tau D t = x := ⟨_, rfl⟩
      rw [HN.out, show (n : Int) - 1 - (t : Int) = (i : Int) from by omega] at y0
      rw [hlk] at y1
      rw [hat, hbk] at y2
      rw [htau] at y3
      have hfit := at_fits (c := c) (j := t) (by rw [HN.out]; exact htl)
      rw [hat, hbk, ← HDD.out.2.2.2] at hfit
      have bk4 : bk ≤ 4 := by rw [← hbk]; exact parts_lg HC.out _
      have lk4 : lk ≤ 4 := by rw [← hlk]; exact parts_lg HC.out _
      obtain ⟨l, hl, hl1, hl2, hl3, hl4⟩ := parts_layer HC.out (j := t) (by rw [HN.out]; exact htl)
      rw [HN.out, show n - 1 - t = i from by omega] at hl
      rw [hlk] at hl2
      rw [hbk] at hl4
      have hlen : lenQ c i = 2 ^ bk := by
        rw [← hbk]
        show 2 ^ (belowQ c i).toNat = 2 ^ (belowQ c (c.layers.length - (t + 1))).toNat
        rw [HN.out, show n - (t + 1) = i from by omega]
      obtain ⟨hst, hol⟩ := HBL.out wr HPS.out.bel
      obtain ⟨b', off', eb, hcc⟩ := HR.out.kept hst.st.bel (by intro e; have := HN.out; rw [e] at this; simp at this; omega)
      cases eb
      obtain ⟨x0, x1, x2, x3⟩ := hcc i l hl
      rw [Nat.mul_comm 2 i] at x0 x1
      obtain ⟨lg, hlg⟩ : ∃ x, l.log = x := ⟨_, rfl⟩
      obtain ⟨m, hm⟩ : ∃ x, l.gates.length = x := ⟨_, rfl⟩
      obtain ⟨ga, hga⟩ : ∃ x, A i = x := ⟨_, rfl⟩
      obtain ⟨gc, hgc⟩ : ∃ x, C i = x := ⟨_, rfl⟩
      obtain ⟨M, hM⟩ : ∃ x, lenQ c i = x := ⟨_, rfl⟩
      obtain ⟨dk, hdk⟩ : ∃ x, Dv i = x := ⟨_, rfl⟩
      have cv := hol.cell i (by omega)
      rw [hdk, hM] at cv
      rw [hlg] at x0
      rw [hm, hga, hgc] at x1
      have HRD : Hid (∀ W, Below PB w2 W → TuRow W T c bd od cd D Z CZ n → Calls Tryz.prog 60 #[turnV (i : Int) (Z t) lk (CZ t) (some ⟨bd, od + at', none⟩) (2 * bk) (cd - at') tau, .agg #[.int .i64 lg, .slice ga m gc], .slice (some ⟨dk, 0, none⟩) M M] W fun e w' => ∃ R a, e = .returned (.slice (some ⟨R, 0, none⟩) (2 * bk) (2 * bk)) ∧ Grid w' R (2 * bk) 3 a ((rightP c f D).R t) W.heap.size ∧ Below W.heap.size W w') := hid (fun W h htu => by
        obtain ⟨hst, hol⟩ := HBL.out W h
        obtain ⟨b', off', eb, hcc⟩ := HR.out.kept hst.st.bel (by intro e; have := HN.out; rw [e] at this; simp at this; omega)
        obtain ⟨_, _, x2, _⟩ := hcc i l hl
        rw [hga] at x2
        have hz := htu.zrow t htl
        rw [hlk] at hz
        have hdd := HDD.out.1.kept hst.st.bel HDD.out.2.2.1
        have hrw := hol.row i (by omega)
        rw [hdk, hM] at hrw
        refine (rounds_any (i : Int) (Z t) lk (CZ t) bd (od + at') bk (cd - at') tau lg ga m gc l.gates (zQ (partsQ c) D t) (fun j => D ((partsQ c).at t + j)) (valsQ c f i) dk 0 M M W bk4 lk4 hm (by rw [← hm]; exact hl2) (by rw [← hM]; exact hlen) x2 hl4 hz (Nums_zQ HDD.out.2.1 _ _) (fun j hj => ?_) (Nums_from HDD.out.2.1 _) hrw (Nums_vals c f i) (HT.out.kept hst.st.bel HT.out.1)).mono ?_
        · have := hdd (at' + j) (by omega)
          rw [← Nat.add_assoc] at this
          rw [hat]
          exact this
        · rintro e w' ⟨R, a, he, hgr, hb⟩
          exact ⟨R, a, he, hgr.congr fun r p _ _ => rd_right HN.out hi hl hlk hbk f D r p, hb⟩)
      have HLN : Hid (∀ W, Below PB w2 W → Calls Tryz.prog 61 #[turnV (i : Int) (Z t) lk (CZ t) (some ⟨bd, od + at', none⟩) (2 * bk) (cd - at') tau, .slice (some ⟨dk, 0, none⟩) M M] W fun e w' => ∃ B, e = .returned (.slice (some ⟨B, 0, none⟩) (bk + 1) (bk + 1)) ∧ W.heap.size ≤ B ∧ Row w' B 0 (bk + 1) ((rightP c f D).L t) ∧ Below W.heap.size W w' ∧ Free w' B 0 (bk + 1)) := hid (fun W h => by
        obtain ⟨hst, hol⟩ := HBL.out W h
        have hdd := HDD.out.1.kept hst.st.bel HDD.out.2.2.1
        have hrw := hol.row i (by omega)
        rw [hdk, hM] at hrw
        refine (line_any (i : Int) (Z t) lk (CZ t) bd (od + at') bk (cd - at') tau (fun j => D ((partsQ c).at t + j)) dk 0 M M (valsQ c f i) W (by omega) (by omega) (by omega) (by rw [← hM]; exact hlen) (HT.out.kept hst.st.bel HT.out.1) (fun j hj => ?_) (Nums_from HDD.out.2.1 _) (Nat.lt_of_lt_of_le HDD.out.2.2.1 hst.st.bel.size) hrw (Nums_vals c f i)).mono ?_
        · have := hdd (at' + j) (by omega)
          rw [← Nat.add_assoc] at this
          rw [hat]
          exact this
        · rintro e w' ⟨B, he, hB, hrow, hb, hfr⟩
          exact ⟨B, he, hB, hrow.congr (fun s _ => ln_right HN.out hi hbk f D s), hb, hfr⟩)
      have HBK := hid hbk
      have HBB : Hid (b < w.heap.size) := hid (by
        obtain ⟨b', off', eb, hcc⟩ := HR.out (by intro e; have := HN.out; rw [e] at this; simp at this; omega)
        cases eb
        obtain ⟨x0, _⟩ := hcc i l hl
        exact World.block_lt_of_cell? w _ x0)
      clear hcc x2 x3 hl hl1 hl2 hl3 hl4 hlen hlg hm hga hgc hM hdk hbk hlk hat htau hfit htw hol
      obtain ⟨k2, hk2⟩ : ∃ x, 2 * bk = x := ⟨_, rfl⟩
      have HK2 := hid hk2
      rw [hk2] at HRD HLN y2
      clear hk2
      obtain ⟨rcd, hrcd⟩ : ∃ x, cd - at' = x := ⟨_, rfl⟩
      rw [hrcd] at HRD HLN y2
      clear hrcd
      have t0 : (0 : Int) ≤ (t : Int) := by omega
      have t1 : (t : Int) < (n : Int) := by omega
      have i0 : (0 : Int) ≤ (i : Int) := by omega
      have i1 : (i : Int) < (n : Int) := by omega
      have i2 : (i : Int) < (n : Int) + 1 := by omega
      have HAL := hid ((Below.refl wr.heap.size wr).alloc (Nat.le_refl _) (.cells #[.int .i64 (i : Int), .slice (Z t) lk (CZ t), .slice (some ⟨bd, od + at', none⟩) k2 rcd, .int .u64 tau] 106))
      have HBT := hid (Box4.new wr (.int .i64 (i : Int)) (.slice (Z t) lk (CZ t)) (.slice (some ⟨bd, od + at', none⟩) k2 rcd) (.int .u64 tau) 106)
      have HX01 := hid (And.intro x0 x1)
      have HST := hid hst
      have cv6 := (HAL.out.cell (World.block_lt_of_cell? wr _ cv)).trans cv
      obtain ⟨bt0, bt1, bt2, bt3⟩ := HBT.out
      clear x0 x1 hst cv
      go_wp2_with fail
      clear y0 y1 y2 y3 cv6 bt0 bt1 bt2 bt3
      have HTP : Hid (wr.heap.size ≠ PB ∧ PB < wr.heap.size) := hid (by have h1 := HPS.out.lt; have h2 := HPS.out.size; omega)
      obtain ⟨TB, hTB⟩ : ∃ x, wr.heap.size = x := ⟨_, rfl⟩
      rw [hTB] at HBT HTP
      rw [hTB]
      clear hTB
      have HE8 : Hid (EightC TB X b (off + i * 2) (.int .i64 (i : Int)) (.slice (Z t) lk (CZ t)) (.slice (some ⟨bd, od + at', none⟩) k2 rcd) (.int .u64 tau) (.int .i64 (g : Int)) (.slice (some ⟨b, off, none⟩) n cap) (.int .i64 lg) (.slice ga m gc) (wr.alloc (.cells #[.int .i64 (i : Int), .slice (Z t) lk (CZ t), .slice (some ⟨bd, od + at', none⟩) k2 rcd, .int .u64 tau] 106))) := hid (by
        have hs := HST.out.next HAL.out
        have k : ∀ (a : Addr) (z : Value), wr.cell? a = some z → (wr.alloc (.cells #[.int .i64 (i : Int), .slice (Z t) lk (CZ t), .slice (some ⟨bd, od + at', none⟩) k2 rcd, .int .u64 tau] 106)).cell? a = some z := fun a z hz => (HAL.out.cell (World.block_lt_of_cell? wr _ hz)).trans hz
        exact ⟨⟨HBT.out.c0, HBT.out.c1, HBT.out.c2, HBT.out.c3⟩, ⟨hs.st.box.c0, hs.st.box.c1⟩, k _ _ HX01.out.1, k _ _ HX01.out.2⟩)
      have HP6 := hid (HPS.out.kept HAL.out)
      clear HPS HBT HX01 HAL HST
      generalize wr.alloc (.cells #[.int .i64 (i : Int), .slice (Z t) lk (CZ t), .slice (some ⟨bd, od + at', none⟩) k2 rcd, .int .u64 tau] 106) = W6 at HE8 HP6 ⊢
      have HXN : Hid (X ≠ PB ∧ b ≠ PB) := hid (by have h1 := HXP.out.1; have h2 := HBB.out; have h3 := HX.out; omega)
      have nc := HE8.out
      go_region_held3 (EightC TB X b (off + i * 2) (.int .i64 (i : Int)) (.slice (Z t) lk (CZ t)) (.slice (some ⟨bd, od + at', none⟩) k2 rcd) (.int .u64 tau) (.int .i64 (g : Int)) (.slice (some ⟨b, off, none⟩) n cap) (.int .i64 lg) (.slice ga m gc)) (first | assumption | exact nc7 | exact nc8 _) (first
        | (go_at_call 60; refine (HRD.out _ HP6.out.bel.drew ((HP6.out.turns HP0.out HTR.out).kept (Below.refl _ W6).drew)).mono ?_; rintro e w7 ⟨R', a', rfl, hgr, hb⟩; have hb7 : Below W6.heap.size W6 w7 := (Below.refl _ W6).drew.trans hb; have nc7 := nc.kept hb7; have nc8 := fun v => nc7.set (PB := PB) (o' := t * 2) HTP.out.1 HXN.out.1 HXN.out.2 v; have HP7 := hid (HP6.out.kept hb7); have cz := HP7.out.c0 t htl; have fz := HP7.out.free (t * 2); rw [if_neg (Nat.lt_irrefl t)] at cz; have HGR := hid hgr; clear hb hgr))
      have HP8 : Hid (∃ R L a, PvS w2 w4 (w7.setCell ⟨PB, t * 2, none⟩ (.slice (some ⟨R', 0, none⟩) k2 k2)) PB n (t + 1) t (fun j => (partsQ c).lg (j + 1)) R L a (rightP c f D).R (rightP c f D).L) := hid (by
        have e : 2 * (partsQ c).lg (t + 1) = k2 := by rw [HBK.out, HK2.out]
        have hgr := HGR.out
        rw [← e] at hgr
        have h := HP7.out.put0 htl (R' := R') (a' := a') (base := W6.heap.size) hgr (Nat.lt_of_lt_of_le HP6.out.lt HP6.out.size)
        rw [e] at h
        exact ⟨_, _, _, h⟩)
      have HE8' := hid (nc8 (.slice (some ⟨R', 0, none⟩) k2 k2))
      clear nc nc7 nc8 hb7 cz fz HGR HP7 HP6 HE8 HRD
      generalize w7.setCell ⟨PB, t * 2, none⟩ (.slice (some ⟨R', 0, none⟩) k2 k2) = W8 at HP8 HE8' ⊢
      obtain ⟨R2, L2, a2, hp8⟩ := HP8.out
      have HP8 := hid hp8
      clear hp8
      obtain ⟨⟨u0, u1, u2, u3⟩, _⟩ := HE8'.out
      go_wp2_with fail
      refine (HLN.out _ HP8.out.bel).mono ?_
      rintro e w9 ⟨B, rfl, hB, hrow, hb, hfr⟩
      have HP9 := hid (HP8.out.kept hb)
      have HRW : Hid (Row w9 B 0 (bk + 1) ((rightP c f D).L t) ∧ PB < B ∧ B < w9.heap.size ∧ Free w9 B 0 (bk + 1)) := hid ⟨hrow, Nat.lt_of_lt_of_le (Nat.lt_of_lt_of_le HP8.out.lt HP8.out.size) hB, hrow.lt (by omega), hfr⟩
      have cz := HP9.out.c1 t htl
      have fz := HP9.out.free (t * 2 + 1)
      rw [if_neg (Nat.lt_irrefl t)] at cz
      clear hB hrow hb hfr HP8 HE8' u0 u1 u2 u3 HLN
      go_wp2_with fail
      have HPA : Hid (∃ R L a, PvS w2 w4 (w9.setCell ⟨PB, t * 2 + 1, none⟩ (.slice (some ⟨B, 0, none⟩) (bk + 1) (bk + 1))) PB n (t + 1) (t + 1) (fun j => (partsQ c).lg (j + 1)) R L a (rightP c f D).R (rightP c f D).L) := hid (by
        have hr := HRW.out.1
        rw [← HBK.out] at hr
        have hfr := HRW.out.2.2.2
        rw [← HBK.out] at hfr
        have h := HP9.out.put1 htl (L' := B) hr HRW.out.2.1 HRW.out.2.2.1 hfr
        rw [HBK.out] at h
        exact ⟨_, _, _, h⟩)
      go_roundg (n - (t + 1))
      case measure => go_light; omega
      case rel => exact ⟨t + 1, by omega, rfl, by go_num, HPA⟩
    · have e : t = n := by omega
      have t1 : ¬ ((t : Int) < (n : Int)) := by omega
      obtain ⟨hst, hol⟩ := HBL.out wr HPS.out.bel
      have pc := hst.st.pc
      have fz := hst.free
      have HBW := hid hst.st.bel
      have HDN : Hid (∀ v, ∃ m, PfRow (wr.setCell ⟨X + 1, 0, none⟩ v) (some ⟨PB, 0, none⟩) (rightP c f D) m ∧ m.fresh (rightP c f D) PB ∧ m.may (rightP c f D) (wr.setCell ⟨X + 1, 0, none⟩ v)) := hid (fun v => by
        have h := HPS.out
        rw [e] at h
        exact h.done HN.out HXP.out.1 v)
      clear hst hol e
      go_wp2_with fail
      refine bodyPost_ret (results_prf rfl rfl (World.cell?_setCell_same _ _ _ pc)) rfl ?_
      obtain ⟨m, hm⟩ := HDN.out (.slice (some ⟨PB, 0, none⟩) n n)
      have h1 := HXP.out.1
      have h2 := HX.out
      exact ⟨PB, m, rfl, hm.1, ⟨by omega, hm.2.1⟩, hm.2.2, HBW.out.setCell (by show w.heap.size ≤ X + 1; omega) _⟩

theorem pv_ok (c : CQ) (g b off n cap : Nat) (A : Nat → Option Addr) (C : Nat → Nat) (bi oi N ci : Nat) (f : Nat → Int) (bd od nd cd : Nat) (D : Nat → Int) (w : World)
    (hg : c.log = (g : Int)) (hn : c.layers.length = n) (hr : CRow w (some ⟨b, off, none⟩) c.layers A C) (hc : c.right) (sh : wrap64 ((2 : Int) ^ g) = (N : Int)) (hN : lenQ c 0 = N) (hi : Row w bi oi N f) (vi : Nums f) (hd : Row w bd od nd D) (vd : Nums D) (hnd : nd = needQ c) (hcd : nd ≤ cd) (hcm : cd ≤ maxLen) (ht : Tab w) :
    Calls Tryz.prog 26 #[.agg #[.int .i64 (g : Int), .slice (some ⟨b, off, none⟩) n cap], .slice (some ⟨bi, oi, none⟩) N ci, .slice (some ⟨bd, od, none⟩) nd cd] w fun e w' => proveOut c f D n w e w' :=
  (pv_own c g b off n cap A C bi oi N ci f bd od nd cd D w hg hn hr hc sh hN hi vi hd vd hnd hcd hcm ht).mono fun e w' ⟨PB, m, h1, h2, h3, _, h5⟩ => ⟨PB, m, h1, h2, h3, h5⟩

end Go.Proofs.YtbchbmelofojkaaGreatDoor
