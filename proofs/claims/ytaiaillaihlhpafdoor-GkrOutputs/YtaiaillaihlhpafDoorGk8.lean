/-
  A contract of a turn's follow, of right circuits and parts of a right form; it makes new rows and writes nothing that was there.
-/
import Derived.Test.YtaiaillaihlhpafDoorGk2
import Derived.Test.YtaiaillaihlhpafDoorGk1
import Derived.Test.YtaiaillaihlhpafDoorSumV
import Derived.Test.YtaiaillaihlhpafDoorUni
import Derived.Test.YtaiaillaihlhpafDoorWirV
namespace Go.Proofs.YtaiaillaihlhpafDoor
open Go.RowKit
set_option linter.unusedVariables false
attribute [local go_sem ↓] Go.wp_at_zero Go.wp_at_succ

/-- What holds all along: three boxes, and that nothing was written. -/
structure StF (w W : World) (X : Nat) (p q r s u v a b : Value) : Prop where
  bel : Below w.heap.size w W
  bt : Box4 W X p q r s
  bc : Box2 W (X + 1) u v
  bp : Box2 W (X + 1 + 1) a b
theorem StF.next {w W W' : World} {X : Nat} {p q r s u v a b : Value} (h : StF w W X p q r s u v a b) (hb : Below W.heap.size W W') : StF w W' X p q r s u v a b := ⟨h.bel.trans (hb.mono h.bel.size), h.bt.kept hb, h.bc.kept hb, h.bp.kept hb⟩
theorem StF.start (w : World) (p q r s u v a b : Value) (t t' t'' : TypeId) : StF w (((w.alloc (.cells #[p, q, r, s] t)).alloc (.cells #[u, v] t')).alloc (.cells #[a, b] t'')) w.heap.size p q r s u v a b := by
  have b1 := (Below.refl w.heap.size w).alloc (Nat.le_refl _) (.cells #[p, q, r, s] t)
  have h1 := Box4.new w p q r s t
  have z1 : (w.alloc (.cells #[p, q, r, s] t)).heap.size = w.heap.size + 1 := by simp
  generalize w.alloc (.cells #[p, q, r, s] t) = W1 at b1 h1 z1
  have b2 := (Below.refl W1.heap.size W1).alloc (Nat.le_refl _) (.cells #[u, v] t')
  have h2 := Box2.new W1 u v t'
  rw [z1] at h2
  have z2 : (W1.alloc (.cells #[u, v] t')).heap.size = w.heap.size + 1 + 1 := by simp [z1]
  generalize W1.alloc (.cells #[u, v] t') = W2 at b2 h2 z2
  have b3 := (Below.refl W2.heap.size W2).alloc (Nat.le_refl _) (.cells #[a, b] t'')
  have h3 := Box2.new W2 a b t''
  rw [z2] at h3
  exact ⟨(b1.trans (b2.mono b1.size)).trans (b3.mono (by have := b1.size; have := b2.size; omega)), (h1.kept b2).kept b3, h2.kept b3, h3⟩
/-- The line's values that stand for those at x and at y. -/
theorem line_ends (C : Parts) (p : Told) (t : Nat) (hk : C.lg (t + 1) ≤ 100) : kk (atQ (p.L t) (C.lg (t + 1) + 1) 0) = kk (p.L t 0) ∧ kk (atQ (p.L t) (C.lg (t + 1) + 1) 1) = kk (C.v1 p t) := by
  refine ⟨Parts.at_val (p.L t) (C.lg (t + 1) + 1) 0 (by omega) (by omega), ?_⟩
  unfold Parts.v1
  by_cases h : C.lg (t + 1) = 0
  · rw [if_pos h, h]
    exact at_only (p.L t) 1 (by omega) (IsP.const (kk (p.L t 0))) (fun i hi => by rw [show i = 0 from by omega]) 1
  · rw [if_neg h]
    exact Parts.at_val (p.L t) (C.lg (t + 1) + 1) 1 (by omega) (by omega)

/-- What follow tells. -/
def folOut (C : Parts) (D : Nat → Int) (p : Told) (c0 : Int) (t : Nat) (w : World) (e : Ending) (w' : World) : Prop := ∃ (v : Int) (ok : Bool), e = .returned (.tuple #[.int .u64 v, .bool ok]) ∧ (ok = true ↔ C.part D p c0 t) ∧ (ok = true → v = C.claim D p c0 (t + 1)) ∧ Below w.heap.size w w'

set_option maxHeartbeats 8000000 in
set_option maxRecDepth 100000 in
theorem follow_any (c : CQ) (g : Int) (b off n cap : Nat) (A : Nat → Option Addr) (C : Nat → Nat) (i t lk bk : Nat) (az : Option Addr) (cz bd od cd : Nat) (D : Nat → Int) (ra : Option Addr) (lb lo rc lc : Nat) (A2 : Nat → Option Addr) (L2 C2 : Nat → Nat) (p : Told) (c0 cl : Int) (w : World)
    (hg : c.log = g) (hn : c.layers.length = n) (hr : CRow w (some ⟨b, off, none⟩) c.layers A C) (hc : c.right) (hi : i + t + 1 = n) (hlk : (partsQ c).lg t = lk) (hbk : (partsQ c).lg (t + 1) = bk)
    (hz : PRow w az lk (zQ (partsQ c) D t)) (vD : Nums D) (hd : Row w bd od (2 * bk) (fun j => D ((partsQ c).at t + j))) (hcd : 2 * bk < cd) (hcm : cd ≤ maxLen)
    (hl : LRow w ra (2 * bk) A2 L2 C2 (p.R t)) (hL : ∀ j, j < 2 * bk → L2 j = 3) (vR : ∀ j, j < 2 * bk → Nums (p.R t j)) (hL2 : Row w lb lo (bk + 1) (p.L t)) (vL : Nums (p.L t))
    (hcl : cl = (partsQ c).claim D p c0 t) (cl0 : 0 ≤ cl) (cl1 : cl ≤ 2305843009213693950) :
    Calls Tryd.prog 39 #[turnV (i : Int) az lk cz (some ⟨bd, od, none⟩) (2 * bk) cd ((partsQ c).tau D t), .agg #[.int .i64 g, .slice (some ⟨b, off, none⟩) n cap], .agg #[.slice ra (2 * bk) rc, .slice (some ⟨lb, lo, none⟩) (bk + 1) lc], .int .u64 cl] w fun e w' => folOut (partsQ c) D p c0 t w e w' := by
  have n4 : n ≤ 4 := by have := hc.few; omega
  have bk4 : bk ≤ 4 := by rw [← hbk]; exact parts_lg hc (t + 1)
  have lk4 : lk ≤ 4 := by rw [← hlk]; exact parts_lg hc t
  have hbd : ∀ (h : 0 < 2 * bk), bd < w.heap.size := fun h => hd.lt h
  have hlb := hL2.lt (by omega)
  obtain ⟨l, hll, hl1, hl2, _, _⟩ := parts_layer hc (j := t) (by omega)
  rw [hn, show n - 1 - t = i from by omega] at hll
  have hlog : l.log = (lk : Int) := by rw [← hlk, hl1]; have := (hc.layer i l hll).1; omega
  have hbe : belowQ c i = (bk : Int) := by
    obtain ⟨x, hx, _⟩ := belowQ_rng hc i
    have := lg_of hn hi hx
    rw [hx, ← this, hbk]
  have hnow : ∀ r, toldQ (nrm cl) (p.R t) 3 (fun j => D ((partsQ c).at t + j)) r = (partsQ c).now D p c0 t r := fun r => by rw [nrm_in cl0 cl1, hcl]; rfl
  obtain ⟨tr, nw, htr, hnw, hnr, hver⟩ : ∃ (tr : Bool) (nw : Int), (tr = true ↔ ∀ r, r < 2 * bk → addQ (p.R t r 0) (p.R t r 1) = (partsQ c).now D p c0 t r) ∧ (tr = true → nw = (partsQ c).now D p c0 t (2 * bk)) ∧ (0 ≤ nw ∧ nw ≤ 18446744073709551615) ∧ ∀ W, Below w.heap.size w W → Calls Tryd.prog 55 #[.int .u64 cl, .slice ra (2 * bk) rc, .slice (some ⟨bd, od, none⟩) (2 * bk) cd] W fun e w' => e = .returned (.tuple #[.int .u64 nw, .bool tr, .int .i64 0]) ∧ Below W.heap.size W w' := by
    have hdk : ∀ W, Below w.heap.size w W → PRow W (some ⟨bd, od, none⟩) (2 * bk) (fun j => D ((partsQ c).at t + j)) := fun W h => (PRow.of hd).kept h
    rcases first_bad (fun r => addQ (p.R t r 0) (p.R t r 1) = (partsQ c).now D p c0 t r) (2 * bk) with hall | ⟨r, hr2, hno, hall⟩
    · refine ⟨true, _, ⟨fun _ => hall, fun _ => rfl⟩, fun _ => rfl, ?_, fun W hW => ?_⟩
      · rw [← hnow]; have := told_in cl (p.R t) 3 (fun j => D ((partsQ c).at t + j)) (2 * bk); omega
      · have h := verify_ok ra (some ⟨bd, od, none⟩) (2 * bk) rc cd 3 A2 L2 C2 (p.R t) (fun j => D ((partsQ c).at t + j)) cl W (by omega) (by omega) (by omega) (by omega) (by omega) (hl.kept hW) hL vR (hdk W hW) (fun j => vD _) (fun k hk => by rw [hall k hk, hnow])
        rw [hnow] at h
        exact h
    · refine ⟨false, 0, ⟨fun h => absurd h Bool.false_ne_true, fun h => absurd (h r hr2) hno⟩, fun h => absurd h Bool.false_ne_true, by omega, fun W hW => ?_⟩
      exact verify_bad ra (some ⟨bd, od, none⟩) (2 * bk) rc cd 3 A2 L2 C2 (p.R t) (fun j => D ((partsQ c).at t + j)) cl W (by omega) (by omega) (by omega) (by omega) (by omega) (hl.kept hW) hL vR (hdk W hW) (fun j => vD _) r hr2 (fun k hk => by rw [hall k hk, hnow]) (by rw [hnow]; exact hno)
  obtain ⟨e0, e1⟩ := line_ends (partsQ c) p t (by rw [hbk]; omega)
  rw [hbk] at e0 e1
  obtain ⟨v0, hv0⟩ : ∃ x, atQ (p.L t) (bk + 1) 0 = x := ⟨_, rfl⟩
  obtain ⟨v1, hv1⟩ : ∃ x, atQ (p.L t) (bk + 1) 1 = x := ⟨_, rfl⟩
  have rv0 := atQ_rng (p.L t) (bk + 1) 0
  have rv1 := atQ_rng (p.L t) (bk + 1) 1
  rw [hv0] at e0 rv0
  rw [hv1] at e1 rv1
  obtain ⟨tau, htau⟩ : ∃ x, (partsQ c).tau D t = x := ⟨_, rfl⟩
  have rtau : 0 ≤ tau ∧ tau ≤ 18446744073709551615 := by rw [← htau]; exact vD _
  have HAT : Hid (∀ (x : Int) W, 0 ≤ x → x ≤ 18446744073709551615 → Below w.heap.size w W → Calls Tryd.prog 56 #[.slice (some ⟨lb, lo, none⟩) (bk + 1) lc, .int .u64 x] W fun e w' => e = .returned (.tuple #[.int .u64 (atQ (p.L t) (bk + 1) x), .int .i64 0]) ∧ Below W.heap.size W w') := hid (fun x W x0 x1 h => at_ok lb lo (bk + 1) lc (p.L t) x W (by omega) (by omega) (hL2.kept h hlb) vL x0 x1)
  have HEN := hid (fun W => ends_any (i : Int) az lk cz bd od bk cd tau W (by omega) hcd hcm)
  have HSTP := hid (part_step (c := c) (n := n) (i := i) (t := t) (lk := lk) (bk := bk) hn hi hll hlk hbk D p v0 v1 e0 e1)
  obtain ⟨sv, hsv⟩ : ∃ x, wstQ l.gates lk bk (zQ (partsQ c) D t) (fun i => D ((partsQ c).at t + i)) (fun i => D ((partsQ c).at t + bk + i)) v0 v1 = x := ⟨_, rfl⟩
  have HSC : Hid (∀ W, Below w.heap.size w W → Calls Tryd.prog 6 #[.agg #[.int .i64 g, .slice (some ⟨b, off, none⟩) n cap], .int .i64 (i : Int), .slice az lk cz, .slice (some ⟨bd, od, none⟩) bk cd, .slice (some ⟨bd, od + bk, none⟩) bk (cd - bk), .int .u64 v0, .int .u64 v1] W fun e w' => e = .returned (.tuple #[.int .u64 sv, .int .i64 0]) ∧ Below W.heap.size W w') := hid (fun W h => by
    have hx : PRow W (some ⟨bd, od, none⟩) bk (fun i => D ((partsQ c).at t + i)) := ((PRow.of (fun j hj => hd j (by omega)) : PRow w (some ⟨bd, od, none⟩) bk _)).kept h
    have hy : PRow W (some ⟨bd, od + bk, none⟩) bk (fun i => D ((partsQ c).at t + bk + i)) := ((PRow.of (fun j hj => by have := hd (bk + j) (by omega); dsimp only at this; rw [← Nat.add_assoc, ← Nat.add_assoc] at this; exact this) : PRow w (some ⟨bd, od + bk, none⟩) bk _)).kept h
    refine (step_any c g (some ⟨b, off, none⟩) n cap A C (i : Int) az (some ⟨bd, od, none⟩) (some ⟨bd, od + bk, none⟩) lk cz bk cd bk (cd - bk) _ _ _ v0 v1 W hg hn (hr.kept h) (hz.kept h) hx hy (Nums_zQ vD _ _) (fun j => vD _) (fun j => vD _) (by omega) (by omega) (by omega) (by omega)).mono ?_
    rintro e w' ⟨v, x', rfl, ha, _, hv, hb⟩
    have hx0 : x' = 0 := askE_one ha (.inr (.inr ⟨hc, ⟨i, l, rfl, hll, by rw [hlog], by rw [hbe], by rw [hbe]⟩, rfl⟩))
    subst hx0
    rw [hv rfl, wspQ_at hll, hlog, hbe, Int.toNat_natCast, Int.toNat_natCast, hsv]
    exact ⟨rfl, hb⟩)
  rw [hsv] at HSTP
  have rsv : 0 ≤ sv ∧ sv ≤ 18446744073709551615 := by rw [HSTP.out]; exact ofK_u64 _
  have HPART : Hid ((partsQ c).part D p c0 t ↔ tr = true ∧ sv = nw) := hid (by
    have hk2 : (partsQ c).lg (t + 1) + (partsQ c).lg (t + 1) = 2 * bk := by rw [hbk]; omega
    constructor
    · intro h
      have h1 : tr = true := htr.2 (fun r hr => h.sums r (by rw [hk2]; exact hr))
      refine ⟨h1, ?_⟩
      rw [HSTP.out, hnw h1, ← hk2]
      exact h.step
    · rintro ⟨h1, h2⟩
      refine ⟨fun r hr => htr.1 h1 r (by rw [← hk2]; exact hr), ?_⟩
      rw [hk2, ← hnw h1, ← h2, ← HSTP.out])
  have HNX : Hid (atQ (p.L t) (bk + 1) tau = (partsQ c).claim D p c0 (t + 1)) := hid (by
    show _ = atQ (p.L t) ((partsQ c).lg (t + 1) + 1) ((partsQ c).tau D t)
    rw [hbk, htau])
  have HVE := hid hver
  rw [htau]
  have A0 := HAT.out 0
  have A1 := HAT.out 1
  rw [hv0] at A0
  rw [hv1] at A1
  have HA0 := hid A0
  have HA1 := hid A1
  clear A0 A1 hver htr hnw hnow hr hc hz hd hl hL vR hL2 vL hcl hll hl1 hl2 hlog hbe hlk hbk e0 e1 hv0 hv1 htau hsv HSTP hg hn hi hbd hlb vD
  obtain ⟨k2, hk2⟩ : ∃ x, 2 * bk = x := ⟨_, rfl⟩
  rw [hk2] at HVE HEN ⊢
  clear hk2 hcd
  have HS0 := hid (StF.start w (.int .i64 (i : Int)) (.slice az lk cz) (.slice (some ⟨bd, od, none⟩) k2 cd) (.int .u64 tau) (.int .i64 g) (.slice (some ⟨b, off, none⟩) n cap) (.slice ra k2 rc) (.slice (some ⟨lb, lo, none⟩) (bk + 1) lc) 73 24 76)
  obtain ⟨rv00, rv01⟩ := rv0
  obtain ⟨rv10, rv11⟩ := rv1
  obtain ⟨rt0, rt1⟩ := rtau
  obtain ⟨rn0, rn1⟩ := hnr
  obtain ⟨rs0, rs1⟩ := rsv
  go_enter Tryd.func39, Tryd.ntmps39
  go_wp2_with fail
  obtain ⟨X, hX⟩ : ∃ X, w.heap.size = X := ⟨_, rfl⟩
  rw [hX] at HS0
  rw [hX]
  have HX := hid hX
  clear hX
  generalize ((w.alloc (.cells #[.int .i64 (i : Int), .slice az lk cz, .slice (some ⟨bd, od, none⟩) k2 cd, .int .u64 tau] 73)).alloc (.cells #[.int .i64 g, .slice (some ⟨b, off, none⟩) n cap] 24)).alloc (.cells #[.slice ra k2 rc, .slice (some ⟨lb, lo, none⟩) (bk + 1) lc] 76) = W0 at HS0 ⊢
  refine (HVE.out _ HS0.out.bel).mono ?_
  rintro e w1 ⟨rfl, hb⟩
  have HS1 := hid (HS0.out.next hb)
  clear hb HS0 HVE
  cases tr with
  | false =>
    go_wp2_with fail
    go_ret2
    exact ⟨0, false, rfl, ⟨fun h => absurd h Bool.false_ne_true, fun h => absurd (HPART.out.1 h).1 Bool.false_ne_true⟩, fun h => absurd h Bool.false_ne_true, HS1.out.bel⟩
  | true =>
    obtain ⟨z0, z1, z2, z3, zl⟩ := HS1.out.bt
    go_wp2_with fail
    refine (HEN.out _).mono ?_
    rintro e w2 ⟨rfl, hb⟩
    have HS2 := hid (HS1.out.next hb)
    clear hb HS1 HEN z0 z1 z2 z3 zl
    obtain ⟨p0, p1, pl⟩ := HS2.out.bp
    go_wp2_with fail
    refine (HA0.out _ (by omega) (by omega) HS2.out.bel).mono ?_
    rintro e w3 ⟨rfl, hb⟩
    have HS3 := hid (HS2.out.next hb)
    clear hb HS2 HA0 p0 p1 pl
    obtain ⟨p0, p1, pl⟩ := HS3.out.bp
    go_wp2_with fail
    refine (HA1.out _ (by omega) (by omega) HS3.out.bel).mono ?_
    rintro e w4 ⟨rfl, hb⟩
    have HS4 := hid (HS3.out.next hb)
    clear hb HS3 HA1 p0 p1 pl
    obtain ⟨z0, z1, z2, z3, zl⟩ := HS4.out.bt
    obtain ⟨q0, q1, ql⟩ := HS4.out.bc
    go_wp2_with fail
    refine (HSC.out _ HS4.out.bel).mono ?_
    rintro e w5 ⟨rfl, hb⟩
    have HS5 := hid (HS4.out.next hb)
    clear hb HS4 HSC z0 z1 z2 z3 zl q0 q1 ql
    by_cases hsn : sv = nw
    · have e4 : (sv != nw) = false := neq_of hsn
      have HP : Hid ((partsQ c).part D p c0 t) := hid (HPART.out.2 ⟨(by first | rfl | trivial), hsn⟩)
      clear hsn
      obtain ⟨z0, z1, z2, z3, zl⟩ := HS5.out.bt
      obtain ⟨p0, p1, pl⟩ := HS5.out.bp
      go_wp2_with fail
      refine (HAT.out tau _ (by omega) (by omega) HS5.out.bel).mono ?_
      rintro e w6 ⟨rfl, hb⟩
      have HS6 := hid (HS5.out.next hb)
      clear hb HS5 HAT z0 z1 z2 z3 zl p0 p1 pl
      go_wp2_with fail
      go_ret2
      exact ⟨_, true, rfl, ⟨fun _ => HP.out, fun _ => rfl⟩, fun _ => HNX.out, HS6.out.bel⟩
    · have e4 : (sv != nw) = true := by simp [hsn]
      have HP : Hid (¬ (partsQ c).part D p c0 t) := hid (fun h => hsn (HPART.out.1 h).2)
      clear hsn
      go_wp2_with fail
      go_ret2
      exact ⟨0, false, rfl, ⟨fun h => absurd h Bool.false_ne_true, fun h => absurd h HP.out⟩, fun h => absurd h Bool.false_ne_true, HS5.out.bel⟩

end Go.Proofs.YtaiaillaihlhpafDoor
