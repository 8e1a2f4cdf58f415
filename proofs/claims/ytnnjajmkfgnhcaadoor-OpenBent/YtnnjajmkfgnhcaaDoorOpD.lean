/-
  A contract of package open's claim.fits; it makes new blocks and writes nothing that was there.
-/
import Derived.Test.YtnnjajmkfgnhcaaDoorOpC
import Derived.Test.YtnnjajmkfgnhcaaDoorQui
namespace Go.Proofs.YtnnjajmkfgnhcaaDoor
open Go.RowKit
set_option linter.unusedVariables false
attribute [local go_sem ↓] Go.wp_at_zero Go.wp_at_succ

/-- The cells that a round of fits reads. -/
abbrev FitC (B B2 B3 bt tp br rp bp pp : Nat) (vr vp vv pl pt x0 x1 l0 l1 ry gy : Value) (W : World) : Prop :=
  W.cell? ⟨B, 0, none⟩ = some vr ∧ W.cell? ⟨B, 1, none⟩ = some vp ∧ W.cell? ⟨B, 2, none⟩ = some vv ∧ W.cell? ⟨B2, 0, none⟩ = some pl ∧ W.cell? ⟨B2, 1, none⟩ = some pt ∧ W.cell? ⟨B3, 0, none⟩ = some x0 ∧ W.cell? ⟨B3, 1, none⟩ = some x1 ∧
  W.cell? ⟨bt, tp, none⟩ = some l0 ∧ W.cell? ⟨bt, tp + 1, none⟩ = some l1 ∧ W.cell? ⟨br, rp, none⟩ = some ry ∧ W.cell? ⟨bp, pp, none⟩ = some gy
theorem keepC {W W' : World} (hb : Below W.heap.size W W') {a : Addr} {v : Value} (h : W.cell? a = some v) : W'.cell? a = some v := (hb.cell (World.block_lt_of_cell? W _ h)).trans h
theorem FitC.next {B B2 B3 bt tp br rp bp pp : Nat} {vr vp vv pl pt x0 x1 l0 l1 ry gy : Value} {W W' : World} (h : FitC B B2 B3 bt tp br rp bp pp vr vp vv pl pt x0 x1 l0 l1 ry gy W) (hb : Below W.heap.size W W') : FitC B B2 B3 bt tp br rp bp pp vr vp vv pl pt x0 x1 l0 l1 ry gy W' := by
  obtain ⟨h1, h2, h3, h4, h5, h6, h7, h8, h9, ha, hc⟩ := h
  exact ⟨keepC hb h1, keepC hb h2, keepC hb h3, keepC hb h4, keepC hb h5, keepC hb h6, keepC hb h7, keepC hb h8, keepC hb h9, keepC hb ha, keepC hb hc⟩
structure StFo (w W : World) (B B2 : Nat) (vr vp vv pl pt : Value) : Prop where
  bel : Below w.heap.size w W
  bx : Bx3 W B vr vp vv
  by' : Bx2 W B2 pl pt
theorem StFo.next {w W W' : World} {B B2 : Nat} {vr vp vv pl pt : Value} (h : StFo w W B B2 vr vp vv pl pt) (hb : Below W.heap.size W W') : StFo w W' B B2 vr vp vv pl pt := ⟨h.bel.trans (hb.mono h.bel.size), h.bx.kept hb, h.by'.kept hb⟩
theorem StFo.start (w : World) (vr vp vv pl pt : Value) (t t' : TypeId) : StFo w ((w.alloc (.cells #[vr, vp, vv] t)).alloc (.cells #[pl, pt] t')) w.heap.size (w.heap.size + 1) vr vp vv pl pt := by
  have h1 := bel_new w (.cells #[vr, vp, vv] t)
  have h2 := bel_new (w.alloc (.cells #[vr, vp, vv] t)) (.cells #[pl, pt] t')
  have e : (w.alloc (.cells #[vr, vp, vv] t)).heap.size = w.heap.size + 1 := by simp
  refine ⟨h1.trans (h2.mono h1.size), (Bx3.new w vr vp vv t).kept h2, ?_⟩
  rw [← e]
  exact Bx2.new _ pl pt t'
theorem fit_no1 {n : Nat} {rt g : Nat → Int} {v : Int} {P : Nat → Nat → Int} {T : Nat → Nat → Nat → Int} {p k : Nat} (h : (climbQ (n - k) (p % hfQ n k) (P k 0) (T k 0) == nrm (rt k)) = false) : fitB n rt g v P T p k = false := by unfold fitB; rw [h]; rfl
theorem fit_no2 {n : Nat} {rt g : Nat → Int} {v : Int} {P : Nat → Nat → Int} {T : Nat → Nat → Nat → Int} {p k : Nat} (h : (climbQ (n - k) (p % hfQ n k + hfQ n k) (P k 1) (T k 1) == nrm (rt k)) = false) : fitB n rt g v P T p k = false := by unfold fitB; rw [h]; simp
theorem fit_no3 {n : Nat} {rt g : Nat → Int} {v : Int} {P : Nat → Nat → Int} {T : Nat → Nat → Nat → Int} {p k : Nat} (h : (btQ (P k) (g k) == nrm (nxQ n P v p k)) = false) : fitB n rt g v P T p k = false := by unfold fitB; rw [h]; simp
theorem fit_yes {n : Nat} {rt g : Nat → Int} {v : Int} {P : Nat → Nat → Int} {T : Nat → Nat → Nat → Int} {p k : Nat} (h1 : (climbQ (n - k) (p % hfQ n k) (P k 0) (T k 0) == nrm (rt k)) = true) (h2 : (climbQ (n - k) (p % hfQ n k + hfQ n k) (P k 1) (T k 1) == nrm (rt k)) = true) (h3 : (btQ (P k) (g k) == nrm (nxQ n P v p k)) = true) : fitB n rt g v P T p k = true := by unfold fitB; rw [h1, h2, h3]; rfl
theorem ret_bool {a b : Bool} (h : a = b) : Ending.returned (.bool a) = .returned (.bool b) := by rw [h]
theorem nxQ_rng {n : Nat} {P : Nat → Nat → Int} {v : Int} {p k : Nat} (hP : ∀ k e, 0 ≤ P k e ∧ P k e ≤ 18446744073709551615) (v0 : 0 ≤ v) (v1 : v ≤ 18446744073709551615) : 0 ≤ nxQ n P v p k ∧ nxQ n P v p k ≤ 18446744073709551615 := by
  unfold nxQ
  split
  · exact ⟨v0, v1⟩
  · exact hP _ _

set_option maxHeartbeats 8000000 in
set_option maxRecDepth 100000 in
theorem fits_any (n p cr cp pc tc : Nat) (ar ap pa ta : Option Addr) (v : Int) (rt g : Nat → Int) (P : Nat → Nat → Int) (A : Nat → Nat → Option Addr) (L C : Nat → Nat → Nat) (T : Nat → Nat → Nat → Int) (w : World) (hn : n ≤ 8) (hp : p ≤ 1000) (hr : PRow w ar (n + 1) rt) (hrv : Nums rt) (hg : PRow w ap n g) (hgv : Nums g) (v0 : 0 ≤ v) (v1 : v ≤ 18446744073709551615) (hq : QRow w pa n P) (hqv : ∀ k e, 0 ≤ P k e ∧ P k e ≤ 18446744073709551615) (ht : TRow w ta n A L C T) (hL : ∀ k, k < n → L k 0 = n - k ∧ L k 1 = n - k) (htv : ∀ k e, Nums (T k e)) :
    Calls Tryd.prog 60 #[.agg #[.slice ar (n + 1) cr, .slice ap n cp, .int .u64 v], .int .i64 (p : Int), .agg #[.slice pa n pc, .slice ta n tc]] w fun e w' => e = .returned (.bool (allB n fun k => fitB n rt g v P T p k)) ∧ Below w.heap.size w w' := by
  have HR := hid (And.intro hr (And.intro hg (And.intro hq ht)))
  have HV := hid (And.intro hrv (And.intro hgv (And.intro hqv htv)))
  have HL := hid hL
  have HS0 := hid (StFo.start w (.slice ar (n + 1) cr) (.slice ap n cp) (.int .u64 v) (.slice pa n pc) (.slice ta n tc) 98 72)
  clear hr hrv hg hgv hq hqv ht hL htv
  go_enter Tryd.func60, Tryd.ntmps60
  go_wp2_with fail
  obtain ⟨B, hB⟩ : ∃ B, w.heap.size = B := ⟨_, rfl⟩
  obtain ⟨B2, hB2⟩ : ∃ B2, B + 1 = B2 := ⟨_, rfl⟩
  rw [hB, hB2] at HS0
  rw [hB]
  simp only [hB2]
  clear hB hB2
  generalize (w.alloc (.cells #[.slice ar (n + 1) cr, .slice ap n cp, .int .u64 v] 98)).alloc (.cells #[.slice pa n pc, .slice ta n tc] 72) = W1 at HS0 ⊢
  go_loopg [14] n (fun q x wr => ∃ k : Nat, k ≤ n ∧ q = n - k ∧ x = .int .i64 (k : Int) ∧ Hid (∀ j, j < k → fitB n rt g v P T p j = true) ∧ Hid (StFo w wr B B2 (.slice ar (n + 1) cr) (.slice ap n cp) (.int .u64 v) (.slice pa n pc) (.slice ta n tc)))
  case atStart => exact ⟨0, by omega, rfl, rfl, hid (fun j hj => absurd hj (by omega)), HS0⟩
  case round =>
    clear HS0
    obtain ⟨k, hk, rfl, rfl, HK, HS⟩ := hrel
    by_cases hlt : k < n
    · obtain ⟨hr, hg, hq, ht⟩ := HR.out
      obtain ⟨hrv, hgv, hqv, htv⟩ := HV.out
      obtain ⟨hL0, hL1⟩ := HL.out k hlt
      have HNX := hid (fun W (hb : Below w.heap.size w W) => onext_any n k (p % hfQ n k) (hfQ n k) ar ap pa ta (n + 1) cr cp pc n tc v P W hn hlt rfl (Nat.mod_lt _ (hfQ_pos n k)) (hq.kept hb))
      obtain ⟨br, orr, rfl, hrr⟩ := hr (by omega)
      obtain ⟨bp, op, rfl, hgr⟩ := hg (by omega)
      obtain ⟨bq, oq, rfl, hqr⟩ := hq (by omega)
      obtain ⟨bt, ot, rfl, htr⟩ := ht (by omega)
      obtain ⟨u0, u1⟩ := hqr k hlt
      obtain ⟨d0, d1, p0, p1⟩ := htr k hlt
      have cr1 := hrr k (by omega)
      have cg1 := hgr k hlt
      rw [hL0] at d0 p0
      rw [hL1] at d1 p1
      have hq0 : p % hfQ n k < hfQ n k := Nat.mod_lt _ (hfQ_pos n k)
      have hH := hfQ_all hlt
      have HL1 := hid (fun W (hb : Below w.heap.size w W) => leadsTo_any (n - k) (C k 0) (p % hfQ n k) (A k 0) (P k 0) (rt k) (T k 0) W (by omega) (p0.kept hb) (htv k 0) (by omega) (hqv k 0).1 (hqv k 0).2 (hrv k).1 (hrv k).2)
      have HL2 := hid (fun W (hb : Below w.heap.size w W) => leadsTo_any (n - k) (C k 1) (p % hfQ n k + hfQ n k) (A k 1) (P k 1) (rt k) (T k 1) W (by omega) (p1.kept hb) (htv k 1) (by omega) (hqv k 1).1 (hqv k 1).2 (hrv k).1 (hrv k).2)
      have HBT := hid (fun W => obetw_any (P k 0) (P k 1) (g k) W (hqv k 0).1 (hqv k 0).2 (hqv k 1).1 (hqv k 1).2 (hgv k).1 (hgv k).2)
      have HHO := hid (fun W => halfOf_any n k W hn hlt)
      have hnr := nxQ_rng (n := n) (p := p) (k := k) hqv v0 v1
      have HNM := hid (fun W => norm_any (nxQ n P v p k) W hnr.1 hnr.2)
      have hb1 := HS.out.bel
      rw [Nat.mul_comm 2 k] at u0 u1 d0 d1
      have u0 := (hb1.cell (World.block_lt_of_cell? w _ u0)).trans u0
      have u1 := (hb1.cell (World.block_lt_of_cell? w _ u1)).trans u1
      have d0 := (hb1.cell (World.block_lt_of_cell? w _ d0)).trans d0
      have d1 := (hb1.cell (World.block_lt_of_cell? w _ d1)).trans d1
      have cr1 := (hb1.cell (World.block_lt_of_cell? w _ cr1)).trans cr1
      have cg1 := (hb1.cell (World.block_lt_of_cell? w _ cg1)).trans cg1
      have hHl := hfQ_le (k := k) hn
      have HF1 : Hid ((climbQ (n - k) (p % hfQ n k) (P k 0) (T k 0) == nrm (rt k)) = false → fitB n rt g v P T p k = false) := hid fit_no1
      have HF2 : Hid ((climbQ (n - k) (p % hfQ n k + hfQ n k) (P k 1) (T k 1) == nrm (rt k)) = false → fitB n rt g v P T p k = false) := hid fit_no2
      have HF3 : Hid ((btQ (P k) (g k) == nrm (nxQ n P v p k)) = false → fitB n rt g v P T p k = false) := hid fit_no3
      have HF4 : Hid ((climbQ (n - k) (p % hfQ n k) (P k 0) (T k 0) == nrm (rt k)) = true → (climbQ (n - k) (p % hfQ n k + hfQ n k) (P k 1) (T k 1) == nrm (rt k)) = true → (btQ (P k) (g k) == nrm (nxQ n P v p k)) = true → fitB n rt g v P T p k = true) := hid fit_yes
      have hnx : (if k + 1 = n then v else P (k + 1) (p % hfQ n k / hfQ n (k + 1))) = nxQ n P v p k := rfl
      have hbq : addQ (P k 0) (mulQ (g k) (subQ (P k 1) (P k 0))) = btQ (P k) (g k) := rfl
      rw [hnx] at HNX
      rw [hbq] at HBT
      generalize (climbQ (n - k) (p % hfQ n k) (P k 0) (T k 0) == nrm (rt k)) = r1 at HL1 HF1 HF4
      generalize (climbQ (n - k) (p % hfQ n k + hfQ n k) (P k 1) (T k 1) == nrm (rt k)) = r2 at HL2 HF2 HF4
      have hbt := (addQ_rng (P k 0) (mulQ (g k) (subQ (P k 1) (P k 0))))
      rw [hbq] at hbt
      generalize btQ (P k) (g k) = bv at HBT HF3 HF4 hbt
      generalize nxQ n P v p k = nv at HNX HNM HF3 HF4 hnr
      obtain ⟨r3, hr3⟩ : ∃ r3, (bv == nrm nv) = r3 := ⟨_, rfl⟩
      rw [hr3] at HF3 HF4
      have hr4 : (bv != nrm nv) = !r3 := by rw [← hr3]; rfl
      have hsq : ((p % hfQ n k + hfQ n k : Nat) : Int) = ((p % hfQ n k : Nat) : Int) + ((hfQ n k : Nat) : Int) := by simp
      rw [hsq] at HL2
      have hmod : (p : Int) % ((hfQ n k : Nat) : Int) = ((p % hfQ n k : Nat) : Int) := by simp
      have hHp := hfQ_pos n k
      generalize p % hfQ n k = q at HL1 HL2 HNX hq0 hmod
      generalize hfQ n k = H at HL2 HHO hq0 hmod hHl hH hHp
      generalize P k 0 = x0 at HL1 HBT u0 
      generalize P k 1 = x1 at HL2 HBT u1
      generalize A k 0 = a0 at HL1 d0
      generalize A k 1 = a1 at HL2 d1
      generalize C k 0 = q0 at HL1 d0
      generalize C k 1 = q1 at HL2 d1
      generalize rt k = y at HL1 HL2 cr1
      generalize g k = gx at HBT cg1
      generalize n - k = m at HL1 HL2 d0 d1
      clear hr hg hq ht hrv hgv hqv htv hL0 hL1 hrr hgr hqr htr p0 p1 hnx hbq hsq hr3 hH
      obtain ⟨z0, z1, z2⟩ := HS.out.bx
      obtain ⟨y0, y1⟩ := HS.out.by'
      have hbx := bel_new wr (.cells #[.int .u64 x0, .int .u64 x1] 41)
      have HS2 := hid (HS.out.next hbx)
      have fc : FitC B B2 wr.heap.size bt (ot + k * 2) br (orr + k) bp (op + k) (.slice (some ⟨br, orr, none⟩) (n + 1) cr) (.slice (some ⟨bp, op, none⟩) n cp) (.int .u64 v) (.slice (some ⟨bq, oq, none⟩) n pc) (.slice (some ⟨bt, ot, none⟩) n tc) (.int .u64 x0) (.int .u64 x1) (.slice a0 m q0) (.slice a1 m q1) (.int .u64 y) (.int .u64 gx) (wr.alloc (.cells #[.int .u64 x0, .int .u64 x1] 41)) :=
        ⟨keepC hbx z0, keepC hbx z1, keepC hbx z2, keepC hbx y0, keepC hbx y1, by rw [World.cell?_alloc_new]; rfl, by rw [World.cell?_alloc_new]; rfl, keepC hbx d0, keepC hbx d1, keepC hbx cr1, keepC hbx cg1⟩
      have FC := hid fc
      have z1a := keepC hbx z1
      clear hbx fc d0 d1 cr1 cg1 hb1
      have k0 : (0 : Int) ≤ (k : Int) := by omega
      have k1 : (k : Int) < (n : Int) := by omega
      have k2 : (k : Int) < ((n + 1 : Nat) : Int) := by omega
      have k3 : (k : Int) < (n : Int) + 1 := by omega
      have hz : ((H : Int) == 0) = false := by rw [beq_eq_false_iff_ne]; omega
      have hz2 : ¬ (H : Int) = 0 := by omega
      go_wp2_with (go_at_call 67; refine (HHO.out _).mono ?_; rintro e w' ⟨rfl, hw⟩; obtain rfl := hw.symm)
      obtain ⟨B3, hB3⟩ : ∃ B3, wr.heap.size = B3 := ⟨_, rfl⟩
      rw [hB3] at FC ⊢
      clear HHO z0 z1 z2 z1a y0 y1 u0 u1 hB3
      generalize wr.alloc (.cells #[.int .u64 x0, .int .u64 x1] 41) = W2 at HS2 FC ⊢
      obtain ⟨SS, hSS⟩ : ∃ SS : World → Prop, SS = (FitC B B2 B3 bt (ot + k * 2) br (orr + k) bp (op + k) (.slice (some ⟨br, orr, none⟩) (n + 1) cr) (.slice (some ⟨bp, op, none⟩) n cp) (.int .u64 v) (.slice (some ⟨bq, oq, none⟩) n pc) (.slice (some ⟨bt, ot, none⟩) n tc) (.int .u64 x0) (.int .u64 x1) (.slice a0 m q0) (.slice a1 m q1) (.int .u64 y) (.int .u64 gx)) := ⟨_, rfl⟩
      have HSS : Hid (∀ W, (FitC B B2 B3 bt (ot + k * 2) br (orr + k) bp (op + k) (.slice (some ⟨br, orr, none⟩) (n + 1) cr) (.slice (some ⟨bp, op, none⟩) n cp) (.int .u64 v) (.slice (some ⟨bq, oq, none⟩) n pc) (.slice (some ⟨bt, ot, none⟩) n tc) (.int .u64 x0) (.int .u64 x1) (.slice a0 m q0) (.slice a1 m q1) (.int .u64 y) (.int .u64 gx)) W → SS W) := hid (fun W h => by rw [hSS]; exact h)
      have HSU : Hid (∀ W, SS W → (FitC B B2 B3 bt (ot + k * 2) br (orr + k) bp (op + k) (.slice (some ⟨br, orr, none⟩) (n + 1) cr) (.slice (some ⟨bp, op, none⟩) n cp) (.int .u64 v) (.slice (some ⟨bq, oq, none⟩) n pc) (.slice (some ⟨bt, ot, none⟩) n tc) (.int .u64 x0) (.int .u64 x1) (.slice a0 m q0) (.slice a1 m q1) (.int .u64 y) (.int .u64 gx)) W) := hid (fun W h => by rw [hSS] at h; exact h)
      clear hSS
      cases r1 with
      | false =>
        refine wp_region_grown SS (by kernel_rfl) (by kernel_rfl) (HSS.out _ ((FC.out) : (FitC B B2 B3 bt (ot + k * 2) br (orr + k) bp (op + k) (.slice (some ⟨br, orr, none⟩) (n + 1) cr) (.slice (some ⟨bp, op, none⟩) n cp) (.int .u64 v) (.slice (some ⟨bq, oq, none⟩) n pc) (.slice (some ⟨bt, ot, none⟩) n tc) (.int .u64 x0) (.int .u64 x1) (.slice a0 m q0) (.slice a1 m q1) (.int .u64 y) (.int .u64 gx)) _)) ?_
        haveI : Nonempty (QT W2 SS) := QT.ne (HSS.out _ ((FC.out) : (FitC B B2 B3 bt (ot + k * 2) br (orr + k) bp (op + k) (.slice (some ⟨br, orr, none⟩) (n + 1) cr) (.slice (some ⟨bp, op, none⟩) n cp) (.int .u64 v) (.slice (some ⟨bq, oq, none⟩) n pc) (.slice (some ⟨bt, ot, none⟩) n tc) (.int .u64 x0) (.int .u64 x1) (.slice a0 m q0) (.slice a1 m q1) (.int .u64 y) (.int .u64 gx)) _))
        have hc0 : ∀ t : QT W2 SS, t.w.cell? ⟨B, 0, none⟩ = some (.slice (some ⟨br, orr, none⟩) (n + 1) cr) := fun t => (HSU.out _ t.s).1
        have hc1 : ∀ t : QT W2 SS, t.w.cell? ⟨B, 1, none⟩ = some (.slice (some ⟨bp, op, none⟩) n cp) := fun t => (HSU.out _ t.s).2.1
        have hc2 : ∀ t : QT W2 SS, t.w.cell? ⟨B, 2, none⟩ = some (.int .u64 v) := fun t => (HSU.out _ t.s).2.2.1
        have hc3 : ∀ t : QT W2 SS, t.w.cell? ⟨B2, 0, none⟩ = some (.slice (some ⟨bq, oq, none⟩) n pc) := fun t => (HSU.out _ t.s).2.2.2.1
        have hc4 : ∀ t : QT W2 SS, t.w.cell? ⟨B2, 1, none⟩ = some (.slice (some ⟨bt, ot, none⟩) n tc) := fun t => (HSU.out _ t.s).2.2.2.2.1
        have hc5 : ∀ t : QT W2 SS, t.w.cell? ⟨B3, 0, none⟩ = some (.int .u64 x0) := fun t => (HSU.out _ t.s).2.2.2.2.2.1
        have hc6 : ∀ t : QT W2 SS, t.w.cell? ⟨B3, 1, none⟩ = some (.int .u64 x1) := fun t => (HSU.out _ t.s).2.2.2.2.2.2.1
        have hc7 : ∀ t : QT W2 SS, t.w.cell? ⟨bt, ot + k * 2, none⟩ = some (.slice a0 m q0) := fun t => (HSU.out _ t.s).2.2.2.2.2.2.2.1
        have hc8 : ∀ t : QT W2 SS, t.w.cell? ⟨bt, ot + k * 2 + 1, none⟩ = some (.slice a1 m q1) := fun t => (HSU.out _ t.s).2.2.2.2.2.2.2.2.1
        have hc9 : ∀ t : QT W2 SS, t.w.cell? ⟨br, orr + k, none⟩ = some (.int .u64 y) := fun t => (HSU.out _ t.s).2.2.2.2.2.2.2.2.2.1
        have hca : ∀ t : QT W2 SS, t.w.cell? ⟨bp, op + k, none⟩ = some (.int .u64 gx) := fun t => (HSU.out _ t.s).2.2.2.2.2.2.2.2.2.2
        have HBL : Hid (∀ t : QT W2 SS, Below w.heap.size w t.w) := hid (fun t => HS2.out.bel.trans (t.b.mono HS2.out.bel.size))
        have HKS : Hid (∀ (t : QT W2 SS) w', Below t.w.heap.size t.w w' → SS w') := hid (fun t w' hb => HSS.out _ (FitC.next (HSU.out _ t.s) hb))
        repeat (first | go_big_quiet_skip | (go_big_quiet_want; go_big_quiet_op; first | go_big_quiet_on | go_big_quiet_call (first | (go_at_call_of 59 (Value.int .i64 (q : Int)); exact Calls.grown_of (HL1.out _ (HBL.out _)) (HKS.out _)) | (go_at_call 59; exact Calls.grown_of (HL2.out _ (HBL.out _)) (HKS.out _)))))
        refine wpQuiet_nil ?_
        intro _ hw'
        obtain ⟨tq, hw''⟩ := hw'
        subst hw''
        have HSq : Hid (StFo w tq.w B B2 (.slice (some ⟨br, orr, none⟩) (n + 1) cr) (.slice (some ⟨bp, op, none⟩) n cp) (.int .u64 v) (.slice (some ⟨bq, oq, none⟩) n pc) (.slice (some ⟨bt, ot, none⟩) n tc)) := hid (HS2.out.next tq.b)
        have FCq := hid (HSU.out _ tq.s)
        clear hc0 hc1 hc2 hc3 hc4 hc5 hc6 hc7 hc8 hc9 hca HBL HKS
        obtain ⟨wq, hwq⟩ : ∃ wq, tq.w = wq := ⟨_, rfl⟩
        rw [hwq] at HSq FCq ⊢
        clear hwq
        clear tq
        clear this
        go_wp2_with fail
        go_ret
        exact ⟨ret_bool (allB_no hlt (HF1.out (by first | rfl | trivial))).symm, HSq.out.bel⟩
      | true =>
        cases r2 with
        | false =>
          refine wp_region_grown SS (by kernel_rfl) (by kernel_rfl) (HSS.out _ ((FC.out) : (FitC B B2 B3 bt (ot + k * 2) br (orr + k) bp (op + k) (.slice (some ⟨br, orr, none⟩) (n + 1) cr) (.slice (some ⟨bp, op, none⟩) n cp) (.int .u64 v) (.slice (some ⟨bq, oq, none⟩) n pc) (.slice (some ⟨bt, ot, none⟩) n tc) (.int .u64 x0) (.int .u64 x1) (.slice a0 m q0) (.slice a1 m q1) (.int .u64 y) (.int .u64 gx)) _)) ?_
          haveI : Nonempty (QT W2 SS) := QT.ne (HSS.out _ ((FC.out) : (FitC B B2 B3 bt (ot + k * 2) br (orr + k) bp (op + k) (.slice (some ⟨br, orr, none⟩) (n + 1) cr) (.slice (some ⟨bp, op, none⟩) n cp) (.int .u64 v) (.slice (some ⟨bq, oq, none⟩) n pc) (.slice (some ⟨bt, ot, none⟩) n tc) (.int .u64 x0) (.int .u64 x1) (.slice a0 m q0) (.slice a1 m q1) (.int .u64 y) (.int .u64 gx)) _))
          have hc0 : ∀ t : QT W2 SS, t.w.cell? ⟨B, 0, none⟩ = some (.slice (some ⟨br, orr, none⟩) (n + 1) cr) := fun t => (HSU.out _ t.s).1
          have hc1 : ∀ t : QT W2 SS, t.w.cell? ⟨B, 1, none⟩ = some (.slice (some ⟨bp, op, none⟩) n cp) := fun t => (HSU.out _ t.s).2.1
          have hc2 : ∀ t : QT W2 SS, t.w.cell? ⟨B, 2, none⟩ = some (.int .u64 v) := fun t => (HSU.out _ t.s).2.2.1
          have hc3 : ∀ t : QT W2 SS, t.w.cell? ⟨B2, 0, none⟩ = some (.slice (some ⟨bq, oq, none⟩) n pc) := fun t => (HSU.out _ t.s).2.2.2.1
          have hc4 : ∀ t : QT W2 SS, t.w.cell? ⟨B2, 1, none⟩ = some (.slice (some ⟨bt, ot, none⟩) n tc) := fun t => (HSU.out _ t.s).2.2.2.2.1
          have hc5 : ∀ t : QT W2 SS, t.w.cell? ⟨B3, 0, none⟩ = some (.int .u64 x0) := fun t => (HSU.out _ t.s).2.2.2.2.2.1
          have hc6 : ∀ t : QT W2 SS, t.w.cell? ⟨B3, 1, none⟩ = some (.int .u64 x1) := fun t => (HSU.out _ t.s).2.2.2.2.2.2.1
          have hc7 : ∀ t : QT W2 SS, t.w.cell? ⟨bt, ot + k * 2, none⟩ = some (.slice a0 m q0) := fun t => (HSU.out _ t.s).2.2.2.2.2.2.2.1
          have hc8 : ∀ t : QT W2 SS, t.w.cell? ⟨bt, ot + k * 2 + 1, none⟩ = some (.slice a1 m q1) := fun t => (HSU.out _ t.s).2.2.2.2.2.2.2.2.1
          have hc9 : ∀ t : QT W2 SS, t.w.cell? ⟨br, orr + k, none⟩ = some (.int .u64 y) := fun t => (HSU.out _ t.s).2.2.2.2.2.2.2.2.2.1
          have hca : ∀ t : QT W2 SS, t.w.cell? ⟨bp, op + k, none⟩ = some (.int .u64 gx) := fun t => (HSU.out _ t.s).2.2.2.2.2.2.2.2.2.2
          have HBL : Hid (∀ t : QT W2 SS, Below w.heap.size w t.w) := hid (fun t => HS2.out.bel.trans (t.b.mono HS2.out.bel.size))
          have HKS : Hid (∀ (t : QT W2 SS) w', Below t.w.heap.size t.w w' → SS w') := hid (fun t w' hb => HSS.out _ (FitC.next (HSU.out _ t.s) hb))
          repeat (first | go_big_quiet_skip | (go_big_quiet_want; go_big_quiet_op; first | go_big_quiet_on | go_big_quiet_call (first | (go_at_call_of 59 (Value.int .i64 (q : Int)); exact Calls.grown_of (HL1.out _ (HBL.out _)) (HKS.out _)) | (go_at_call 59; exact Calls.grown_of (HL2.out _ (HBL.out _)) (HKS.out _)))))
          refine wpQuiet_nil ?_
          intro _ hw'
          obtain ⟨tq, hw''⟩ := hw'
          subst hw''
          have HSq : Hid (StFo w tq.w B B2 (.slice (some ⟨br, orr, none⟩) (n + 1) cr) (.slice (some ⟨bp, op, none⟩) n cp) (.int .u64 v) (.slice (some ⟨bq, oq, none⟩) n pc) (.slice (some ⟨bt, ot, none⟩) n tc)) := hid (HS2.out.next tq.b)
          have FCq := hid (HSU.out _ tq.s)
          clear hc0 hc1 hc2 hc3 hc4 hc5 hc6 hc7 hc8 hc9 hca HBL HKS
          obtain ⟨wq, hwq⟩ : ∃ wq, tq.w = wq := ⟨_, rfl⟩
          rw [hwq] at HSq FCq ⊢
          clear hwq
          clear tq
          clear this
          go_wp2_with fail
          go_ret
          exact ⟨ret_bool (allB_no hlt (HF2.out (by first | rfl | trivial))).symm, HSq.out.bel⟩
        | true =>
          refine wp_region_grown SS (by kernel_rfl) (by kernel_rfl) (HSS.out _ ((FC.out) : (FitC B B2 B3 bt (ot + k * 2) br (orr + k) bp (op + k) (.slice (some ⟨br, orr, none⟩) (n + 1) cr) (.slice (some ⟨bp, op, none⟩) n cp) (.int .u64 v) (.slice (some ⟨bq, oq, none⟩) n pc) (.slice (some ⟨bt, ot, none⟩) n tc) (.int .u64 x0) (.int .u64 x1) (.slice a0 m q0) (.slice a1 m q1) (.int .u64 y) (.int .u64 gx)) _)) ?_
          haveI : Nonempty (QT W2 SS) := QT.ne (HSS.out _ ((FC.out) : (FitC B B2 B3 bt (ot + k * 2) br (orr + k) bp (op + k) (.slice (some ⟨br, orr, none⟩) (n + 1) cr) (.slice (some ⟨bp, op, none⟩) n cp) (.int .u64 v) (.slice (some ⟨bq, oq, none⟩) n pc) (.slice (some ⟨bt, ot, none⟩) n tc) (.int .u64 x0) (.int .u64 x1) (.slice a0 m q0) (.slice a1 m q1) (.int .u64 y) (.int .u64 gx)) _))
          have hc0 : ∀ t : QT W2 SS, t.w.cell? ⟨B, 0, none⟩ = some (.slice (some ⟨br, orr, none⟩) (n + 1) cr) := fun t => (HSU.out _ t.s).1
          have hc1 : ∀ t : QT W2 SS, t.w.cell? ⟨B, 1, none⟩ = some (.slice (some ⟨bp, op, none⟩) n cp) := fun t => (HSU.out _ t.s).2.1
          have hc2 : ∀ t : QT W2 SS, t.w.cell? ⟨B, 2, none⟩ = some (.int .u64 v) := fun t => (HSU.out _ t.s).2.2.1
          have hc3 : ∀ t : QT W2 SS, t.w.cell? ⟨B2, 0, none⟩ = some (.slice (some ⟨bq, oq, none⟩) n pc) := fun t => (HSU.out _ t.s).2.2.2.1
          have hc4 : ∀ t : QT W2 SS, t.w.cell? ⟨B2, 1, none⟩ = some (.slice (some ⟨bt, ot, none⟩) n tc) := fun t => (HSU.out _ t.s).2.2.2.2.1
          have hc5 : ∀ t : QT W2 SS, t.w.cell? ⟨B3, 0, none⟩ = some (.int .u64 x0) := fun t => (HSU.out _ t.s).2.2.2.2.2.1
          have hc6 : ∀ t : QT W2 SS, t.w.cell? ⟨B3, 1, none⟩ = some (.int .u64 x1) := fun t => (HSU.out _ t.s).2.2.2.2.2.2.1
          have hc7 : ∀ t : QT W2 SS, t.w.cell? ⟨bt, ot + k * 2, none⟩ = some (.slice a0 m q0) := fun t => (HSU.out _ t.s).2.2.2.2.2.2.2.1
          have hc8 : ∀ t : QT W2 SS, t.w.cell? ⟨bt, ot + k * 2 + 1, none⟩ = some (.slice a1 m q1) := fun t => (HSU.out _ t.s).2.2.2.2.2.2.2.2.1
          have hc9 : ∀ t : QT W2 SS, t.w.cell? ⟨br, orr + k, none⟩ = some (.int .u64 y) := fun t => (HSU.out _ t.s).2.2.2.2.2.2.2.2.2.1
          have hca : ∀ t : QT W2 SS, t.w.cell? ⟨bp, op + k, none⟩ = some (.int .u64 gx) := fun t => (HSU.out _ t.s).2.2.2.2.2.2.2.2.2.2
          have HBL : Hid (∀ t : QT W2 SS, Below w.heap.size w t.w) := hid (fun t => HS2.out.bel.trans (t.b.mono HS2.out.bel.size))
          have HKS : Hid (∀ (t : QT W2 SS) w', Below t.w.heap.size t.w w' → SS w') := hid (fun t w' hb => HSS.out _ (FitC.next (HSU.out _ t.s) hb))
          repeat (first | go_big_quiet_skip | (go_big_quiet_want; go_big_quiet_op; first | go_big_quiet_on | go_big_quiet_call (first | (go_at_call_of 59 (Value.int .i64 (q : Int)); exact Calls.grown_of (HL1.out _ (HBL.out _)) (HKS.out _)) | (go_at_call 59; exact Calls.grown_of (HL2.out _ (HBL.out _)) (HKS.out _)))))
          refine wpQuiet_nil ?_
          intro _ hw'
          obtain ⟨tq, hw''⟩ := hw'
          subst hw''
          have HSq : Hid (StFo w tq.w B B2 (.slice (some ⟨br, orr, none⟩) (n + 1) cr) (.slice (some ⟨bp, op, none⟩) n cp) (.int .u64 v) (.slice (some ⟨bq, oq, none⟩) n pc) (.slice (some ⟨bt, ot, none⟩) n tc)) := hid (HS2.out.next tq.b)
          have FCq := hid (HSU.out _ tq.s)
          clear hc0 hc1 hc2 hc3 hc4 hc5 hc6 hc7 hc8 hc9 hca HBL HKS
          obtain ⟨wq, hwq⟩ : ∃ wq, tq.w = wq := ⟨_, rfl⟩
          rw [hwq] at HSq FCq ⊢
          clear hwq
          clear tq
          clear this
          clear HS2 FC HL1 HL2 HF1 HF2
          have HSp := HSq
          have FCp := FCq
          obtain ⟨wp, hwp⟩ : ∃ wp, wq = wp := ⟨_, rfl⟩
          rw [hwp] at HSp FCp ⊢
          clear HSq FCq hwp
          clear wq
          go_wp2_with fail
          cases r3 with
          | false =>
            have hr4' : (bv != nrm nv) = true := hr4
            clear hr4
            refine wp_region_grown SS (by kernel_rfl) (by kernel_rfl) (HSS.out _ ((FCp.out) : (FitC B B2 B3 bt (ot + k * 2) br (orr + k) bp (op + k) (.slice (some ⟨br, orr, none⟩) (n + 1) cr) (.slice (some ⟨bp, op, none⟩) n cp) (.int .u64 v) (.slice (some ⟨bq, oq, none⟩) n pc) (.slice (some ⟨bt, ot, none⟩) n tc) (.int .u64 x0) (.int .u64 x1) (.slice a0 m q0) (.slice a1 m q1) (.int .u64 y) (.int .u64 gx)) _)) ?_
            haveI : Nonempty (QT wp SS) := QT.ne (HSS.out _ ((FCp.out) : (FitC B B2 B3 bt (ot + k * 2) br (orr + k) bp (op + k) (.slice (some ⟨br, orr, none⟩) (n + 1) cr) (.slice (some ⟨bp, op, none⟩) n cp) (.int .u64 v) (.slice (some ⟨bq, oq, none⟩) n pc) (.slice (some ⟨bt, ot, none⟩) n tc) (.int .u64 x0) (.int .u64 x1) (.slice a0 m q0) (.slice a1 m q1) (.int .u64 y) (.int .u64 gx)) _))
            have hc0 : ∀ t : QT wp SS, t.w.cell? ⟨B, 0, none⟩ = some (.slice (some ⟨br, orr, none⟩) (n + 1) cr) := fun t => (HSU.out _ t.s).1
            have hc1 : ∀ t : QT wp SS, t.w.cell? ⟨B, 1, none⟩ = some (.slice (some ⟨bp, op, none⟩) n cp) := fun t => (HSU.out _ t.s).2.1
            have hc2 : ∀ t : QT wp SS, t.w.cell? ⟨B, 2, none⟩ = some (.int .u64 v) := fun t => (HSU.out _ t.s).2.2.1
            have hc3 : ∀ t : QT wp SS, t.w.cell? ⟨B2, 0, none⟩ = some (.slice (some ⟨bq, oq, none⟩) n pc) := fun t => (HSU.out _ t.s).2.2.2.1
            have hc4 : ∀ t : QT wp SS, t.w.cell? ⟨B2, 1, none⟩ = some (.slice (some ⟨bt, ot, none⟩) n tc) := fun t => (HSU.out _ t.s).2.2.2.2.1
            have hc5 : ∀ t : QT wp SS, t.w.cell? ⟨B3, 0, none⟩ = some (.int .u64 x0) := fun t => (HSU.out _ t.s).2.2.2.2.2.1
            have hc6 : ∀ t : QT wp SS, t.w.cell? ⟨B3, 1, none⟩ = some (.int .u64 x1) := fun t => (HSU.out _ t.s).2.2.2.2.2.2.1
            have hc7 : ∀ t : QT wp SS, t.w.cell? ⟨bt, ot + k * 2, none⟩ = some (.slice a0 m q0) := fun t => (HSU.out _ t.s).2.2.2.2.2.2.2.1
            have hc8 : ∀ t : QT wp SS, t.w.cell? ⟨bt, ot + k * 2 + 1, none⟩ = some (.slice a1 m q1) := fun t => (HSU.out _ t.s).2.2.2.2.2.2.2.2.1
            have hc9 : ∀ t : QT wp SS, t.w.cell? ⟨br, orr + k, none⟩ = some (.int .u64 y) := fun t => (HSU.out _ t.s).2.2.2.2.2.2.2.2.2.1
            have hca : ∀ t : QT wp SS, t.w.cell? ⟨bp, op + k, none⟩ = some (.int .u64 gx) := fun t => (HSU.out _ t.s).2.2.2.2.2.2.2.2.2.2
            have HBL : Hid (∀ t : QT wp SS, Below w.heap.size w t.w) := hid (fun t => HSp.out.bel.trans (t.b.mono HSp.out.bel.size))
            have HKS : Hid (∀ (t : QT wp SS) w', Below t.w.heap.size t.w w' → SS w') := hid (fun t w' hb => HSS.out _ (FitC.next (HSU.out _ t.s) hb))
            repeat (first | go_big_quiet_skip | (go_big_quiet_want; go_big_quiet_op; first | go_big_quiet_on | go_big_quiet_call (first | (go_at_call 78; exact Calls.grown_of (HBT.out _) (HKS.out _)) | (go_at_call 79; exact Calls.grown_of (HNX.out _ (HBL.out _)) (HKS.out _)) | (go_at_call 16; exact Calls.grown_same (HNM.out _)))))
            refine wpQuiet_nil ?_
            intro _ hw'
            obtain ⟨tq, hw''⟩ := hw'
            subst hw''
            have HSq : Hid (StFo w tq.w B B2 (.slice (some ⟨br, orr, none⟩) (n + 1) cr) (.slice (some ⟨bp, op, none⟩) n cp) (.int .u64 v) (.slice (some ⟨bq, oq, none⟩) n pc) (.slice (some ⟨bt, ot, none⟩) n tc)) := hid (HSp.out.next tq.b)
            have FCq := hid (HSU.out _ tq.s)
            clear hc0 hc1 hc2 hc3 hc4 hc5 hc6 hc7 hc8 hc9 hca HBL HKS
            obtain ⟨wq, hwq⟩ : ∃ wq, tq.w = wq := ⟨_, rfl⟩
            rw [hwq] at HSq FCq ⊢
            clear hwq
            clear tq
            clear this
            go_wp2_with fail
            go_ret
            exact ⟨ret_bool (allB_no hlt (HF3.out (by first | rfl | trivial))).symm, HSq.out.bel⟩
          | true =>
            have hr4' : (bv != nrm nv) = false := hr4
            clear hr4
            refine wp_region_grown SS (by kernel_rfl) (by kernel_rfl) (HSS.out _ ((FCp.out) : (FitC B B2 B3 bt (ot + k * 2) br (orr + k) bp (op + k) (.slice (some ⟨br, orr, none⟩) (n + 1) cr) (.slice (some ⟨bp, op, none⟩) n cp) (.int .u64 v) (.slice (some ⟨bq, oq, none⟩) n pc) (.slice (some ⟨bt, ot, none⟩) n tc) (.int .u64 x0) (.int .u64 x1) (.slice a0 m q0) (.slice a1 m q1) (.int .u64 y) (.int .u64 gx)) _)) ?_
            haveI : Nonempty (QT wp SS) := QT.ne (HSS.out _ ((FCp.out) : (FitC B B2 B3 bt (ot + k * 2) br (orr + k) bp (op + k) (.slice (some ⟨br, orr, none⟩) (n + 1) cr) (.slice (some ⟨bp, op, none⟩) n cp) (.int .u64 v) (.slice (some ⟨bq, oq, none⟩) n pc) (.slice (some ⟨bt, ot, none⟩) n tc) (.int .u64 x0) (.int .u64 x1) (.slice a0 m q0) (.slice a1 m q1) (.int .u64 y) (.int .u64 gx)) _))
            have hc0 : ∀ t : QT wp SS, t.w.cell? ⟨B, 0, none⟩ = some (.slice (some ⟨br, orr, none⟩) (n + 1) cr) := fun t => (HSU.out _ t.s).1
            have hc1 : ∀ t : QT wp SS, t.w.cell? ⟨B, 1, none⟩ = some (.slice (some ⟨bp, op, none⟩) n cp) := fun t => (HSU.out _ t.s).2.1
            have hc2 : ∀ t : QT wp SS, t.w.cell? ⟨B, 2, none⟩ = some (.int .u64 v) := fun t => (HSU.out _ t.s).2.2.1
            have hc3 : ∀ t : QT wp SS, t.w.cell? ⟨B2, 0, none⟩ = some (.slice (some ⟨bq, oq, none⟩) n pc) := fun t => (HSU.out _ t.s).2.2.2.1
            have hc4 : ∀ t : QT wp SS, t.w.cell? ⟨B2, 1, none⟩ = some (.slice (some ⟨bt, ot, none⟩) n tc) := fun t => (HSU.out _ t.s).2.2.2.2.1
            have hc5 : ∀ t : QT wp SS, t.w.cell? ⟨B3, 0, none⟩ = some (.int .u64 x0) := fun t => (HSU.out _ t.s).2.2.2.2.2.1
            have hc6 : ∀ t : QT wp SS, t.w.cell? ⟨B3, 1, none⟩ = some (.int .u64 x1) := fun t => (HSU.out _ t.s).2.2.2.2.2.2.1
            have hc7 : ∀ t : QT wp SS, t.w.cell? ⟨bt, ot + k * 2, none⟩ = some (.slice a0 m q0) := fun t => (HSU.out _ t.s).2.2.2.2.2.2.2.1
            have hc8 : ∀ t : QT wp SS, t.w.cell? ⟨bt, ot + k * 2 + 1, none⟩ = some (.slice a1 m q1) := fun t => (HSU.out _ t.s).2.2.2.2.2.2.2.2.1
            have hc9 : ∀ t : QT wp SS, t.w.cell? ⟨br, orr + k, none⟩ = some (.int .u64 y) := fun t => (HSU.out _ t.s).2.2.2.2.2.2.2.2.2.1
            have hca : ∀ t : QT wp SS, t.w.cell? ⟨bp, op + k, none⟩ = some (.int .u64 gx) := fun t => (HSU.out _ t.s).2.2.2.2.2.2.2.2.2.2
            have HBL : Hid (∀ t : QT wp SS, Below w.heap.size w t.w) := hid (fun t => HSp.out.bel.trans (t.b.mono HSp.out.bel.size))
            have HKS : Hid (∀ (t : QT wp SS) w', Below t.w.heap.size t.w w' → SS w') := hid (fun t w' hb => HSS.out _ (FitC.next (HSU.out _ t.s) hb))
            repeat (first | go_big_quiet_skip | (go_big_quiet_want; go_big_quiet_op; first | go_big_quiet_on | go_big_quiet_call (first | (go_at_call 78; exact Calls.grown_of (HBT.out _) (HKS.out _)) | (go_at_call 79; exact Calls.grown_of (HNX.out _ (HBL.out _)) (HKS.out _)) | (go_at_call 16; exact Calls.grown_same (HNM.out _)))))
            refine wpQuiet_nil ?_
            intro _ hw'
            obtain ⟨tq, hw''⟩ := hw'
            subst hw''
            have HSq : Hid (StFo w tq.w B B2 (.slice (some ⟨br, orr, none⟩) (n + 1) cr) (.slice (some ⟨bp, op, none⟩) n cp) (.int .u64 v) (.slice (some ⟨bq, oq, none⟩) n pc) (.slice (some ⟨bt, ot, none⟩) n tc)) := hid (HSp.out.next tq.b)
            have FCq := hid (HSU.out _ tq.s)
            clear hc0 hc1 hc2 hc3 hc4 hc5 hc6 hc7 hc8 hc9 hca HBL HKS
            obtain ⟨wq, hwq⟩ : ∃ wq, tq.w = wq := ⟨_, rfl⟩
            rw [hwq] at HSq FCq ⊢
            clear hwq
            clear tq
            clear this
            have HK2 : Hid (∀ j, j < k + 1 → fitB n rt g v P T p j = true) := hid (fun j hj => by
              by_cases e : j = k
              · rw [e]; exact HF4.out (by first | rfl | trivial) (by first | rfl | trivial) (by first | rfl | trivial)
              · exact HK.out j (by omega))
            clear HK
            go_wp2_with fail
            go_roundg (n - (k + 1))
            case measure => go_light; omega
            case rel => exact ⟨k + 1, by omega, rfl, by go_num, HK2, HSq⟩
    · have e : k = n := by omega
      subst e
      go_wp2_with fail
      go_ret
      exact ⟨ret_bool (allB_iff.2 HK.out).symm, HS.out.bel⟩

end Go.Proofs.YtnnjajmkfgnhcaaDoor
