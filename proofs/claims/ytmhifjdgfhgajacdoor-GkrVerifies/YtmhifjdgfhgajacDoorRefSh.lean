/-
  A contract of tallyref's Shaped, for every proof and right circuits; it makes new blocks and writes nothing that was there.
-/
import Derived.Test.YtmhifjdgfhgajacDoorGkrQ
import Derived.Test.YtmhifjdgfhgajacDoorRefC2
import Derived.Test.YtmhifjdgfhgajacDoorWirC
import Derived.Deep.RegionHeld3
import Derived.Test.YtmhifjdgfhgajacDoorPrf
namespace Go.Proofs.YtmhifjdgfhgajacDoor
open Go.RowKit
set_option linter.unusedVariables false
attribute [local go_sem ↓] Go.wp_at_zero Go.wp_at_succ

/-- What holds of the world all along: the circuit's box, the proof's box, and that nothing was written. -/
structure StP (w W : World) (B : Nat) (g : Int) (v : Value) (Bp : Nat) (vp : Value) : Prop where
  st : StW w W B g v
  pc : W.cell? ⟨Bp, 0, none⟩ = some vp
theorem StP.next {w W W' : World} {B : Nat} {g : Int} {v : Value} {Bp : Nat} {vp : Value} (h : StP w W B g v Bp vp) (hb : Below W.heap.size W W') : StP w W' B g v Bp vp := ⟨h.st.next hb, (hb.cell (World.block_lt_of_cell? W _ h.pc)).trans h.pc⟩
theorem StP.start (w : World) (g : Int) (v vp : Value) (t t' : TypeId) : StP w ((w.alloc (.cells #[.int .i64 g, v] t)).alloc (.cells #[vp] t')) w.heap.size g v (w.heap.size + 1) vp := by
  have h1 := StW.start w g v t
  have hal := (Below.refl (w.alloc (.cells #[.int .i64 g, v] t)).heap.size (w.alloc (.cells #[.int .i64 g, v] t))).alloc (Nat.le_refl _) (.cells #[vp] t')
  refine ⟨h1.next hal, ?_⟩
  have e : (w.alloc (.cells #[.int .i64 g, v] t)).heap.size = w.heap.size + 1 := by simp
  rw [← e, World.cell?_alloc_new]; rfl
/-- Part j is as it must be. -/
def partOk (c : CQ) (p : PQ) (j : Nat) : Prop := p.rn j = 2 * (partsQ c).lg (j + 1) ∧ p.ln j = (partsQ c).lg (j + 1) + 1 ∧ ∀ i, i < p.rn j → p.rl j i = 3
theorem lg_next {c : CQ} {n t i bk : Nat} (hn : c.layers.length = n) (hi : i + t + 1 = n) (hb : belowQ c i = (bk : Int)) : (partsQ c).lg (t + 1) = bk := by
  show (belowQ c (c.layers.length - (t + 1))).toNat = bk
  rw [hn, show n - (t + 1) = i from by omega, hb, Int.toNat_natCast]

set_option maxHeartbeats 4000000 in
set_option maxRecDepth 100000 in
theorem rshaped_any (c : CQ) (g : Int) (b off n cap : Nat) (A : Nat → Option Addr) (C : Nat → Nat) (ap : Option Addr) (np cp : Nat) (p : PQ) (m : PM) (w : World) (hg : c.log = g) (hn : c.layers.length = n) (hr : CRow w (some ⟨b, off, none⟩) c.layers A C) (hc : c.right) (hp : p.n = np) (hpr : PfRow w ap p m) :
    Calls Tryd.prog 14 #[.agg #[.int .i64 g, .slice (some ⟨b, off, none⟩) n cap], .agg #[.slice ap np cp]] w fun e w' => ∃ r : Bool, e = .returned (.bool r) ∧ (r = true ↔ shapedQ c p) ∧ Below w.heap.size w w' := by
  have n4 : n ≤ 4 := by have := hc.few; omega
  have HR := hid hr
  have HG := hid hg
  have HN := hid hn
  have HC := hid hc
  have HP := hid hp
  have HPR := hid hpr
  have HS0 := hid (StP.start w g (.slice (some ⟨b, off, none⟩) n cap) (.slice ap np cp) 24 33)
  clear hr hg hn hc hp hpr
  by_cases hnp : np = n
  · subst hnp
    have e1 : ((np : Int) != (np : Int)) = false := by simp
    go_enter Tryd.func14, Tryd.ntmps14
    go_wp2_with fail
    obtain ⟨B, hB⟩ : ∃ B, w.heap.size = B := ⟨_, rfl⟩
    have HS1 : Hid (StP w ((w.alloc (.cells #[.int .i64 g, .slice (some ⟨b, off, none⟩) np cap] 24)).alloc (.cells #[.slice ap np cp] 33)) B g (.slice (some ⟨b, off, none⟩) np cap) (B + 1) (.slice ap np cp)) := hid (by rw [← hB]; exact HS0.out)
    rw [hB]
    clear hB HS0
    generalize (w.alloc (.cells #[.int .i64 g, .slice (some ⟨b, off, none⟩) np cap] 24)).alloc (.cells #[.slice ap np cp] 33) = W1 at HS1 ⊢
    go_loopg [5] np (fun q i wr => ∃ t : Nat, t ≤ np ∧ q = np - t ∧ i = .int .i64 (t : Int) ∧ Hid (∀ j, j < t → partOk c p j) ∧ Hid (StP w wr B g (.slice (some ⟨b, off, none⟩) np cap) (B + 1) (.slice ap np cp)))
    case atStart => exact ⟨0, by omega, rfl, rfl, hid (fun j hj => absurd hj (by omega)), HS1⟩
    case round =>
      clear HS1
      obtain ⟨t, ht, rfl, rfl, HOK, HS⟩ := hrel
      obtain ⟨z0, z1, zl⟩ := HS.out.st.box
      have zp := HS.out.pc
      by_cases htl : t < np
      · obtain ⟨i, hi⟩ : ∃ i : Nat, i + t + 1 = np := ⟨np - 1 - t, by omega⟩
        obtain ⟨bk, hbk, bk4⟩ := belowQ_rng HC.out i
        have HLG := hid (lg_next HN.out hi hbk)
        have HBE : Hid (∀ W, Below w.heap.size w W → Calls Tryd.prog 22 #[.agg #[.int .i64 g, .slice (some ⟨b, off, none⟩) np cap], .int .i64 (i : Int)] W fun e w' => e = .returned (.int .i64 (bk : Int)) ∧ Below W.heap.size W w') := hid (fun W h => by rw [← hbk]; exact rbelow_any c g b off np cap i A C W HG.out HN.out n4 (by omega) (HR.out.kept h))
        have hni : (np : Int) - 1 - (t : Int) = (i : Int) := by omega
        have t1 : (t : Int) < (np : Int) := by omega
        have t0 : (0 : Int) ≤ (t : Int) := by omega
        clear hbk hi
        go_wp2_with fail
        refine (HBE.out _ HS.out.st.bel).mono ?_
        rintro e w2 ⟨rfl, hb⟩
        have HS2 := hid (HS.out.next hb)
        clear hb HS z0 z1 zl zp hni HBE
        obtain ⟨z0, z1, zl⟩ := HS2.out.st.box
        have zp := HS2.out.pc
        obtain ⟨pb, po, rfl, hcl⟩ := HPR.out.kept HS2.out.st.bel (by rw [HP.out]; omega)
        obtain ⟨y0, y1, y2, _⟩ := hcl t (by rw [HP.out]; exact htl)
        rw [Nat.mul_comm 2 t] at y0 y1
        obtain ⟨ra, hra⟩ : ∃ x, m.ra t = x := ⟨_, rfl⟩
        obtain ⟨rn, hrn⟩ : ∃ x, p.rn t = x := ⟨_, rfl⟩
        obtain ⟨rc, hrc⟩ : ∃ x, m.rc t = x := ⟨_, rfl⟩
        obtain ⟨la, hla⟩ : ∃ x, m.la t = x := ⟨_, rfl⟩
        obtain ⟨ln, hln⟩ : ∃ x, p.ln t = x := ⟨_, rfl⟩
        obtain ⟨lc, hlc⟩ : ∃ x, m.lc t = x := ⟨_, rfl⟩
        rw [hra, hrn, hrc] at y0
        rw [hla, hln, hlc] at y1
        rw [hra, hrn] at y2
        have HLR := hid y2
        have HRN := hid hrn
        have HLN := hid hln
        clear hcl y2 hra hrn hrc hla hln hlc
        by_cases hr1 : rn = 2 * bk
        · have e2 : ((rn : Int) != 2 * (bk : Int)) = false := neq_of (by omega)
          by_cases hl1 : ln = bk + 1
          · have e3 : ((ln : Int) != (bk : Int) + 1) = false := neq_of (by omega)
            have HRL := hid (And.intro hr1 hl1)
            go_wp2_with fail
            clear e2 e3
            go_loopg [7] rn (fun q i wx => ∃ u : Nat, u ≤ rn ∧ q = rn - u ∧ i = .int .i64 (u : Int) ∧ wx = w2 ∧ Hid (∀ i, i < u → p.rl t i = 3))
            case atStart => exact ⟨0, by omega, rfl, rfl, rfl, hid (fun i hi => absurd hi (by omega))⟩
            case round =>
              obtain ⟨u, hu, rfl, rfl, hwx, HU⟩ := hrel
              subst hwx
              by_cases hul : u < rn
              · obtain ⟨rb, ro, rfl, hrl⟩ := HLR.out (by omega)
                have x0 := (hrl u hul).1
                obtain ⟨q1, hq1⟩ : ∃ x, m.A t u = x := ⟨_, rfl⟩
                obtain ⟨q2, hq2⟩ : ∃ x, p.rl t u = x := ⟨_, rfl⟩
                obtain ⟨q3, hq3⟩ : ∃ x, m.C t u = x := ⟨_, rfl⟩
                rw [hq1, hq2, hq3] at x0
                have HQ2 := hid hq2
                clear hrl hq1 hq2 hq3
                have u0 : (0 : Int) ≤ (u : Int) := by omega
                have u1 : (u : Int) < (rn : Int) := by omega
                have u2 : (u : Int) < 2 * (bk : Int) := by omega
                by_cases h3 : q2 = 3
                · have e4 : ((q2 : Int) != 3) = false := by rw [h3]; rfl
                  have HUN : Hid (∀ i, i < u + 1 → p.rl t i = 3) := hid (fun i hi => by
                    by_cases e : i = u
                    · rw [e, HQ2.out]; exact h3
                    · exact HU.out i (by omega))
                  go_wp2_with fail
                  go_roundg (rn - (u + 1))
                  case measure => go_light; omega
                  case rel => exact ⟨u + 1, by omega, rfl, by go_num, rfl, HUN⟩
                · have e4 : ((q2 : Int) != 3) = true := by simp; omega
                  have HNO : Hid (¬ shapedQ c p) := hid (fun h => h3 (by have := (h.2 t (by rw [HP.out]; exact htl)).2.2 u (by rw [HRN.out]; exact hul); rw [HQ2.out] at this; exact this))
                  go_wp2_with fail
                  go_ret
                  exact ⟨false, rfl, ⟨fun h => absurd h Bool.false_ne_true, fun h => absurd h HNO.out⟩, HS2.out.st.bel⟩
              · have u2 : ¬ ((u : Int) < 2 * (bk : Int)) := by omega
                have HOKN : Hid (∀ j, j < t + 1 → partOk c p j) := hid (fun j hj => by
                  by_cases e : j = t
                  · rw [e]
                    exact ⟨by rw [HRN.out, HLG.out]; exact HRL.out.1, by rw [HLN.out, HLG.out]; exact HRL.out.2, fun i hi => HU.out i (by rw [HRN.out] at hi; omega)⟩
                  · exact HOK.out j (by omega))
                go_wp2_with fail
                go_roundg (np - (t + 1))
                case measure => go_light; omega
                case rel => exact ⟨t + 1, by omega, rfl, by go_num, HOKN, HS2⟩
          · have e3 : ((ln : Int) != (bk : Int) + 1) = true := by simp; omega
            have HNO : Hid (¬ shapedQ c p) := hid (fun h => hl1 (by have := (h.2 t (by rw [HP.out]; exact htl)).2.1; rw [HLN.out, HLG.out] at this; exact this))
            go_wp2_with fail
            go_ret
            exact ⟨false, rfl, ⟨fun h => absurd h Bool.false_ne_true, fun h => absurd h HNO.out⟩, HS2.out.st.bel⟩
        · have e2 : ((rn : Int) != 2 * (bk : Int)) = true := by simp; omega
          have HNO : Hid (¬ shapedQ c p) := hid (fun h => hr1 (by have := (h.2 t (by rw [HP.out]; exact htl)).1; rw [HRN.out, HLG.out] at this; exact this))
          go_wp2_with fail
          go_ret
          exact ⟨false, rfl, ⟨fun h => absurd h Bool.false_ne_true, fun h => absurd h HNO.out⟩, HS2.out.st.bel⟩
      · have e : t = np := by omega
        subst e
        have HYES : Hid (shapedQ c p) := hid ⟨by rw [HP.out, HN.out], fun j hj => HOK.out j (by rw [HP.out] at hj; exact hj)⟩
        go_wp2_with fail
        go_ret
        exact ⟨true, rfl, ⟨fun _ => HYES.out, fun _ => rfl⟩, HS.out.st.bel⟩
  · have e1 : ((np : Int) != (n : Int)) = true := by simp; omega
    have HNO : Hid (¬ shapedQ c p) := hid (fun h => hnp (by rw [← HP.out, h.1, HN.out]))
    go_enter Tryd.func14, Tryd.ntmps14
    go_wp2_with fail
    go_ret
    exact ⟨false, rfl, ⟨fun h => absurd h Bool.false_ne_true, fun h => absurd h HNO.out⟩, HS0.out.st.bel⟩

end Go.Proofs.YtmhifjdgfhgajacDoor
