/-
  A contract of package open's hasForm, for every opening; it makes new blocks and writes nothing that was there.
-/
import Derived.Test.YtnnjajmkfgnhcaaDoorOpA
namespace Go.Proofs.YtnnjajmkfgnhcaaDoor
open Go.RowKit
set_option linter.unusedVariables false
attribute [local go_sem ↓] Go.wp_at_zero Go.wp_at_succ

/-- What holds of the world all along: the opening's box, its looks, and that nothing was written. -/
structure StO (w W : World) (B : Nat) (p q r : Value) (al : Option Addr) (o : OQ) (mm : OM) : Prop where
  bel : Below w.heap.size w W
  box : Bx3 W B p q r
  row : OpRow W al o mm
theorem StO.next {w W W' : World} {B : Nat} {p q r : Value} {al : Option Addr} {o : OQ} {mm : OM} (h : StO w W B p q r al o mm) (hb : Below W.heap.size W W') : StO w W' B p q r al o mm := ⟨h.bel.trans (hb.mono h.bel.size), h.box.kept hb, h.row.kept hb⟩
/-- Look i is as it must be. -/
def lkOk (o : OQ) (n i : Nat) : Prop := o.np i = n ∧ o.nt i = n ∧ ∀ k, k < n → o.tl i k 0 = n - k ∧ o.tl i k 1 = n - k
def ofmQ (nr n m : Nat) (o : OQ) : Prop := nr = n ∧ o.n = m ∧ o.form n
theorem ofm_no {nr n m i : Nat} {o : OQ} (hi : i < o.n) (h : ¬ lkOk o n i) : (false = true) ↔ ofmQ nr n m o := ⟨fun h => (by cases h), fun h2 => absurd (h2.2.2 i hi) h⟩

set_option maxHeartbeats 4000000 in
set_option maxRecDepth 100000 in
theorem ohasForm_any (ar al : Option Addr) (nr cr N cl n m : Nat) (v : Int) (o : OQ) (mm : OM) (w : World) (hn1 : 1 ≤ n) (hn : n ≤ 8) (hm : m ≤ 1000) (hN : o.n = N) (hr : OpRow w al o mm) :
    Calls Tryd.prog 58 #[.agg #[.slice ar nr cr, .int .u64 v, .slice al N cl], .int .i64 (n : Int), .int .i64 (m : Int)] w fun e w' => ∃ r : Bool, e = .returned (.bool r) ∧ (r = true ↔ ofmQ nr n m o) ∧ Below w.heap.size w w' := by
  have hb0 := bel_new w (.cells #[.slice ar nr cr, .int .u64 v, .slice al N cl] 29)
  have HS0 : Hid (StO w (w.alloc (.cells #[.slice ar nr cr, .int .u64 v, .slice al N cl] 29)) w.heap.size (.slice ar nr cr) (.int .u64 v) (.slice al N cl) al o mm) := hid ⟨hb0, Bx3.new w _ _ _ _, hr.kept hb0⟩
  have HN := hid hN
  clear hb0 hr
  by_cases h1 : nr = n
  · have e1 : ((nr : Int) != (n : Int)) = false := by simp [h1]
    by_cases h2 : N = m
    · have e2 : ((N : Int) != (m : Int)) = false := by simp [h2]
      have H12 := hid (And.intro h1 (hN.trans h2))
      have hN3 : N ≤ 1000 := by omega
      clear h1 h2 hN
      go_enter Tryd.func58, Tryd.ntmps58
      go_wp2_with fail
      obtain ⟨B, hB⟩ : ∃ B, w.heap.size = B := ⟨_, rfl⟩
      have HS1 : Hid (StO w (w.alloc (.cells #[.slice ar nr cr, .int .u64 v, .slice al N cl] 29)) B (.slice ar nr cr) (.int .u64 v) (.slice al N cl) al o mm) := hid (by rw [← hB]; exact HS0.out)
      rw [hB]
      clear hB HS0 e1 e2
      generalize w.alloc (.cells #[.slice ar nr cr, .int .u64 v, .slice al N cl] 29) = W1 at HS1 ⊢
      go_loopg [26] N (fun q x wr => ∃ t : Nat, t ≤ N ∧ q = N - t ∧ x = .int .i64 (t : Int) ∧ Hid (∀ j, j < t → lkOk o n j) ∧ Hid (StO w wr B (.slice ar nr cr) (.int .u64 v) (.slice al N cl) al o mm))
      case atStart => exact ⟨0, by omega, rfl, rfl, hid (fun j hj => absurd hj (by omega)), HS1⟩
      case round =>
        clear HS1
        obtain ⟨t, ht, rfl, rfl, HOK, HS⟩ := hrel
        by_cases htl : t < N
        · obtain ⟨bl, ol, rfl, hrow⟩ := HS.out.row (by rw [HN.out]; omega)
          obtain ⟨c0, c1, hq, hp⟩ := hrow t (by rw [HN.out]; exact htl)
          rw [Nat.mul_comm 2 t] at c0 c1
          have HLK : Hid (o.np t = n → o.nt t = n → (∀ k, k < n → o.tl t k 0 = n - k ∧ o.tl t k 1 = n - k) → lkOk o n t) := hid (fun h1 h2 h3 => ⟨h1, h2, h3⟩)
          have HNO : Hid (¬ lkOk o n t → ((false = true) ↔ ofmQ nr n m o)) := hid (ofm_no (by rw [HN.out]; exact htl))
          have HLO : Hid (lkOk o n t → o.np t = n ∧ o.nt t = n ∧ ∀ k, k < n → o.tl t k 0 = n - k ∧ o.tl t k 1 = n - k) := hid (fun h => h)
          obtain ⟨np, hnp⟩ : ∃ x, o.np t = x := ⟨_, rfl⟩
          obtain ⟨nt, hnt⟩ : ∃ x, o.nt t = x := ⟨_, rfl⟩
          obtain ⟨pa, hpa⟩ : ∃ x, mm.pa t = x := ⟨_, rfl⟩
          obtain ⟨ta, hta⟩ : ∃ x, mm.ta t = x := ⟨_, rfl⟩
          obtain ⟨pc, hpc⟩ : ∃ x, mm.pc t = x := ⟨_, rfl⟩
          obtain ⟨tc, htc⟩ : ∃ x, mm.tc t = x := ⟨_, rfl⟩
          rw [hnp, hpa, hpc] at c0
          rw [hnt, hta, htc] at c1
          rw [hnt, hta] at hp
          rw [hnp, hnt] at HLK HLO
          have HTR := hid hp
          clear hrow hq hp hnp hnt hpa hta hpc htc
          have t0 : (0 : Int) ≤ (t : Int) := by omega
          have t1 : (t : Int) < (N : Int) := by omega
          have hbx := bel_new wr (.cells #[.slice pa np pc, .slice ta nt tc] 72)
          have HS2 := hid (HS.out.next hbx)
          have HT2 := hid (HTR.out.kept hbx)
          clear hbx HS HTR
          by_cases h3 : np = n
          · have e3 : ((np : Int) != (n : Int)) = false := by simp [h3]
            have H3 := hid h3
            clear h3
            by_cases h4 : nt = n
            · have e4 : ((nt : Int) != (n : Int)) = false := by simp [h4]
              have H4 := hid h4
              clear h4
              go_wp2_with fail
              clear e3 e4
              generalize wr.alloc (.cells #[.slice pa np pc, .slice ta nt tc] 72) = W2 at HS2 HT2 ⊢
              go_loopg [45] nt (fun q x ws => ∃ k : Nat, k ≤ nt ∧ q = nt - k ∧ x = .int .i64 (k : Int) ∧ Hid (∀ j, j < k → o.tl t j 0 = n - j ∧ o.tl t j 1 = n - j) ∧ Hid (TRow ws ta nt (mm.A t) (o.tl t) (mm.C t) (o.T t)) ∧ Hid (StO w ws B (.slice ar nr cr) (.int .u64 v) (.slice (some ⟨bl, ol, none⟩) N cl) (some ⟨bl, ol, none⟩) o mm))
              case atStart => exact ⟨0, by omega, rfl, rfl, hid (fun j hj => absurd hj (by omega)), HT2, HS2⟩
              case round =>
                clear HS2 HT2
                obtain ⟨k, hk, rfl, rfl, HK, HT, HS⟩ := hrel
                by_cases hkl : k < nt
                · obtain ⟨bt, ot, rfl, htrow⟩ := HT.out (by omega)
                  obtain ⟨d0, d1, _, _⟩ := htrow k hkl
                  rw [Nat.mul_comm 2 k] at d0 d1
                  obtain ⟨l0, hl0⟩ : ∃ x, o.tl t k 0 = x := ⟨_, rfl⟩
                  obtain ⟨l1, hl1⟩ : ∃ x, o.tl t k 1 = x := ⟨_, rfl⟩
                  obtain ⟨a0, ha0⟩ : ∃ x, mm.A t k 0 = x := ⟨_, rfl⟩
                  obtain ⟨a1, ha1⟩ : ∃ x, mm.A t k 1 = x := ⟨_, rfl⟩
                  obtain ⟨q0, hq0⟩ : ∃ x, mm.C t k 0 = x := ⟨_, rfl⟩
                  obtain ⟨q1, hq1⟩ : ∃ x, mm.C t k 1 = x := ⟨_, rfl⟩
                  rw [hl0, ha0, hq0] at d0
                  rw [hl1, ha1, hq1] at d1
                  have HL01 := hid (And.intro hl0 hl1)
                  clear htrow hl0 hl1 ha0 ha1 hq0 hq1
                  have k0 : (0 : Int) ≤ (k : Int) := by omega
                  have k1 : (k : Int) < (nt : Int) := by omega
                  have hbx := bel_new wr (.cells #[.slice a0 l0 q0, .slice a1 l1 q1] 73)
                  have HS3 := hid (HS.out.next hbx)
                  have HT3 := hid (HT.out.kept hbx)
                  clear hbx HS HT
                  have hkn : k < n := by have := H4.out; omega
                  by_cases h5 : l0 = n - k
                  · have e5 : ((l0 : Int) != (n : Int) - (k : Int)) = false := by rw [bne_eq_false_iff_eq]; omega
                    have H5 := hid h5
                    clear h5
                    by_cases h6 : l1 = n - k
                    · have e6 : ((l1 : Int) != (n : Int) - (k : Int)) = false := by rw [bne_eq_false_iff_eq]; omega
                      have H6 := hid h6
                      clear h6
                      go_wp2_with fail
                      go_roundg (nt - (k + 1))
                      case measure => go_light; omega
                      case rel => exact ⟨k + 1, by omega, rfl, by go_num, hid (fun j hj => by
                        by_cases e : j = k
                        · rw [e, HL01.out.1, HL01.out.2]; exact ⟨H5.out, H6.out⟩
                        · exact HK.out j (by omega)), HT3, HS3⟩
                    · have e6 : ((l1 : Int) != (n : Int) - (k : Int)) = true := by rw [bne_iff_ne]; omega
                      go_wp2_with fail
                      go_ret
                      exact ⟨false, rfl, HNO.out (fun h => h6 (by have := ((HLO.out h).2.2 k hkn).2; rw [HL01.out.2] at this; exact this)), HS3.out.bel⟩
                  · have e5 : ((l0 : Int) != (n : Int) - (k : Int)) = true := by rw [bne_iff_ne]; omega
                    go_wp2_with fail
                    go_ret
                    exact ⟨false, rfl, HNO.out (fun h => h5 (by have := ((HLO.out h).2.2 k hkn).1; rw [HL01.out.1] at this; exact this)), HS3.out.bel⟩
                · have e : k = nt := by omega
                  subst e
                  have HOK2 : Hid (∀ j, j < t + 1 → lkOk o n j) := hid (fun j hj => by
                    by_cases e : j = t
                    · rw [e]; exact HLK.out H3.out H4.out (by have h := HK.out; have h4 := H4.out; subst h4; exact h)
                    · exact HOK.out j (by omega))
                  clear HOK
                  go_wp2_with fail
                  go_roundg (N - (t + 1))
                  case measure => go_light; omega
                  case rel => exact ⟨t + 1, by omega, rfl, by go_num, HOK2, HS⟩
            · have e4 : ((nt : Int) != (n : Int)) = true := by rw [bne_iff_ne]; omega
              go_wp2_with fail
              go_ret
              exact ⟨false, rfl, HNO.out (fun h => h4 (HLO.out h).2.1), HS2.out.bel⟩
          · have e3 : ((np : Int) != (n : Int)) = true := by rw [bne_iff_ne]; omega
            go_wp2_with fail
            go_ret
            exact ⟨false, rfl, HNO.out (fun h => h3 (HLO.out h).1), HS2.out.bel⟩
        · have e : t = N := by omega
          subst e
          go_wp2_with fail
          go_ret
          exact ⟨true, rfl, ⟨fun _ => ⟨H12.out.1, H12.out.2, fun i hi => HOK.out i (by rw [HN.out] at hi; exact hi)⟩, fun _ => rfl⟩, HS.out.bel⟩
    · have e2 : ((N : Int) != (m : Int)) = true := by rw [bne_iff_ne]; omega
      clear h1
      go_enter Tryd.func58, Tryd.ntmps58
      go_wp2_with fail
      go_ret
      exact ⟨false, rfl, ⟨fun h => (by cases h), fun h => absurd (HN.out.symm.trans h.2.1) h2⟩, HS0.out.bel⟩
  · have e1 : ((nr : Int) != (n : Int)) = true := by rw [bne_iff_ne]; omega
    go_enter Tryd.func58, Tryd.ntmps58
    go_wp2_with fail
    go_ret
    exact ⟨false, rfl, ⟨fun h => (by cases h), fun h => absurd h.1 h1⟩, HS0.out.bel⟩

end Go.Proofs.YtnnjajmkfgnhcaaDoor
