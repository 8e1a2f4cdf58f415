/-
  Several texts in one: RefC, RefC2; each opens with what it holds.
-/
import Derived.Test.YtbchbmelofojkaaGreatDoorCirc
import Derived.Test.YtbchbmelofojkaaGreatDoorRefIn
import Derived.Deep.RegionWith
import Derived.Deep.LoopGhost
import Derived.Deep.Light
import Derived.Deep.DrawnRows
import Derived.Deep.QuietTactic
import Derived.Test.YtbchbmelofojkaaGreatDoorCircM
/-
  Contracts of tallyref's Below and Circuit, for every circuit; they make new blocks and write nothing that was there.
-/
namespace Go.Proofs.YtbchbmelofojkaaGreatDoor
open Go.RowKit
set_option linter.unusedVariables false
attribute [local go_sem ↓] Go.wp_at_zero Go.wp_at_succ

set_option maxHeartbeats 1000000 in
theorem rbelow_zero (g : Int) (ao : Option Addr) (n cap : Nat) (w : World) :
    Calls Tryz.prog 84 #[.agg #[.int .i64 g, .slice ao n cap], .int .i64 0] w fun e w' => e = .returned (.int .i64 g) ∧ Below w.heap.size w w' := by
  go_enter Tryz.func84, Tryz.ntmps84
  go_wp2_with fail
  go_ret
  exact ⟨rfl, (Below.refl _ w).alloc (Nat.le_refl _) _⟩
set_option maxHeartbeats 1000000 in
theorem rbelow_at (g : Int) (b off n cap i : Nat) (x : Int) (w : World) (hi : i < n) (hn : n ≤ 4) (hc : w.cell? ⟨b, off + 2 * i, none⟩ = some (.int .i64 x)) :
    Calls Tryz.prog 84 #[.agg #[.int .i64 g, .slice (some ⟨b, off, none⟩) n cap], .int .i64 ((i : Int) + 1)] w fun e w' => e = .returned (.int .i64 x) ∧ Below w.heap.size w w' := by
  have hb : b < w.heap.size := World.block_lt_of_cell? w _ hc
  have hc2 : ∀ o, (w.alloc o).cell? ⟨b, off + i * 2, none⟩ = some (.int .i64 x) := fun o => by rw [Nat.mul_comm i 2, World.cell?_alloc_old _ _ _ (Nat.ne_of_lt hb)]; exact hc
  have k0 : ¬ ((i : Int) + 1 = 0) := by omega
  have k1 : (((i : Int) + 1) == 0) = false := beq_eq_false_iff_ne.2 k0
  have k2 : (0 : Int) ≤ (i : Int) := by omega
  have k3 : (i : Int) < (n : Int) := by omega
  clear hc
  go_enter Tryz.func84, Tryz.ntmps84
  go_wp2_with fail
  go_ret
  exact ⟨rfl, (Below.refl _ w).alloc (Nat.le_refl _) _⟩

end Go.Proofs.YtbchbmelofojkaaGreatDoor

/-
  A contract of tallyref's Circuit, for every circuit; it makes new blocks and writes nothing that was there.
-/
namespace Go.Proofs.YtbchbmelofojkaaGreatDoor
open Go.RowKit
set_option linter.unusedVariables false
attribute [local go_sem ↓] Go.wp_at_zero Go.wp_at_succ

set_option maxHeartbeats 1000000 in
theorem rcirc_log (g : Int) (ao : Option Addr) (n cap : Nat) (w : World) (h : ¬ (0 ≤ g ∧ g ≤ 4)) :
    Calls Tryz.prog 53 #[.agg #[.int .i64 g, .slice ao n cap]] w fun e w' => e = .returned (.int .i64 1) ∧ Below w.heap.size w w' := by
  have hI : (decide ((0 : Int) ≤ g) && decide (g ≤ 4)) = false := by simp; omega
  have HI := hid (fun w => rin_any g 0 4 w)
  rw [hI] at HI
  clear hI h
  go_enter Tryz.func53, Tryz.ntmps53
  go_wp2_with (go_at_call 83; refine (HI.out _).mono ?_; rintro e w' ⟨rfl, hw⟩; obtain rfl := hw.symm)
  go_ret
  exact ⟨rfl, (Below.refl _ w).alloc (Nat.le_refl _) _⟩
set_option maxHeartbeats 1000000 in
theorem rcirc_none (g : Int) (ao : Option Addr) (cap : Nat) (w : World) (h0 : 0 ≤ g) (h4 : g ≤ 4) :
    Calls Tryz.prog 53 #[.agg #[.int .i64 g, .slice ao 0 cap]] w fun e w' => e = .returned (.int .i64 1) ∧ Below w.heap.size w w' := by
  have hI : (decide ((0 : Int) ≤ g) && decide (g ≤ 4)) = true := by simp; omega
  have HI := hid (fun w => rin_any g 0 4 w)
  rw [hI] at HI
  clear hI
  go_enter Tryz.func53, Tryz.ntmps53
  go_wp2_with (go_at_call 83; refine (HI.out _).mono ?_; rintro e w' ⟨rfl, hw⟩; obtain rfl := hw.symm)
  go_ret
  exact ⟨rfl, (Below.refl _ w).alloc (Nat.le_refl _) _⟩
set_option maxHeartbeats 1000000 in
theorem rcirc_large (g : Int) (ao : Option Addr) (n cap : Nat) (w : World) (h0 : 0 ≤ g) (h4 : g ≤ 4) (hn : 4 < n) :
    Calls Tryz.prog 53 #[.agg #[.int .i64 g, .slice ao n cap]] w fun e w' => e = .returned (.int .i64 2) ∧ Below w.heap.size w w' := by
  have hI : (decide ((0 : Int) ≤ g) && decide (g ≤ 4)) = true := by simp; omega
  have HI := hid (fun w => rin_any g 0 4 w)
  rw [hI] at HI
  have n1 : ((n : Int) == 0) = false := beq_eq_false_iff_ne.2 (by omega)
  have n2 : (4 : Int) < (n : Int) := by omega
  clear hI
  go_enter Tryz.func53, Tryz.ntmps53
  go_wp2_with (go_at_call 83; refine (HI.out _).mono ?_; rintro e w' ⟨rfl, hw⟩; obtain rfl := hw.symm)
  go_ret
  exact ⟨rfl, (Below.refl _ w).alloc (Nat.le_refl _) _⟩

theorem rbelow_any (c : CQ) (g : Int) (b off n cap i : Nat) (A : Nat → Option Addr) (C : Nat → Nat) (w : World) (hg : c.log = g) (hn : c.layers.length = n) (n4 : n ≤ 4) (hi : i ≤ n) (hr : CRow w (some ⟨b, off, none⟩) c.layers A C) :
    Calls Tryz.prog 84 #[.agg #[.int .i64 g, .slice (some ⟨b, off, none⟩) n cap], .int .i64 (i : Int)] w fun e w' => e = .returned (.int .i64 (belowQ c i)) ∧ Below w.heap.size w w' := by
  cases i with
  | zero => rw [show belowQ c 0 = g from hg]; exact rbelow_zero g _ n cap w
  | succ i =>
    have hlt : i < c.layers.length := by omega
    obtain ⟨l, hl⟩ : ∃ l, c.layers[i]? = some l := ⟨c.layers[i], by simp [hlt]⟩
    obtain ⟨b', off', e, hc⟩ := hr (by intro e; rw [e] at hlt; simp at hlt)
    cases e
    rw [show belowQ c (i + 1) = l.log from by rw [belowQ, hl]; rfl, show ((i + 1 : Nat) : Int) = (i : Int) + 1 from by omega]
    exact rbelow_at g b off n cap i l.log w (by omega) n4 (hc i l hl).1

set_option maxHeartbeats 1000000 in
set_option maxRecDepth 100000 in
theorem rcirc_main (c : CQ) (g : Int) (b off n cap : Nat) (A : Nat → Option Addr) (C : Nat → Nat) (w : World) (hg : c.log = g) (hn : c.layers.length = n) (h0 : 0 ≤ g) (h4 : g ≤ 4) (n1 : 1 ≤ n) (n4 : n ≤ 4) (hr : CRow w (some ⟨b, off, none⟩) c.layers A C) :
    Calls Tryz.prog 53 #[.agg #[.int .i64 g, .slice (some ⟨b, off, none⟩) n cap]] w fun e w' => ∃ x, e = .returned (.int .i64 x) ∧ checkE c x ∧ Below w.heap.size w w' := by
  have hI : (decide ((0 : Int) ≤ g) && decide (g ≤ 4)) = true := by simp; omega
  have HI := hid (fun w => rin_any g 0 4 w)
  rw [hI] at HI
  have m1 : ((n : Int) == 0) = false := beq_eq_false_iff_ne.2 (by omega)
  have m2 : decide ((4 : Int) < (n : Int)) = false := by simp; omega
  have HR := hid hr
  have HG := hid hg
  have HN := hid hn
  clear hI hr hg hn
  go_enter Tryz.func53, Tryz.ntmps53
  go_wp2_with (go_at_call 83; refine (HI.out _).mono ?_; rintro e w' ⟨rfl, hw⟩; obtain rfl := hw.symm)
  obtain ⟨B, hB⟩ : ∃ B, w.heap.size = B := ⟨_, rfl⟩
  have HW0 := hid ((Below.refl B w).alloc (Nat.le_of_eq hB.symm) (.cells #[.int .i64 g, .slice (some ⟨b, off, none⟩) n cap] 25))
  have HR0 : Hid (CRow (w.alloc (.cells #[.int .i64 g, .slice (some ⟨b, off, none⟩) n cap] 25)) (some ⟨b, off, none⟩) c.layers A C) := hid (HR.out.kept (by rw [hB]; exact HW0.out))
  have HX0 : Hid (Box2 (w.alloc (.cells #[.int .i64 g, .slice (some ⟨b, off, none⟩) n cap] 25)) B (.int .i64 g) (.slice (some ⟨b, off, none⟩) n cap)) := hid (by rw [← hB]; exact Box2.new w _ _ _)
  rw [hB]
  generalize w.alloc (.cells #[.int .i64 g, .slice (some ⟨b, off, none⟩) n cap] 25) = W0 at HW0 HR0 HX0 ⊢
  have HBE := hid hB
  clear HR hB HI
  go_loopg [3] n (fun q i wr => ∃ k : Nat, k ≤ n ∧ q = n - k ∧ i = .int .i64 (k : Int) ∧ Hid (Below B w wr) ∧ Hid (CRow wr (some ⟨b, off, none⟩) c.layers A C) ∧ Hid (Box2 wr B (.int .i64 g) (.slice (some ⟨b, off, none⟩) n cap)) ∧ Hid (∀ j, j < k → ∀ x, c.layers[j]? = some x → x.right (belowQ c j)))
  case atStart => exact ⟨0, by omega, rfl, rfl, HW0, HR0, HX0, hid (fun j hj => absurd hj (by omega))⟩
  case round =>
    clear HW0 HR0 HX0
    obtain ⟨k, hk, rfl, rfl, HB, HR, HX, HD⟩ := hrel
    obtain ⟨x0, x1, xl⟩ := HX.out
    by_cases hlt : k < n
    · obtain ⟨l, hl⟩ : ∃ l, c.layers[k]? = some l := ⟨c.layers[k]'(by rw [HN.out]; exact hlt), by simp⟩
      obtain ⟨b', off', eb, hc⟩ := HR.out (by intro e; have := HN.out; rw [e] at this; simp at this; omega)
      cases eb
      obtain ⟨y0, y1, y2, y3⟩ := hc k l hl
      have yb : b < wr.heap.size := World.block_lt_of_cell? wr _ y0
      rw [Nat.mul_comm 2 k] at y0 y1
      clear hc
      have HY2 := hid y2
      have HL := hid hl
      clear y2 hl y3
      obtain ⟨lg, hlg⟩ : ∃ x, l.log = x := ⟨_, rfl⟩
      obtain ⟨m, hm⟩ : ∃ x, l.gates.length = x := ⟨_, rfl⟩
      obtain ⟨ga, hga⟩ : ∃ x, A k = x := ⟨_, rfl⟩
      obtain ⟨gc, hgc⟩ : ∃ x, C k = x := ⟨_, rfl⟩
      rw [hlg] at y0
      rw [hm, hga, hgc] at y1
      rw [hga] at HY2
      have HLG := hid hlg
      have HM := hid hm
      clear hlg hm hga hgc
      have k0 : (0 : Int) ≤ (k : Int) := by omega
      have k1 : (k : Int) < (n : Int) := by omega
      have hbel : Hid (∃ bk : Nat, belowQ c k = (bk : Int) ∧ bk ≤ 4) := hid (below_rng HG.out h0 h4 HD.out)
      by_cases hin : 0 ≤ lg ∧ lg ≤ 4
      · obtain ⟨lk, rfl⟩ : ∃ lk : Nat, lg = (lk : Int) := ⟨lg.toNat, by omega⟩
        have hI : (decide ((0 : Int) ≤ (lk : Int)) && decide ((lk : Int) ≤ 4)) = true := by simp; omega
        have HI := hid (fun w => rin_any (lk : Int) 0 4 w)
        rw [hI] at HI
        clear hI
        have lk4 : lk ≤ 4 := by omega
        obtain ⟨N, hN⟩ : ∃ N, N = 2 ^ lk := ⟨_, rfl⟩
        have sh : wrap64 ((2 : Int) ^ lk) = (N : Int) := by rw [hN]; exact shl_pow (by omega)
        have sh2 : IntKind.i64.wrap ((2 : Int) ^ lk) = (N : Int) := by rw [IntWalk.i64_left]; exact sh
        have HNN := hid hN
        clear hN
        by_cases hmN : m = N
        · subst hmN
          go_wp2_with (go_at_call 83; refine (HI.out _).mono ?_; rintro e w' ⟨rfl, hw⟩; obtain rfl := hw.symm)
          go_quiet (fail)
          go_wp2_with fail
          obtain ⟨bk, hbk, bk4⟩ := hbel.out
          have HL0 := hid (Box2.new wr (.int .i64 (lk : Int)) (.slice ga m gc) 96)
          have hal := (Below.refl wr.heap.size wr).alloc (Nat.le_refl _) (.cells #[.int .i64 (lk : Int), .slice ga m gc] 96)
          have HB0 := hid (HB.out.alloc (Nat.le_of_lt xl) (.cells #[.int .i64 (lk : Int), .slice ga m gc] 96))
          have HX0 := hid (HX.out.kept hal)
          have HR0 := hid (HR.out.kept hal)
          have HY0 := hid (HY2.out.kept hal)
          clear x0 x1 y0 y1 HX HR HY2 hal HB yb HI
          obtain ⟨L, hL⟩ : ∃ L, wr.heap.size = L := ⟨_, rfl⟩
          rw [hL] at HL0 xl ⊢
          clear hL
          generalize wr.alloc (.cells #[.int .i64 (lk : Int), .slice ga m gc] 96) = W1 at HL0 HB0 HX0 HR0 HY0 ⊢
          refine (rbelow_any c g b off n cap k A C _ HG.out HN.out n4 (by omega) (by exact HR0.out)).mono ?_
          rintro e w1 ⟨rfl, hb1⟩
          have hb2 : Below W1.heap.size W1 w1 := ⟨hb1.os, hb1.tape, hb1.output, hb1.size, hb1.block⟩
          have HB1 := hid (HB0.out.trans (hb2.mono (Nat.le_trans (Nat.le_of_lt xl) (Nat.le_of_lt HL0.out.lt))))
          have HX1 := hid (HX0.out.kept hb2)
          have HR1 := hid (HR0.out.kept hb2)
          have HY1 := hid (HY0.out.kept hb2)
          obtain ⟨z0, z1, zl⟩ := HL0.out.kept hb2
          clear hb1 hb2 HL0 HX0 HR0 HY0 HB0 hbel
          rw [hbk]
          obtain ⟨M, hM⟩ : ∃ M, M = 2 ^ bk := ⟨_, rfl⟩
          have shM : wrap64 ((2 : Int) ^ bk) = (M : Int) := by rw [hM]; exact shl_pow (by omega)
          have M1 : 1 ≤ M := by rw [hM]; exact Nat.one_le_two_pow
          have M2 : M ≤ 16 := by rw [hM]; exact Nat.le_trans (Nat.pow_le_pow_right (by omega) bk4) (by decide)
          have HM2 : Hid ((M : Int) = ((2 ^ (belowQ c k).toNat : Nat) : Int)) := hid (by rw [hM, hbk]; simp)
          clear hM hbk sh sh2
          have m16 : m ≤ 16 := by rw [HNN.out]; exact Nat.le_trans (Nat.pow_le_pow_right (by omega) lk4) (by decide)
          go_wp2_with fail
          clear shM
          go_loopg [6] m (fun q i wx => ∃ t : Nat, t ≤ m ∧ q = m - t ∧ i = .int .i64 (t : Int) ∧ wx = w1 ∧ Hid (∀ j, j < t → ∀ x, l.gates[j]? = some x → gateOk (M : Int) x))
          case atStart => exact ⟨0, by omega, rfl, rfl, rfl, hid (fun j hj => absurd hj (by omega))⟩
          case round =>
            obtain ⟨t, ht, rfl, rfl, hwx, HT⟩ := hrel
            subst hwx
            by_cases htl : t < m
            · obtain ⟨x, hx⟩ : ∃ x, l.gates[t]? = some x := ⟨l.gates[t]'(by rw [HM.out]; exact htl), by simp⟩
              obtain ⟨gb, go, rfl, hgc⟩ := HY1.out (by intro e; have := HM.out; rw [e] at this; simp at this; omega)
              obtain ⟨_, q1, q2⟩ := hgc t x hx
              rw [Nat.mul_comm 3 t] at q1 q2
              obtain ⟨xa, hxa⟩ : ∃ v, x.a = v := ⟨_, rfl⟩
              obtain ⟨xb, hxb⟩ : ∃ v, x.b = v := ⟨_, rfl⟩
              rw [hxa] at q1
              rw [hxb] at q2
              have HXX := hid (And.intro hx (And.intro hxa hxb))
              clear hgc hx hxa hxb
              have t0 : (0 : Int) ≤ (t : Int) := by omega
              have t1 : (t : Int) < (m : Int) := by omega
              have HIA := hid (fun w => rin_any xa 0 ((M : Int) - 1) w)
              have HIB := hid (fun w => rin_any xb 0 ((M : Int) - 1) w)
              by_cases ha : 0 ≤ xa ∧ xa < M
              · have hI : (decide ((0 : Int) ≤ xa) && decide (xa ≤ (M : Int) - 1)) = true := by simp; omega
                rw [hI] at HIA
                clear hI
                by_cases hb : 0 ≤ xb ∧ xb < M
                · have hI : (decide ((0 : Int) ≤ xb) && decide (xb ≤ (M : Int) - 1)) = true := by simp; omega
                  rw [hI] at HIB
                  clear hI
                  go_wp2_with fail
                  refine (HIA.out _).mono ?_
                  rintro e w' ⟨rfl, hw⟩
                  obtain rfl := hw.symm
                  go_wp2_with fail
                  refine (HIB.out _).mono ?_
                  rintro e w' ⟨rfl, hw⟩
                  obtain rfl := hw.symm
                  go_wp2_with fail
                  go_roundg (m - (t + 1))
                  case measure => go_light; omega
                  case rel =>
                    refine ⟨t + 1, by omega, rfl, by go_num, rfl, hid fun j hj y hy => ?_⟩
                    by_cases hjt : j < t
                    · exact HT.out j hjt y hy
                    · obtain rfl : j = t := by omega
                      obtain ⟨e1, e2, e3⟩ := HXX.out
                      rw [e1] at hy
                      cases hy
                      exact ⟨by rw [e2]; exact ha, by rw [e3]; exact hb⟩
                · have hI : (decide ((0 : Int) ≤ xb) && decide (xb ≤ (M : Int) - 1)) = false := by simp; omega
                  rw [hI] at HIB
                  clear hI
                  go_wp2_with fail
                  refine (HIA.out _).mono ?_
                  rintro e w' ⟨rfl, hw⟩
                  obtain rfl := hw.symm
                  go_wp2_with fail
                  refine (HIB.out _).mono ?_
                  rintro e w' ⟨rfl, hw⟩
                  obtain rfl := hw.symm
                  go_wp2_with fail
                  go_ret
                  obtain ⟨e1, e2, e3⟩ := HXX.out
                  refine ⟨1, rfl, checkE_stop (by rw [HG.out]; exact ⟨h0, h4⟩) (by rw [HN.out]; exact n4) HD.out HL.out (.inr (.inr (.inl ⟨by rw [HLG.out]; omega, by rw [HM.out, HLG.out]; exact HNN.out, ⟨x, List.mem_of_getElem? e1, fun h => hb ?_⟩, rfl⟩))) (by decide), ?_⟩
                  · rw [← HM2.out] at h; rw [← e3]; exact h.2
                  · rw [HBE.out]; exact HB1.out
              · have hI : (decide ((0 : Int) ≤ xa) && decide (xa ≤ (M : Int) - 1)) = false := by simp; omega
                rw [hI] at HIA
                clear hI
                go_wp2_with fail
                refine (HIA.out _).mono ?_
                rintro e w' ⟨rfl, hw⟩
                obtain rfl := hw.symm
                go_wp2_with fail
                go_ret
                obtain ⟨e1, e2, e3⟩ := HXX.out
                refine ⟨1, rfl, checkE_stop (by rw [HG.out]; exact ⟨h0, h4⟩) (by rw [HN.out]; exact n4) HD.out HL.out (.inr (.inr (.inl ⟨by rw [HLG.out]; omega, by rw [HM.out, HLG.out]; exact HNN.out, ⟨x, List.mem_of_getElem? e1, fun h => ha ?_⟩, rfl⟩))) (by decide), ?_⟩
                · rw [← HM2.out] at h; rw [← e2]; exact h.1
                · rw [HBE.out]; exact HB1.out
            · have e : t = m := by omega
              subst e
              go_wp2_with fail
              go_roundg (n - (k + 1))
              case measure => go_light; omega
              case rel =>
                refine ⟨k + 1, by omega, rfl, by go_num, HB1, HR1, HX1, hid fun j hj y hy => ?_⟩
                by_cases hjk : j < k
                · exact HD.out j hjk y hy
                · obtain rfl : j = k := by omega
                  rw [HL.out] at hy
                  cases hy
                  refine ⟨by rw [HLG.out]; omega, by rw [HM.out, HLG.out]; exact HNN.out, fun q hq => ?_⟩
                  obtain ⟨i, hi, rfl⟩ := List.getElem_of_mem hq
                  rw [← HM2.out]
                  exact HT.out i (by rw [← HM.out]; exact hi) _ (by simp)
        · have e1 : ((m : Int) != (N : Int)) = true := by simp; omega
          go_wp2_with (go_at_call 83; refine (HI.out _).mono ?_; rintro e w' ⟨rfl, hw⟩; obtain rfl := hw.symm)
          go_quiet (fail)
          go_wp2_with fail
          go_ret
          refine ⟨4, rfl, ?_, ?_⟩
          all_goals first | (rw [HBE.out]; have hal := HB.out.alloc (Nat.le_of_lt xl) (.cells #[.int .i64 (lk : Int), .slice ga m gc] 96); exact ⟨hal.os, hal.tape, hal.output, hal.size, hal.block⟩) | exact checkE_stop (by rw [HG.out]; exact ⟨h0, h4⟩) (by rw [HN.out]; exact n4) HD.out HL.out (.inr (.inl ⟨by rw [HLG.out]; omega, by rw [HM.out, HLG.out]; rw [HNN.out] at hmN; exact hmN, rfl⟩)) (by decide)
      · have hI : (decide ((0 : Int) ≤ lg) && decide (lg ≤ 4)) = false := by simp; omega
        have HI := hid (fun w => rin_any lg 0 4 w)
        rw [hI] at HI
        clear hI
        go_wp2_with (go_at_call 83; refine (HI.out _).mono ?_; rintro e w' ⟨rfl, hw⟩; obtain rfl := hw.symm)
        go_ret
        refine ⟨1, rfl, checkE_stop (by rw [HG.out]; exact ⟨h0, h4⟩) (by rw [HN.out]; exact n4) HD.out HL.out (.inl ⟨by rw [HLG.out]; exact hin, rfl⟩) (by decide), ?_⟩
        rw [HBE.out]
        exact HB.out.alloc (Nat.le_of_lt xl) _
    · have e : k = n := by omega
      subst e
      go_wp2_with fail
      go_ret
      refine ⟨0, rfl, checkE_all (by rw [HG.out]; exact ⟨h0, h4⟩) (by intro e; have := HN.out; rw [e] at this; simp at this; omega) (by rw [HN.out]; exact n4) (fun j x hx => HD.out j (by have := (List.getElem?_eq_some_iff.1 hx).1; rw [HN.out] at this; exact this) x hx), ?_⟩
      rw [HBE.out]
      exact HB.out

/-- Circuit, of every circuit. -/
theorem rcirc_any (c : CQ) (g : Int) (ao : Option Addr) (n cap : Nat) (A : Nat → Option Addr) (C : Nat → Nat) (w : World) (hg : c.log = g) (hn : c.layers.length = n) (hr : CRow w ao c.layers A C) :
    Calls Tryz.prog 53 #[.agg #[.int .i64 g, .slice ao n cap]] w fun e w' => ∃ x, e = .returned (.int .i64 x) ∧ checkE c x ∧ Below w.heap.size w w' := by
  by_cases h : 0 ≤ g ∧ g ≤ 4
  · by_cases hz : n = 0
    · subst hz
      exact (rcirc_none g ao cap w h.1 h.2).mono fun e w' ⟨he, hb⟩ => ⟨1, he, .inl ⟨.inr (List.eq_nil_of_length_eq_zero hn), rfl⟩, hb⟩
    · by_cases h4 : 4 < n
      · exact (rcirc_large g ao n cap w h.1 h.2 h4).mono fun e w' ⟨he, hb⟩ => ⟨2, he, .inr (.inl ⟨by rw [hg]; exact h, by rw [hn]; exact h4, rfl⟩), hb⟩
      · obtain ⟨b, off, rfl, _⟩ := hr (by intro e; rw [e] at hn; simp at hn; omega)
        exact rcirc_main c g b off n cap A C w hg hn h.1 h.2 (by omega) (by omega) hr
  · exact (rcirc_log g ao n cap w h).mono fun e w' ⟨he, hb⟩ => ⟨1, he, .inl ⟨.inl (by rw [hg]; exact h), rfl⟩, hb⟩

end Go.Proofs.YtbchbmelofojkaaGreatDoor
