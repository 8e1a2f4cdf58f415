/-
  Several texts in one: RefC, RefC2, RefSh; each opens with what it holds.
-/
import Derived.Test.YtoibgjkcdjodhaaDoorCirc
import Derived.Test.YtoibgjkcdjodhaaDoorRefIn
import Derived.Deep.RegionWith
import Derived.Deep.LoopGhost
import Derived.Deep.Light
import Derived.Deep.DrawnRows
import Derived.Deep.QuietTactic
import Derived.Test.YtoibgjkcdjodhaaDoorCircM
import Derived.Test.YtoibgjkcdjodhaaDoorGkrQ
import Derived.Test.YtoibgjkcdjodhaaDoorWirC
import Derived.Deep.RegionHeld3
import Derived.Test.YtoibgjkcdjodhaaDoorPrf
/-
  Contracts of tallyref's Below and Circuit, for every circuit; they make new blocks and write nothing that was there.
-/
namespace Go.Proofs.YtoibgjkcdjodhaaDoor
open Go.RowKit
set_option linter.unusedVariables false
attribute [local go_sem ↓] Go.wp_at_zero Go.wp_at_succ

set_option maxHeartbeats 1000000 in
theorem rbelow_zero (g : Int) (ao : Option Addr) (n cap : Nat) (w : World) :
    Calls Tryd.prog 44 #[.agg #[.int .i64 g, .slice ao n cap], .int .i64 0] w fun e w' => e = .returned (.int .i64 g) ∧ Below w.heap.size w w' := by
  go_enter Tryd.func44, Tryd.ntmps44
  go_wp2_with fail
  go_ret
  exact ⟨rfl, (Below.refl _ w).alloc (Nat.le_refl _) _⟩
set_option maxHeartbeats 1000000 in
theorem rbelow_at (g : Int) (b off n cap i : Nat) (x : Int) (w : World) (hi : i < n) (hn : n ≤ 4) (hc : w.cell? ⟨b, off + 2 * i, none⟩ = some (.int .i64 x)) :
    Calls Tryd.prog 44 #[.agg #[.int .i64 g, .slice (some ⟨b, off, none⟩) n cap], .int .i64 ((i : Int) + 1)] w fun e w' => e = .returned (.int .i64 x) ∧ Below w.heap.size w w' := by
  have hb : b < w.heap.size := World.block_lt_of_cell? w _ hc
  have hc2 : ∀ o, (w.alloc o).cell? ⟨b, off + i * 2, none⟩ = some (.int .i64 x) := fun o => by rw [Nat.mul_comm i 2, World.cell?_alloc_old _ _ _ (Nat.ne_of_lt hb)]; exact hc
  have k0 : ¬ ((i : Int) + 1 = 0) := by omega
  have k1 : (((i : Int) + 1) == 0) = false := beq_eq_false_iff_ne.2 k0
  have k2 : (0 : Int) ≤ (i : Int) := by omega
  have k3 : (i : Int) < (n : Int) := by omega
  clear hc
  go_enter Tryd.func44, Tryd.ntmps44
  go_wp2_with fail
  go_ret
  exact ⟨rfl, (Below.refl _ w).alloc (Nat.le_refl _) _⟩

end Go.Proofs.YtoibgjkcdjodhaaDoor

/-
  A contract of tallyref's Circuit, for every circuit; it makes new blocks and writes nothing that was there.
-/
namespace Go.Proofs.YtoibgjkcdjodhaaDoor
open Go.RowKit
set_option linter.unusedVariables false
attribute [local go_sem ↓] Go.wp_at_zero Go.wp_at_succ

set_option maxHeartbeats 1000000 in
theorem rcirc_log (g : Int) (ao : Option Addr) (n cap : Nat) (w : World) (h : ¬ (0 ≤ g ∧ g ≤ 4)) :
    Calls Tryd.prog 32 #[.agg #[.int .i64 g, .slice ao n cap]] w fun e w' => e = .returned (.int .i64 1) ∧ Below w.heap.size w w' := by
  have hI : (decide ((0 : Int) ≤ g) && decide (g ≤ 4)) = false := by simp; omega
  have HI := hid (fun w => rin_any g 0 4 w)
  rw [hI] at HI
  clear hI h
  go_enter Tryd.func32, Tryd.ntmps32
  go_wp2_with (go_at_call 57; refine (HI.out _).mono ?_; rintro e w' ⟨rfl, hw⟩; obtain rfl := hw.symm)
  go_ret
  exact ⟨rfl, (Below.refl _ w).alloc (Nat.le_refl _) _⟩
set_option maxHeartbeats 1000000 in
theorem rcirc_none (g : Int) (ao : Option Addr) (cap : Nat) (w : World) (h0 : 0 ≤ g) (h4 : g ≤ 4) :
    Calls Tryd.prog 32 #[.agg #[.int .i64 g, .slice ao 0 cap]] w fun e w' => e = .returned (.int .i64 1) ∧ Below w.heap.size w w' := by
  have hI : (decide ((0 : Int) ≤ g) && decide (g ≤ 4)) = true := by simp; omega
  have HI := hid (fun w => rin_any g 0 4 w)
  rw [hI] at HI
  clear hI
  go_enter Tryd.func32, Tryd.ntmps32
  go_wp2_with (go_at_call 57; refine (HI.out _).mono ?_; rintro e w' ⟨rfl, hw⟩; obtain rfl := hw.symm)
  go_ret
  exact ⟨rfl, (Below.refl _ w).alloc (Nat.le_refl _) _⟩
set_option maxHeartbeats 1000000 in
theorem rcirc_large (g : Int) (ao : Option Addr) (n cap : Nat) (w : World) (h0 : 0 ≤ g) (h4 : g ≤ 4) (hn : 4 < n) :
    Calls Tryd.prog 32 #[.agg #[.int .i64 g, .slice ao n cap]] w fun e w' => e = .returned (.int .i64 2) ∧ Below w.heap.size w w' := by
  have hI : (decide ((0 : Int) ≤ g) && decide (g ≤ 4)) = true := by simp; omega
  have HI := hid (fun w => rin_any g 0 4 w)
  rw [hI] at HI
  have n1 : ((n : Int) == 0) = false := beq_eq_false_iff_ne.2 (by omega)
  have n2 : (4 : Int) < (n : Int) := by omega
  clear hI
  go_enter Tryd.func32, Tryd.ntmps32
  go_wp2_with (go_at_call 57; refine (HI.out _).mono ?_; rintro e w' ⟨rfl, hw⟩; obtain rfl := hw.symm)
  go_ret
  exact ⟨rfl, (Below.refl _ w).alloc (Nat.le_refl _) _⟩

theorem rbelow_any (c : CQ) (g : Int) (b off n cap i : Nat) (A : Nat → Option Addr) (C : Nat → Nat) (w : World) (hg : c.log = g) (hn : c.layers.length = n) (n4 : n ≤ 4) (hi : i ≤ n) (hr : CRow w (some ⟨b, off, none⟩) c.layers A C) :
    Calls Tryd.prog 44 #[.agg #[.int .i64 g, .slice (some ⟨b, off, none⟩) n cap], .int .i64 (i : Int)] w fun e w' => e = .returned (.int .i64 (belowQ c i)) ∧ Below w.heap.size w w' := by
  cases i with
  | zero => rw [show belowQ c 0 = g from hg]; exact rbelow_zero g _ n cap w
  | succ i =>
    have hlt : i < c.layers.length := by omega
    obtain ⟨l, hl⟩ : ∃ l, c.layers[i]? = some l := ⟨c.layers[i], by simp [hlt]⟩
    obtain ⟨b', off', e, hc⟩ := hr (by intro e; rw [e] at hlt; simp at hlt)
    cases e
    rw [show belowQ c (i + 1) = l.log from by rw [belowQ, hl]; rfl, show ((i + 1 : Nat) : Int) = (i : Int) + 1 from by omega]
    exact rbelow_at g b off n cap i l.log w (by omega) n4 (hc i l hl).1

set_option maxHeartbeats 1000000 in
set_option maxRecDepth 100000 in
theorem rcirc_main (c : CQ) (g : Int) (b off n cap : Nat) (A : Nat → Option Addr) (C : Nat → Nat) (w : World) (hg : c.log = g) (hn : c.layers.length = n) (h0 : 0 ≤ g) (h4 : g ≤ 4) (n1 : 1 ≤ n) (n4 : n ≤ 4) (hr : CRow w (some ⟨b, off, none⟩) c.layers A C) :
    Calls Tryd.prog 32 #[.agg #[.int .i64 g, .slice (some ⟨b, off, none⟩) n cap]] w fun e w' => ∃ x, e = .returned (.int .i64 x) ∧ checkE c x ∧ Below w.heap.size w w' := by
  have hI : (decide ((0 : Int) ≤ g) && decide (g ≤ 4)) = true := by simp; omega
  have HI := hid (fun w => rin_any g 0 4 w)
  rw [hI] at HI
  have m1 : ((n : Int) == 0) = false := beq_eq_false_iff_ne.2 (by omega)
  have m2 : decide ((4 : Int) < (n : Int)) = false := by simp; omega
  have HR := hid hr
  have HG := hid hg
  have HN := hid hn
  clear hI hr hg hn
  go_enter Tryd.func32, Tryd.ntmps32
  go_wp2_with (go_at_call 57; refine (HI.out _).mono ?_; rintro e w' ⟨rfl, hw⟩; obtain rfl := hw.symm)
  obtain ⟨B, hB⟩ : ∃ B, w.heap.size = B := ⟨_, rfl⟩
  have HW0 := hid ((Below.refl B w).alloc (Nat.le_of_eq hB.symm) (.cells #[.int .i64 g, .slice (some ⟨b, off, none⟩) n cap] 24))
  have HR0 : Hid (CRow (w.alloc (.cells #[.int .i64 g, .slice (some ⟨b, off, none⟩) n cap] 24)) (some ⟨b, off, none⟩) c.layers A C) := hid (HR.out.kept (by rw [hB]; exact HW0.out))
  have HX0 : Hid (Box2 (w.alloc (.cells #[.int .i64 g, .slice (some ⟨b, off, none⟩) n cap] 24)) B (.int .i64 g) (.slice (some ⟨b, off, none⟩) n cap)) := hid (by rw [← hB]; exact Box2.new w _ _ _)
  rw [hB]
  generalize w.alloc (.cells #[.int .i64 g, .slice (some ⟨b, off, none⟩) n cap] 24) = W0 at HW0 HR0 HX0 ⊢
  have HBE := hid hB
  clear HR hB HI
  go_loopg [3] n (fun q i wr => ∃ k : Nat, k ≤ n ∧ q = n - k ∧ i = .int .i64 (k : Int) ∧ Hid (Below B w wr) ∧ Hid (CRow wr (some ⟨b, off, none⟩) c.layers A C) ∧ Hid (Box2 wr B (.int .i64 g) (.slice (some ⟨b, off, none⟩) n cap)) ∧ Hid (∀ j, j < k → ∀ x, c.layers[j]? = some x → x.right (belowQ c j)))
  case atStart => exact ⟨0, by omega, rfl, rfl, HW0, HR0, HX0, hid (fun j hj => absurd hj (by omega))⟩
  case round =>
    clear HW0 HR0 HX0
    obtain ⟨k, hk, rfl, rfl, HB, HR, HX, HD⟩ := hrel
    obtain ⟨x0, x1, xl⟩ := HX.out
    by_cases hlt : k < n
    · obtain ⟨l, hl⟩ : ∃ l, c.layers[k]? = some l := ⟨c.layers[k]'(by rw [HN.out]; exact hlt), by simp⟩
      obtain ⟨b', off', eb, hc⟩ := HR.out (by intro e; have := HN.out; rw [e] at this; simp at this; omega)
      cases eb
      obtain ⟨y0, y1, y2, y3⟩ := hc k l hl
      have yb : b < wr.heap.size := World.block_lt_of_cell? wr _ y0
      rw [Nat.mul_comm 2 k] at y0 y1
      clear hc
      have HY2 := hid y2
      have HL := hid hl
      clear y2 hl y3
      obtain ⟨lg, hlg⟩ : ∃ x, l.log = x := ⟨_, rfl⟩
      obtain ⟨m, hm⟩ : ∃ x, l.gates.length = x := ⟨_, rfl⟩
      obtain ⟨ga, hga⟩ : ∃ x, A k = x := ⟨_, rfl⟩
      obtain ⟨gc, hgc⟩ : ∃ x, C k = x := ⟨_, rfl⟩
      rw [hlg] at y0
      rw [hm, hga, hgc] at y1
      rw [hga] at HY2
      have HLG := hid hlg
      have HM := hid hm
      clear hlg hm hga hgc
      have k0 : (0 : Int) ≤ (k : Int) := by omega
      have k1 : (k : Int) < (n : Int) := by omega
      have hbel : Hid (∃ bk : Nat, belowQ c k = (bk : Int) ∧ bk ≤ 4) := hid (below_rng HG.out h0 h4 HD.out)
      by_cases hin : 0 ≤ lg ∧ lg ≤ 4
      · obtain ⟨lk, rfl⟩ : ∃ lk : Nat, lg = (lk : Int) := ⟨lg.toNat, by omega⟩
        have hI : (decide ((0 : Int) ≤ (lk : Int)) && decide ((lk : Int) ≤ 4)) = true := by simp; omega
        have HI := hid (fun w => rin_any (lk : Int) 0 4 w)
        rw [hI] at HI
        clear hI
        have lk4 : lk ≤ 4 := by omega
        obtain ⟨N, hN⟩ : ∃ N, N = 2 ^ lk := ⟨_, rfl⟩
        have sh : wrap64 ((2 : Int) ^ lk) = (N : Int) := by rw [hN]; exact shl_pow (by omega)
        have sh2 : IntKind.i64.wrap ((2 : Int) ^ lk) = (N : Int) := by rw [IntWalk.i64_left]; exact sh
        have HNN := hid hN
        clear hN
        by_cases hmN : m = N
        · subst hmN
          go_wp2_with (go_at_call 57; refine (HI.out _).mono ?_; rintro e w' ⟨rfl, hw⟩; obtain rfl := hw.symm)
          go_quiet (fail)
          go_wp2_with fail
          obtain ⟨bk, hbk, bk4⟩ := hbel.out
          have HL0 := hid (Box2.new wr (.int .i64 (lk : Int)) (.slice ga m gc) 70)
          have hal := (Below.refl wr.heap.size wr).alloc (Nat.le_refl _) (.cells #[.int .i64 (lk : Int), .slice ga m gc] 70)
          have HB0 := hid (HB.out.alloc (Nat.le_of_lt xl) (.cells #[.int .i64 (lk : Int), .slice ga m gc] 70))
          have HX0 := hid (HX.out.kept hal)
          have HR0 := hid (HR.out.kept hal)
          have HY0 := hid (HY2.out.kept hal)
          clear x0 x1 y0 y1 HX HR HY2 hal HB yb HI
          obtain ⟨L, hL⟩ : ∃ L, wr.heap.size = L := ⟨_, rfl⟩
          rw [hL] at HL0 xl ⊢
          clear hL
          generalize wr.alloc (.cells #[.int .i64 (lk : Int), .slice ga m gc] 70) = W1 at HL0 HB0 HX0 HR0 HY0 ⊢
          refine (rbelow_any c g b off n cap k A C _ HG.out HN.out n4 (by omega) (by exact HR0.out)).mono ?_
          rintro e w1 ⟨rfl, hb1⟩
          have hb2 : Below W1.heap.size W1 w1 := ⟨hb1.os, hb1.tape, hb1.output, hb1.size, hb1.block⟩
          have HB1 := hid (HB0.out.trans (hb2.mono (Nat.le_trans (Nat.le_of_lt xl) (Nat.le_of_lt HL0.out.lt))))
          have HX1 := hid (HX0.out.kept hb2)
          have HR1 := hid (HR0.out.kept hb2)
          have HY1 := hid (HY0.out.kept hb2)
          obtain ⟨z0, z1, zl⟩ := HL0.out.kept hb2
          clear hb1 hb2 HL0 HX0 HR0 HY0 HB0 hbel
          rw [hbk]
          obtain ⟨M, hM⟩ : ∃ M, M = 2 ^ bk := ⟨_, rfl⟩
          have shM : wrap64 ((2 : Int) ^ bk) = (M : Int) := by rw [hM]; exact shl_pow (by omega)
          have M1 : 1 ≤ M := by rw [hM]; exact Nat.one_le_two_pow
          have M2 : M ≤ 16 := by rw [hM]; exact Nat.le_trans (Nat.pow_le_pow_right (by omega) bk4) (by decide)
          have HM2 : Hid ((M : Int) = ((2 ^ (belowQ c k).toNat : Nat) : Int)) := hid (by rw [hM, hbk]; simp)
          clear hM hbk sh sh2
          have m16 : m ≤ 16 := by rw [HNN.out]; exact Nat.le_trans (Nat.pow_le_pow_right (by omega) lk4) (by decide)
          go_wp2_with fail
          clear shM
          go_loopg [6] m (fun q i wx => ∃ t : Nat, t ≤ m ∧ q = m - t ∧ i = .int .i64 (t : Int) ∧ wx = w1 ∧ Hid (∀ j, j < t → ∀ x, l.gates[j]? = some x → gateOk (M : Int) x))
          case atStart => exact ⟨0, by omega, rfl, rfl, rfl, hid (fun j hj => absurd hj (by omega))⟩
          case round =>
            obtain ⟨t, ht, rfl, rfl, hwx, HT⟩ := hrel
            subst hwx
            by_cases htl : t < m
            · obtain ⟨x, hx⟩ : ∃ x, l.gates[t]? = some x := ⟨l.gates[t]'(by rw [HM.out]; exact htl), by simp⟩
              obtain ⟨gb, go, rfl, hgc⟩ := HY1.out (by intro e; have := HM.out; rw [e] at this; simp at this; omega)
              obtain ⟨_, q1, q2⟩ := hgc t x hx
              rw [Nat.mul_comm 3 t] at q1 q2
              obtain ⟨xa, hxa⟩ : ∃ v, x.a = v := ⟨_, rfl⟩
              obtain ⟨xb, hxb⟩ : ∃ v, x.b = v := ⟨_, rfl⟩
              rw [hxa] at q1
              rw [hxb] at q2
              have HXX := hid (And.intro hx (And.intro hxa hxb))
              clear hgc hx hxa hxb
              have t0 : (0 : Int) ≤ (t : Int) := by omega
              have t1 : (t : Int) < (m : Int) := by omega
              have HIA := hid (fun w => rin_any xa 0 ((M : Int) - 1) w)
              have HIB := hid (fun w => rin_any xb 0 ((M : Int) - 1) w)
              by_cases ha : 0 ≤ xa ∧ xa < M
              · have hI : (decide ((0 : Int) ≤ xa) && decide (xa ≤ (M : Int) - 1)) = true := by simp; omega
                rw [hI] at HIA
                clear hI
                by_cases hb : 0 ≤ xb ∧ xb < M
                · have hI : (decide ((0 : Int) ≤ xb) && decide (xb ≤ (M : Int) - 1)) = true := by simp; omega
                  rw [hI] at HIB
                  clear hI
                  go_wp2_with fail
                  refine (HIA.out _).mono ?_
                  rintro e w' ⟨rfl, hw⟩
                  obtain rfl := hw.symm
                  go_wp2_with fail
                  refine (HIB.out _).mono ?_
                  rintro e w' ⟨rfl, hw⟩
                  obtain rfl := hw.symm
                  go_wp2_with fail
                  go_roundg (m - (t + 1))
                  case measure => go_light; omega
                  case rel =>
                    refine ⟨t + 1, by omega, rfl, by go_num, rfl, hid fun j hj y hy => ?_⟩
                    by_cases hjt : j < t
                    · exact HT.out j hjt y hy
                    · obtain rfl : j = t := by omega
                      obtain ⟨e1, e2, e3⟩ := HXX.out
                      rw [e1] at hy
                      cases hy
                      exact ⟨by rw [e2]; exact ha, by rw [e3]; exact hb⟩
                · have hI : (decide ((0 : Int) ≤ xb) && decide (xb ≤ (M : Int) - 1)) = false := by simp; omega
                  rw [hI] at HIB
                  clear hI
                  go_wp2_with fail
                  refine (HIA.out _).mono ?_
                  rintro e w' ⟨rfl, hw⟩
                  obtain rfl := hw.symm
                  go_wp2_with fail
                  refine (HIB.out _).mono ?_
                  rintro e w' ⟨rfl, hw⟩
                  obtain rfl := hw.symm
                  go_wp2_with fail
                  go_ret
                  obtain ⟨e1, e2, e3⟩ := HXX.out
                  refine ⟨1, rfl, checkE_stop (by rw [HG.out]; exact ⟨h0, h4⟩) (by rw [HN.out]; exact n4) HD.out HL.out (.inr (.inr (.inl ⟨by rw [HLG.out]; omega, by rw [HM.out, HLG.out]; exact HNN.out, ⟨x, List.mem_of_getElem? e1, fun h => hb ?_⟩, rfl⟩))) (by decide), ?_⟩
                  · rw [← HM2.out] at h; rw [← e3]; exact h.2
                  · rw [HBE.out]; exact HB1.out
              · have hI : (decide ((0 : Int) ≤ xa) && decide (xa ≤ (M : Int) - 1)) = false := by simp; omega
                rw [hI] at HIA
                clear hI
                go_wp2_with fail
                refine (HIA.out _).mono ?_
                rintro e w' ⟨rfl, hw⟩
                obtain rfl := hw.symm
                go_wp2_with fail
                go_ret
                obtain ⟨e1, e2, e3⟩ := HXX.out
                refine ⟨1, rfl, checkE_stop (by rw [HG.out]; exact ⟨h0, h4⟩) (by rw [HN.out]; exact n4) HD.out HL.out (.inr (.inr (.inl ⟨by rw [HLG.out]; omega, by rw [HM.out, HLG.out]; exact HNN.out, ⟨x, List.mem_of_getElem? e1, fun h => ha ?_⟩, rfl⟩))) (by decide), ?_⟩
                · rw [← HM2.out] at h; rw [← e2]; exact h.1
                · rw [HBE.out]; exact HB1.out
            · have e : t = m := by omega
              subst e
              go_wp2_with fail
              go_roundg (n - (k + 1))
              case measure => go_light; omega
              case rel =>
                refine ⟨k + 1, by omega, rfl, by go_num, HB1, HR1, HX1, hid fun j hj y hy => ?_⟩
                by_cases hjk : j < k
                · exact HD.out j hjk y hy
                · obtain rfl : j = k := by omega
                  rw [HL.out] at hy
                  cases hy
                  refine ⟨by rw [HLG.out]; omega, by rw [HM.out, HLG.out]; exact HNN.out, fun q hq => ?_⟩
                  obtain ⟨i, hi, rfl⟩ := List.getElem_of_mem hq
                  rw [← HM2.out]
                  exact HT.out i (by rw [← HM.out]; exact hi) _ (by simp)
        · have e1 : ((m : Int) != (N : Int)) = true := by simp; omega
          go_wp2_with (go_at_call 57; refine (HI.out _).mono ?_; rintro e w' ⟨rfl, hw⟩; obtain rfl := hw.symm)
          go_quiet (fail)
          go_wp2_with fail
          go_ret
          refine ⟨4, rfl, ?_, ?_⟩
          all_goals first | (rw [HBE.out]; have hal := HB.out.alloc (Nat.le_of_lt xl) (.cells #[.int .i64 (lk : Int), .slice ga m gc] 70); exact ⟨hal.os, hal.tape, hal.output, hal.size, hal.block⟩) | exact checkE_stop (by rw [HG.out]; exact ⟨h0, h4⟩) (by rw [HN.out]; exact n4) HD.out HL.out (.inr (.inl ⟨by rw [HLG.out]; omega, by rw [HM.out, HLG.out]; rw [HNN.out] at hmN; exact hmN, rfl⟩)) (by decide)
      · have hI : (decide ((0 : Int) ≤ lg) && decide (lg ≤ 4)) = false := by simp; omega
        have HI := hid (fun w => rin_any lg 0 4 w)
        rw [hI] at HI
        clear hI
        go_wp2_with (go_at_call 57; refine (HI.out _).mono ?_; rintro e w' ⟨rfl, hw⟩; obtain rfl := hw.symm)
        go_ret
        refine ⟨1, rfl, checkE_stop (by rw [HG.out]; exact ⟨h0, h4⟩) (by rw [HN.out]; exact n4) HD.out HL.out (.inl ⟨by rw [HLG.out]; exact hin, rfl⟩) (by decide), ?_⟩
        rw [HBE.out]
        exact HB.out.alloc (Nat.le_of_lt xl) _
    · have e : k = n := by omega
      subst e
      go_wp2_with fail
      go_ret
      refine ⟨0, rfl, checkE_all (by rw [HG.out]; exact ⟨h0, h4⟩) (by intro e; have := HN.out; rw [e] at this; simp at this; omega) (by rw [HN.out]; exact n4) (fun j x hx => HD.out j (by have := (List.getElem?_eq_some_iff.1 hx).1; rw [HN.out] at this; exact this) x hx), ?_⟩
      rw [HBE.out]
      exact HB.out

/-- Circuit, of every circuit. -/
theorem rcirc_any (c : CQ) (g : Int) (ao : Option Addr) (n cap : Nat) (A : Nat → Option Addr) (C : Nat → Nat) (w : World) (hg : c.log = g) (hn : c.layers.length = n) (hr : CRow w ao c.layers A C) :
    Calls Tryd.prog 32 #[.agg #[.int .i64 g, .slice ao n cap]] w fun e w' => ∃ x, e = .returned (.int .i64 x) ∧ checkE c x ∧ Below w.heap.size w w' := by
  by_cases h : 0 ≤ g ∧ g ≤ 4
  · by_cases hz : n = 0
    · subst hz
      exact (rcirc_none g ao cap w h.1 h.2).mono fun e w' ⟨he, hb⟩ => ⟨1, he, .inl ⟨.inr (List.eq_nil_of_length_eq_zero hn), rfl⟩, hb⟩
    · by_cases h4 : 4 < n
      · exact (rcirc_large g ao n cap w h.1 h.2 h4).mono fun e w' ⟨he, hb⟩ => ⟨2, he, .inr (.inl ⟨by rw [hg]; exact h, by rw [hn]; exact h4, rfl⟩), hb⟩
      · obtain ⟨b, off, rfl, _⟩ := hr (by intro e; rw [e] at hn; simp at hn; omega)
        exact rcirc_main c g b off n cap A C w hg hn h.1 h.2 (by omega) (by omega) hr
  · exact (rcirc_log g ao n cap w h).mono fun e w' ⟨he, hb⟩ => ⟨1, he, .inl ⟨.inl (by rw [hg]; exact h), rfl⟩, hb⟩

end Go.Proofs.YtoibgjkcdjodhaaDoor

/-
  A contract of tallyref's Shaped, for every proof and right circuits; it makes new blocks and writes nothing that was there.
-/
namespace Go.Proofs.YtoibgjkcdjodhaaDoor
open Go.RowKit
set_option linter.unusedVariables false
attribute [local go_sem ↓] Go.wp_at_zero Go.wp_at_succ

/-- What holds of the world all along: the circuit's box, the proof's box, and that nothing was written. -/
structure StP (w W : World) (B : Nat) (g : Int) (v : Value) (Bp : Nat) (vp : Value) : Prop where
  st : StW w W B g v
  pc : W.cell? ⟨Bp, 0, none⟩ = some vp
theorem StP.next {w W W' : World} {B : Nat} {g : Int} {v : Value} {Bp : Nat} {vp : Value} (h : StP w W B g v Bp vp) (hb : Below W.heap.size W W') : StP w W' B g v Bp vp := ⟨h.st.next hb, (hb.cell (World.block_lt_of_cell? W _ h.pc)).trans h.pc⟩
theorem StP.start (w : World) (g : Int) (v vp : Value) (t t' : TypeId) : StP w ((w.alloc (.cells #[.int .i64 g, v] t)).alloc (.cells #[vp] t')) w.heap.size g v (w.heap.size + 1) vp := by
  have h1 := StW.start w g v t
  have hal := (Below.refl (w.alloc (.cells #[.int .i64 g, v] t)).heap.size (w.alloc (.cells #[.int .i64 g, v] t))).alloc (Nat.le_refl _) (.cells #[vp] t')
  refine ⟨h1.next hal, ?_⟩
  have e : (w.alloc (.cells #[.int .i64 g, v] t)).heap.size = w.heap.size + 1 := by simp
  rw [← e, World.cell?_alloc_new]; rfl
/-- Part j is as it must be. -/
def partOk (c : CQ) (p : PQ) (j : Nat) : Prop := p.rn j = 2 * (partsQ c).lg (j + 1) ∧ p.ln j = (partsQ c).lg (j + 1) + 1 ∧ ∀ i, i < p.rn j → p.rl j i = 3
theorem lg_next {c : CQ} {n t i bk : Nat} (hn : c.layers.length = n) (hi : i + t + 1 = n) (hb : belowQ c i = (bk : Int)) : (partsQ c).lg (t + 1) = bk := by
  show (belowQ c (c.layers.length - (t + 1))).toNat = bk
  rw [hn, show n - (t + 1) = i from by omega, hb, Int.toNat_natCast]

set_option maxHeartbeats 4000000 in
set_option maxRecDepth 100000 in
theorem rshaped_any (c : CQ) (g : Int) (b off n cap : Nat) (A : Nat → Option Addr) (C : Nat → Nat) (ap : Option Addr) (np cp : Nat) (p : PQ) (m : PM) (w : World) (hg : c.log = g) (hn : c.layers.length = n) (hr : CRow w (some ⟨b, off, none⟩) c.layers A C) (hc : c.right) (hp : p.n = np) (hpr : PfRow w ap p m) :
    Calls Tryd.prog 20 #[.agg #[.int .i64 g, .slice (some ⟨b, off, none⟩) n cap], .agg #[.slice ap np cp]] w fun e w' => ∃ r : Bool, e = .returned (.bool r) ∧ (r = true ↔ shapedQ c p) ∧ Below w.heap.size w w' := by
  have n4 : n ≤ 4 := by have := hc.few; omega
  have HR := hid hr
  have HG := hid hg
  have HN := hid hn
  have HC := hid hc
  have HP := hid hp
  have HPR := hid hpr
  have HS0 := hid (StP.start w g (.slice (some ⟨b, off, none⟩) n cap) (.slice ap np cp) 24 28)
  clear hr hg hn hc hp hpr
  by_cases hnp : np = n
  · subst hnp
    have e1 : ((np : Int) != (np : Int)) = false := by simp
    go_enter Tryd.func20, Tryd.ntmps20
    go_wp2_with fail
    obtain ⟨B, hB⟩ : ∃ B, w.heap.size = B := ⟨_, rfl⟩
    have HS1 : Hid (StP w ((w.alloc (.cells #[.int .i64 g, .slice (some ⟨b, off, none⟩) np cap] 24)).alloc (.cells #[.slice ap np cp] 28)) B g (.slice (some ⟨b, off, none⟩) np cap) (B + 1) (.slice ap np cp)) := hid (by rw [← hB]; exact HS0.out)
    rw [hB]
    clear hB HS0
    generalize (w.alloc (.cells #[.int .i64 g, .slice (some ⟨b, off, none⟩) np cap] 24)).alloc (.cells #[.slice ap np cp] 28) = W1 at HS1 ⊢
    go_loopg [5] np (fun q i wr => ∃ t : Nat, t ≤ np ∧ q = np - t ∧ i = .int .i64 (t : Int) ∧ Hid (∀ j, j < t → partOk c p j) ∧ Hid (StP w wr B g (.slice (some ⟨b, off, none⟩) np cap) (B + 1) (.slice ap np cp)))
    case atStart => exact ⟨0, by omega, rfl, rfl, hid (fun j hj => absurd hj (by omega)), HS1⟩
    case round =>
      clear HS1
      obtain ⟨t, ht, rfl, rfl, HOK, HS⟩ := hrel
      obtain ⟨z0, z1, zl⟩ := HS.out.st.box
      have zp := HS.out.pc
      by_cases htl : t < np
      · obtain ⟨i, hi⟩ : ∃ i : Nat, i + t + 1 = np := ⟨np - 1 - t, by omega⟩
        obtain ⟨bk, hbk, bk4⟩ := belowQ_rng HC.out i
        have HLG := hid (lg_next HN.out hi hbk)
        have HBE : Hid (∀ W, Below w.heap.size w W → Calls Tryd.prog 44 #[.agg #[.int .i64 g, .slice (some ⟨b, off, none⟩) np cap], .int .i64 (i : Int)] W fun e w' => e = .returned (.int .i64 (bk : Int)) ∧ Below W.heap.size W w') := hid (fun W h => by rw [← hbk]; exact rbelow_any c g b off np cap i A C W HG.out HN.out n4 (by omega) (HR.out.kept h))
        have hni : (np : Int) - 1 - (t : Int) = (i : Int) := by omega
        have t1 : (t : Int) < (np : Int) := by omega
        have t0 : (0 : Int) ≤ (t : Int) := by omega
        clear hbk hi
        go_wp2_with fail
        refine (HBE.out _ HS.out.st.bel).mono ?_
        rintro e w2 ⟨rfl, hb⟩
        have HS2 := hid (HS.out.next hb)
        clear hb HS z0 z1 zl zp hni HBE
        obtain ⟨z0, z1, zl⟩ := HS2.out.st.box
        have zp := HS2.out.pc
        obtain ⟨pb, po, rfl, hcl⟩ := HPR.out.kept HS2.out.st.bel (by rw [HP.out]; omega)
        obtain ⟨y0, y1, y2, _⟩ := hcl t (by rw [HP.out]; exact htl)
        rw [Nat.mul_comm 2 t] at y0 y1
        obtain ⟨ra, hra⟩ : ∃ x, m.ra t = x := ⟨_, rfl⟩
        obtain ⟨rn, hrn⟩ : ∃ x, p.rn t = x := ⟨_, rfl⟩
        obtain ⟨rc, hrc⟩ : ∃ x, m.rc t = x := ⟨_, rfl⟩
        obtain ⟨la, hla⟩ : ∃ x, m.la t = x := ⟨_, rfl⟩
        obtain ⟨ln, hln⟩ : ∃ x, p.ln t = x := ⟨_, rfl⟩
        obtain ⟨lc, hlc⟩ : ∃ x, m.lc t = x := ⟨_, rfl⟩
        rw [hra, hrn, hrc] at y0
        rw [hla, hln, hlc] at y1
        rw [hra, hrn] at y2
        have HLR := hid y2
        have HRN := hid hrn
        have HLN := hid hln
        clear hcl y2 hra hrn hrc hla hln hlc
        by_cases hr1 : rn = 2 * bk
        · have e2 : ((rn : Int) != 2 * (bk : Int)) = false := neq_of (by omega)
          by_cases hl1 : ln = bk + 1
          · have e3 : ((ln : Int) != (bk : Int) + 1) = false := neq_of (by omega)
            have HRL := hid (And.intro hr1 hl1)
            go_wp2_with fail
            clear e2 e3
            go_loopg [7] rn (fun q i wx => ∃ u : Nat, u ≤ rn ∧ q = rn - u ∧ i = .int .i64 (u : Int) ∧ wx = w2 ∧ Hid (∀ i, i < u → p.rl t i = 3))
            case atStart => exact ⟨0, by omega, rfl, rfl, rfl, hid (fun i hi => absurd hi (by omega))⟩
            case round =>
              obtain ⟨u, hu, rfl, rfl, hwx, HU⟩ := hrel
              subst hwx
              by_cases hul : u < rn
              · obtain ⟨rb, ro, rfl, hrl⟩ := HLR.out (by omega)
                have x0 := (hrl u hul).1
                obtain ⟨q1, hq1⟩ : ∃ x, m.A t u = x := ⟨_, rfl⟩
                obtain ⟨q2, hq2⟩ : ∃ x, p.rl t u = x := ⟨_, rfl⟩
                obtain ⟨q3, hq3⟩ : ∃ x, m.C t u = x := ⟨_, rfl⟩
                rw [hq1, hq2, hq3] at x0
                have HQ2 := hid hq2
                clear hrl hq1 hq2 hq3
                have u0 : (0 : Int) ≤ (u : Int) := by omega
                have u1 : (u : Int) < (rn : Int) := by omega
                have u2 : (u : Int) < 2 * (bk : Int) := by omega
                by_cases h3 : q2 = 3
                · have e4 : ((q2 : Int) != 3) = false := by rw [h3]; rfl
                  have HUN : Hid (∀ i, i < u + 1 → p.rl t i = 3) := hid (fun i hi => by
                    by_cases e : i = u
                    · rw [e, HQ2.out]; exact h3
                    · exact HU.out i (by omega))
                  go_wp2_with fail
                  go_roundg (rn - (u + 1))
                  case measure => go_light; omega
                  case rel => exact ⟨u + 1, by omega, rfl, by go_num, rfl, HUN⟩
                · have e4 : ((q2 : Int) != 3) = true := by simp; omega
                  have HNO : Hid (¬ shapedQ c p) := hid (fun h => h3 (by have := (h.2 t (by rw [HP.out]; exact htl)).2.2 u (by rw [HRN.out]; exact hul); rw [HQ2.out] at this; exact this))
                  go_wp2_with fail
                  go_ret
                  exact ⟨false, rfl, ⟨fun h => absurd h Bool.false_ne_true, fun h => absurd h HNO.out⟩, HS2.out.st.bel⟩
              · have u2 : ¬ ((u : Int) < 2 * (bk : Int)) := by omega
                have HOKN : Hid (∀ j, j < t + 1 → partOk c p j) := hid (fun j hj => by
                  by_cases e : j = t
                  · rw [e]
                    exact ⟨by rw [HRN.out, HLG.out]; exact HRL.out.1, by rw [HLN.out, HLG.out]; exact HRL.out.2, fun i hi => HU.out i (by rw [HRN.out] at hi; omega)⟩
                  · exact HOK.out j (by omega))
                go_wp2_with fail
                go_roundg (np - (t + 1))
                case measure => go_light; omega
                case rel => exact ⟨t + 1, by omega, rfl, by go_num, HOKN, HS2⟩
          · have e3 : ((ln : Int) != (bk : Int) + 1) = true := by simp; omega
            have HNO : Hid (¬ shapedQ c p) := hid (fun h => hl1 (by have := (h.2 t (by rw [HP.out]; exact htl)).2.1; rw [HLN.out, HLG.out] at this; exact this))
            go_wp2_with fail
            go_ret
            exact ⟨false, rfl, ⟨fun h => absurd h Bool.false_ne_true, fun h => absurd h HNO.out⟩, HS2.out.st.bel⟩
        · have e2 : ((rn : Int) != 2 * (bk : Int)) = true := by simp; omega
          have HNO : Hid (¬ shapedQ c p) := hid (fun h => hr1 (by have := (h.2 t (by rw [HP.out]; exact htl)).1; rw [HRN.out, HLG.out] at this; exact this))
          go_wp2_with fail
          go_ret
          exact ⟨false, rfl, ⟨fun h => absurd h Bool.false_ne_true, fun h => absurd h HNO.out⟩, HS2.out.st.bel⟩
      · have e : t = np := by omega
        subst e
        have HYES : Hid (shapedQ c p) := hid ⟨by rw [HP.out, HN.out], fun j hj => HOK.out j (by rw [HP.out] at hj; exact hj)⟩
        go_wp2_with fail
        go_ret
        exact ⟨true, rfl, ⟨fun _ => HYES.out, fun _ => rfl⟩, HS.out.st.bel⟩
  · have e1 : ((np : Int) != (n : Int)) = true := by simp; omega
    have HNO : Hid (¬ shapedQ c p) := hid (fun h => hnp (by rw [← HP.out, h.1, HN.out]))
    go_enter Tryd.func20, Tryd.ntmps20
    go_wp2_with fail
    go_ret
    exact ⟨false, rfl, ⟨fun h => absurd h Bool.false_ne_true, fun h => absurd h HNO.out⟩, HS0.out.st.bel⟩

end Go.Proofs.YtoibgjkcdjodhaaDoor
