/-
  Several texts in one: RefIn, RefC, RefC2, CircF, Tiny, Keep, Gkl1, Gkl2; each opens with what it holds.
-/
import Derived.Test.YtmhifjdgfhgajafDoorChecked
import Derived.Test.YtmhifjdgfhgajafDoorOps
import Derived.WalkKit
import Derived.Test.YtmhifjdgfhgajafDoorCirc
import Derived.Deep.RegionWith
import Derived.Deep.LoopGhost
import Derived.Deep.Light
import Derived.Deep.DrawnRows
import Derived.Deep.QuietTactic
import Derived.Test.YtmhifjdgfhgajafDoorCircM
import Derived.Test.YtmhifjdgfhgajafDoorCircC
import Derived.Test.YtmhifjdgfhgajafDoorOwn
import Derived.Laws.CopyOwn
import Derived.MapKept
import Derived.Deep.OwnRows
import Derived.Test.YtmhifjdgfhgajafDoorMGkB
import Derived.Deep.RegionHeld3
import Derived.Test.YtmhifjdgfhgajafDoorMFiat
/-
  A contract of tallyref's In, for every input; nothing is written.
-/
namespace Go.Proofs.YtmhifjdgfhgajafDoor
open Go.RowKit
set_option linter.unusedVariables false

set_option maxHeartbeats 400000 in
theorem rin_any (n a b : Int) (w : World) : Calls Tryd.prog 29 #[.int .i64 n, .int .i64 a, .int .i64 b] w fun e w' => e = .returned (.bool (decide (a ≤ n) && decide (n ≤ b))) ∧ w' = w := by
  by_cases h1 : a ≤ n
  · by_cases h2 : n ≤ b
    · go_enter Tryd.func29, Tryd.ntmps29
      go_wp2
      go_ret
      exact ⟨by simp [h1, h2], rfl⟩
    · go_enter Tryd.func29, Tryd.ntmps29
      go_wp2
      go_ret
      exact ⟨by simp [h2], rfl⟩
  · go_enter Tryd.func29, Tryd.ntmps29
    go_wp2
    go_ret
    exact ⟨by simp; omega, rfl⟩

end Go.Proofs.YtmhifjdgfhgajafDoor

/-
  Contracts of tallyref's Below and Circuit, for every circuit; they make new blocks and write nothing that was there.
-/
namespace Go.Proofs.YtmhifjdgfhgajafDoor
open Go.RowKit
set_option linter.unusedVariables false
attribute [local go_sem ↓] Go.wp_at_zero Go.wp_at_succ

set_option maxHeartbeats 1000000 in
theorem rbelow_zero (g : Int) (ao : Option Addr) (n cap : Nat) (w : World) :
    Calls Tryd.prog 13 #[.agg #[.int .i64 g, .slice ao n cap], .int .i64 0] w fun e w' => e = .returned (.int .i64 g) ∧ Below w.heap.size w w' := by
  go_enter Tryd.func13, Tryd.ntmps13
  go_wp2_with fail
  go_ret
  exact ⟨rfl, (Below.refl _ w).alloc (Nat.le_refl _) _⟩
set_option maxHeartbeats 1000000 in
theorem rbelow_at (g : Int) (b off n cap i : Nat) (x : Int) (w : World) (hi : i < n) (hn : n ≤ 4) (hc : w.cell? ⟨b, off + 2 * i, none⟩ = some (.int .i64 x)) :
    Calls Tryd.prog 13 #[.agg #[.int .i64 g, .slice (some ⟨b, off, none⟩) n cap], .int .i64 ((i : Int) + 1)] w fun e w' => e = .returned (.int .i64 x) ∧ Below w.heap.size w w' := by
  have hb : b < w.heap.size := World.block_lt_of_cell? w _ hc
  have hc2 : ∀ o, (w.alloc o).cell? ⟨b, off + i * 2, none⟩ = some (.int .i64 x) := fun o => by rw [Nat.mul_comm i 2, World.cell?_alloc_old _ _ _ (Nat.ne_of_lt hb)]; exact hc
  have k0 : ¬ ((i : Int) + 1 = 0) := by omega
  have k1 : (((i : Int) + 1) == 0) = false := beq_eq_false_iff_ne.2 k0
  have k2 : (0 : Int) ≤ (i : Int) := by omega
  have k3 : (i : Int) < (n : Int) := by omega
  clear hc
  go_enter Tryd.func13, Tryd.ntmps13
  go_wp2_with fail
  go_ret
  exact ⟨rfl, (Below.refl _ w).alloc (Nat.le_refl _) _⟩

end Go.Proofs.YtmhifjdgfhgajafDoor

/-
  A contract of tallyref's Circuit, for every circuit; it makes new blocks and writes nothing that was there.
-/
namespace Go.Proofs.YtmhifjdgfhgajafDoor
open Go.RowKit
set_option linter.unusedVariables false
attribute [local go_sem ↓] Go.wp_at_zero Go.wp_at_succ

set_option maxHeartbeats 1000000 in
theorem rcirc_log (g : Int) (ao : Option Addr) (n cap : Nat) (w : World) (h : ¬ (0 ≤ g ∧ g ≤ 4)) :
    Calls Tryd.prog 9 #[.agg #[.int .i64 g, .slice ao n cap]] w fun e w' => e = .returned (.int .i64 1) ∧ Below w.heap.size w w' := by
  have hI : (decide ((0 : Int) ≤ g) && decide (g ≤ 4)) = false := by simp; omega
  have HI := hid (fun w => rin_any g 0 4 w)
  rw [hI] at HI
  clear hI h
  go_enter Tryd.func9, Tryd.ntmps9
  go_wp2_with (go_at_call 29; refine (HI.out _).mono ?_; rintro e w' ⟨rfl, hw⟩; obtain rfl := hw.symm)
  go_ret
  exact ⟨rfl, (Below.refl _ w).alloc (Nat.le_refl _) _⟩
set_option maxHeartbeats 1000000 in
theorem rcirc_none (g : Int) (ao : Option Addr) (cap : Nat) (w : World) (h0 : 0 ≤ g) (h4 : g ≤ 4) :
    Calls Tryd.prog 9 #[.agg #[.int .i64 g, .slice ao 0 cap]] w fun e w' => e = .returned (.int .i64 1) ∧ Below w.heap.size w w' := by
  have hI : (decide ((0 : Int) ≤ g) && decide (g ≤ 4)) = true := by simp; omega
  have HI := hid (fun w => rin_any g 0 4 w)
  rw [hI] at HI
  clear hI
  go_enter Tryd.func9, Tryd.ntmps9
  go_wp2_with (go_at_call 29; refine (HI.out _).mono ?_; rintro e w' ⟨rfl, hw⟩; obtain rfl := hw.symm)
  go_ret
  exact ⟨rfl, (Below.refl _ w).alloc (Nat.le_refl _) _⟩
set_option maxHeartbeats 1000000 in
theorem rcirc_large (g : Int) (ao : Option Addr) (n cap : Nat) (w : World) (h0 : 0 ≤ g) (h4 : g ≤ 4) (hn : 4 < n) :
    Calls Tryd.prog 9 #[.agg #[.int .i64 g, .slice ao n cap]] w fun e w' => e = .returned (.int .i64 2) ∧ Below w.heap.size w w' := by
  have hI : (decide ((0 : Int) ≤ g) && decide (g ≤ 4)) = true := by simp; omega
  have HI := hid (fun w => rin_any g 0 4 w)
  rw [hI] at HI
  have n1 : ((n : Int) == 0) = false := beq_eq_false_iff_ne.2 (by omega)
  have n2 : (4 : Int) < (n : Int) := by omega
  clear hI
  go_enter Tryd.func9, Tryd.ntmps9
  go_wp2_with (go_at_call 29; refine (HI.out _).mono ?_; rintro e w' ⟨rfl, hw⟩; obtain rfl := hw.symm)
  go_ret
  exact ⟨rfl, (Below.refl _ w).alloc (Nat.le_refl _) _⟩

theorem rbelow_any (c : CQ) (g : Int) (b off n cap i : Nat) (A : Nat → Option Addr) (C : Nat → Nat) (w : World) (hg : c.log = g) (hn : c.layers.length = n) (n4 : n ≤ 4) (hi : i ≤ n) (hr : CRow w (some ⟨b, off, none⟩) c.layers A C) :
    Calls Tryd.prog 13 #[.agg #[.int .i64 g, .slice (some ⟨b, off, none⟩) n cap], .int .i64 (i : Int)] w fun e w' => e = .returned (.int .i64 (belowQ c i)) ∧ Below w.heap.size w w' := by
  cases i with
  | zero => rw [show belowQ c 0 = g from hg]; exact rbelow_zero g _ n cap w
  | succ i =>
    have hlt : i < c.layers.length := by omega
    obtain ⟨l, hl⟩ : ∃ l, c.layers[i]? = some l := ⟨c.layers[i], by simp [hlt]⟩
    obtain ⟨b', off', e, hc⟩ := hr (by intro e; rw [e] at hlt; simp at hlt)
    cases e
    rw [show belowQ c (i + 1) = l.log from by rw [belowQ, hl]; rfl, show ((i + 1 : Nat) : Int) = (i : Int) + 1 from by omega]
    exact rbelow_at g b off n cap i l.log w (by omega) n4 (hc i l hl).1

set_option maxHeartbeats 1000000 in
set_option maxRecDepth 100000 in
theorem rcirc_main (c : CQ) (g : Int) (b off n cap : Nat) (A : Nat → Option Addr) (C : Nat → Nat) (w : World) (hg : c.log = g) (hn : c.layers.length = n) (h0 : 0 ≤ g) (h4 : g ≤ 4) (n1 : 1 ≤ n) (n4 : n ≤ 4) (hr : CRow w (some ⟨b, off, none⟩) c.layers A C) :
    Calls Tryd.prog 9 #[.agg #[.int .i64 g, .slice (some ⟨b, off, none⟩) n cap]] w fun e w' => ∃ x, e = .returned (.int .i64 x) ∧ checkE c x ∧ Below w.heap.size w w' := by
  have hI : (decide ((0 : Int) ≤ g) && decide (g ≤ 4)) = true := by simp; omega
  have HI := hid (fun w => rin_any g 0 4 w)
  rw [hI] at HI
  have m1 : ((n : Int) == 0) = false := beq_eq_false_iff_ne.2 (by omega)
  have m2 : decide ((4 : Int) < (n : Int)) = false := by simp; omega
  have HR := hid hr
  have HG := hid hg
  have HN := hid hn
  clear hI hr hg hn
  go_enter Tryd.func9, Tryd.ntmps9
  go_wp2_with (go_at_call 29; refine (HI.out _).mono ?_; rintro e w' ⟨rfl, hw⟩; obtain rfl := hw.symm)
  obtain ⟨B, hB⟩ : ∃ B, w.heap.size = B := ⟨_, rfl⟩
  have HW0 := hid ((Below.refl B w).alloc (Nat.le_of_eq hB.symm) (.cells #[.int .i64 g, .slice (some ⟨b, off, none⟩) n cap] 24))
  have HR0 : Hid (CRow (w.alloc (.cells #[.int .i64 g, .slice (some ⟨b, off, none⟩) n cap] 24)) (some ⟨b, off, none⟩) c.layers A C) := hid (HR.out.kept (by rw [hB]; exact HW0.out))
  have HX0 : Hid (Box2 (w.alloc (.cells #[.int .i64 g, .slice (some ⟨b, off, none⟩) n cap] 24)) B (.int .i64 g) (.slice (some ⟨b, off, none⟩) n cap)) := hid (by rw [← hB]; exact Box2.new w _ _ _)
  rw [hB]
  generalize w.alloc (.cells #[.int .i64 g, .slice (some ⟨b, off, none⟩) n cap] 24) = W0 at HW0 HR0 HX0 ⊢
  have HBE := hid hB
  clear HR hB HI
  go_loopg [3] n (fun q i wr => ∃ k : Nat, k ≤ n ∧ q = n - k ∧ i = .int .i64 (k : Int) ∧ Hid (Below B w wr) ∧ Hid (CRow wr (some ⟨b, off, none⟩) c.layers A C) ∧ Hid (Box2 wr B (.int .i64 g) (.slice (some ⟨b, off, none⟩) n cap)) ∧ Hid (∀ j, j < k → ∀ x, c.layers[j]? = some x → x.right (belowQ c j)))
  case atStart => exact ⟨0, by omega, rfl, rfl, HW0, HR0, HX0, hid (fun j hj => absurd hj (by omega))⟩
  case round =>
    clear HW0 HR0 HX0
    obtain ⟨k, hk, rfl, rfl, HB, HR, HX, HD⟩ := hrel
    obtain ⟨x0, x1, xl⟩ := HX.out
    by_cases hlt : k < n
    · obtain ⟨l, hl⟩ : ∃ l, c.layers[k]? = some l := ⟨c.layers[k]'(by rw [HN.out]; exact hlt), by simp⟩
      obtain ⟨b', off', eb, hc⟩ := HR.out (by intro e; have := HN.out; rw [e] at this; simp at this; omega)
      cases eb
      obtain ⟨y0, y1, y2, y3⟩ := hc k l hl
      have yb : b < wr.heap.size := World.block_lt_of_cell? wr _ y0
      rw [Nat.mul_comm 2 k] at y0 y1
      clear hc
      have HY2 := hid y2
      have HL := hid hl
      clear y2 hl y3
      obtain ⟨lg, hlg⟩ : ∃ x, l.log = x := ⟨_, rfl⟩
      obtain ⟨m, hm⟩ : ∃ x, l.gates.length = x := ⟨_, rfl⟩
      obtain ⟨ga, hga⟩ : ∃ x, A k = x := ⟨_, rfl⟩
      obtain ⟨gc, hgc⟩ : ∃ x, C k = x := ⟨_, rfl⟩
      rw [hlg] at y0
      rw [hm, hga, hgc] at y1
      rw [hga] at HY2
      have HLG := hid hlg
      have HM := hid hm
      clear hlg hm hga hgc
      have k0 : (0 : Int) ≤ (k : Int) := by omega
      have k1 : (k : Int) < (n : Int) := by omega
      have hbel : Hid (∃ bk : Nat, belowQ c k = (bk : Int) ∧ bk ≤ 4) := hid (below_rng HG.out h0 h4 HD.out)
      by_cases hin : 0 ≤ lg ∧ lg ≤ 4
      · obtain ⟨lk, rfl⟩ : ∃ lk : Nat, lg = (lk : Int) := ⟨lg.toNat, by omega⟩
        have hI : (decide ((0 : Int) ≤ (lk : Int)) && decide ((lk : Int) ≤ 4)) = true := by simp; omega
        have HI := hid (fun w => rin_any (lk : Int) 0 4 w)
        rw [hI] at HI
        clear hI
        have lk4 : lk ≤ 4 := by omega
        obtain ⟨N, hN⟩ : ∃ N, N = 2 ^ lk := ⟨_, rfl⟩
        have sh : wrap64 ((2 : Int) ^ lk) = (N : Int) := by rw [hN]; exact shl_pow (by omega)
        have sh2 : IntKind.i64.wrap ((2 : Int) ^ lk) = (N : Int) := by rw [IntWalk.i64_left]; exact sh
        have HNN := hid hN
        clear hN
        by_cases hmN : m = N
        · subst hmN
          go_wp2_with (go_at_call 29; refine (HI.out _).mono ?_; rintro e w' ⟨rfl, hw⟩; obtain rfl := hw.symm)
          go_quiet (fail)
          go_wp2_with fail
          obtain ⟨bk, hbk, bk4⟩ := hbel.out
          have HL0 := hid (Box2.new wr (.int .i64 (lk : Int)) (.slice ga m gc) 39)
          have hal := (Below.refl wr.heap.size wr).alloc (Nat.le_refl _) (.cells #[.int .i64 (lk : Int), .slice ga m gc] 39)
          have HB0 := hid (HB.out.alloc (Nat.le_of_lt xl) (.cells #[.int .i64 (lk : Int), .slice ga m gc] 39))
          have HX0 := hid (HX.out.kept hal)
          have HR0 := hid (HR.out.kept hal)
          have HY0 := hid (HY2.out.kept hal)
          clear x0 x1 y0 y1 HX HR HY2 hal HB yb HI
          obtain ⟨L, hL⟩ : ∃ L, wr.heap.size = L := ⟨_, rfl⟩
          rw [hL] at HL0 xl ⊢
          clear hL
          generalize wr.alloc (.cells #[.int .i64 (lk : Int), .slice ga m gc] 39) = W1 at HL0 HB0 HX0 HR0 HY0 ⊢
          refine (rbelow_any c g b off n cap k A C _ HG.out HN.out n4 (by omega) (by exact HR0.out)).mono ?_
          rintro e w1 ⟨rfl, hb1⟩
          have hb2 : Below W1.heap.size W1 w1 := ⟨hb1.os, hb1.tape, hb1.output, hb1.size, hb1.block⟩
          have HB1 := hid (HB0.out.trans (hb2.mono (Nat.le_trans (Nat.le_of_lt xl) (Nat.le_of_lt HL0.out.lt))))
          have HX1 := hid (HX0.out.kept hb2)
          have HR1 := hid (HR0.out.kept hb2)
          have HY1 := hid (HY0.out.kept hb2)
          obtain ⟨z0, z1, zl⟩ := HL0.out.kept hb2
          clear hb1 hb2 HL0 HX0 HR0 HY0 HB0 hbel
          rw [hbk]
          obtain ⟨M, hM⟩ : ∃ M, M = 2 ^ bk := ⟨_, rfl⟩
          have shM : wrap64 ((2 : Int) ^ bk) = (M : Int) := by rw [hM]; exact shl_pow (by omega)
          have M1 : 1 ≤ M := by rw [hM]; exact Nat.one_le_two_pow
          have M2 : M ≤ 16 := by rw [hM]; exact Nat.le_trans (Nat.pow_le_pow_right (by omega) bk4) (by decide)
          have HM2 : Hid ((M : Int) = ((2 ^ (belowQ c k).toNat : Nat) : Int)) := hid (by rw [hM, hbk]; simp)
          clear hM hbk sh sh2
          have m16 : m ≤ 16 := by rw [HNN.out]; exact Nat.le_trans (Nat.pow_le_pow_right (by omega) lk4) (by decide)
          go_wp2_with fail
          clear shM
          go_loopg [6] m (fun q i wx => ∃ t : Nat, t ≤ m ∧ q = m - t ∧ i = .int .i64 (t : Int) ∧ wx = w1 ∧ Hid (∀ j, j < t → ∀ x, l.gates[j]? = some x → gateOk (M : Int) x))
          case atStart => exact ⟨0, by omega, rfl, rfl, rfl, hid (fun j hj => absurd hj (by omega))⟩
          case round =>
            obtain ⟨t, ht, rfl, rfl, hwx, HT⟩ := hrel
            subst hwx
            by_cases htl : t < m
            · obtain ⟨x, hx⟩ : ∃ x, l.gates[t]? = some x := ⟨l.gates[t]'(by rw [HM.out]; exact htl), by simp⟩
              obtain ⟨gb, go, rfl, hgc⟩ := HY1.out (by intro e; have := HM.out; rw [e] at this; simp at this; omega)
              obtain ⟨_, q1, q2⟩ := hgc t x hx
              rw [Nat.mul_comm 3 t] at q1 q2
              obtain ⟨xa, hxa⟩ : ∃ v, x.a = v := ⟨_, rfl⟩
              obtain ⟨xb, hxb⟩ : ∃ v, x.b = v := ⟨_, rfl⟩
              rw [hxa] at q1
              rw [hxb] at q2
              have HXX := hid (And.intro hx (And.intro hxa hxb))
              clear hgc hx hxa hxb
              have t0 : (0 : Int) ≤ (t : Int) := by omega
              have t1 : (t : Int) < (m : Int) := by omega
              have HIA := hid (fun w => rin_any xa 0 ((M : Int) - 1) w)
              have HIB := hid (fun w => rin_any xb 0 ((M : Int) - 1) w)
              by_cases ha : 0 ≤ xa ∧ xa < M
              · have hI : (decide ((0 : Int) ≤ xa) && decide (xa ≤ (M : Int) - 1)) = true := by simp; omega
                rw [hI] at HIA
                clear hI
                by_cases hb : 0 ≤ xb ∧ xb < M
                · have hI : (decide ((0 : Int) ≤ xb) && decide (xb ≤ (M : Int) - 1)) = true := by simp; omega
                  rw [hI] at HIB
                  clear hI
                  go_wp2_with fail
                  refine (HIA.out _).mono ?_
                  rintro e w' ⟨rfl, hw⟩
                  obtain rfl := hw.symm
                  go_wp2_with fail
                  refine (HIB.out _).mono ?_
                  rintro e w' ⟨rfl, hw⟩
                  obtain rfl := hw.symm
                  go_wp2_with fail
                  go_roundg (m - (t + 1))
                  case measure => go_light; omega
                  case rel =>
                    refine ⟨t + 1, by omega, rfl, by go_num, rfl, hid fun j hj y hy => ?_⟩
                    by_cases hjt : j < t
                    · exact HT.out j hjt y hy
                    · obtain rfl : j = t := by omega
                      obtain ⟨e1, e2, e3⟩ := HXX.out
                      rw [e1] at hy
                      cases hy
                      exact ⟨by rw [e2]; exact ha, by rw [e3]; exact hb⟩
                · have hI : (decide ((0 : Int) ≤ xb) && decide (xb ≤ (M : Int) - 1)) = false := by simp; omega
                  rw [hI] at HIB
                  clear hI
                  go_wp2_with fail
                  refine (HIA.out _).mono ?_
                  rintro e w' ⟨rfl, hw⟩
                  obtain rfl := hw.symm
                  go_wp2_with fail
                  refine (HIB.out _).mono ?_
                  rintro e w' ⟨rfl, hw⟩
                  obtain rfl := hw.symm
                  go_wp2_with fail
                  go_ret
                  obtain ⟨e1, e2, e3⟩ := HXX.out
                  refine ⟨1, rfl, checkE_stop (by rw [HG.out]; exact ⟨h0, h4⟩) (by rw [HN.out]; exact n4) HD.out HL.out (.inr (.inr (.inl ⟨by rw [HLG.out]; omega, by rw [HM.out, HLG.out]; exact HNN.out, ⟨x, List.mem_of_getElem? e1, fun h => hb ?_⟩, rfl⟩))) (by decide), ?_⟩
                  · rw [← HM2.out] at h; rw [← e3]; exact h.2
                  · rw [HBE.out]; exact HB1.out
              · have hI : (decide ((0 : Int) ≤ xa) && decide (xa ≤ (M : Int) - 1)) = false := by simp; omega
                rw [hI] at HIA
                clear hI
                go_wp2_with fail
                refine (HIA.out _).mono ?_
                rintro e w' ⟨rfl, hw⟩
                obtain rfl := hw.symm
                go_wp2_with fail
                go_ret
                obtain ⟨e1, e2, e3⟩ := HXX.out
                refine ⟨1, rfl, checkE_stop (by rw [HG.out]; exact ⟨h0, h4⟩) (by rw [HN.out]; exact n4) HD.out HL.out (.inr (.inr (.inl ⟨by rw [HLG.out]; omega, by rw [HM.out, HLG.out]; exact HNN.out, ⟨x, List.mem_of_getElem? e1, fun h => ha ?_⟩, rfl⟩))) (by decide), ?_⟩
                · rw [← HM2.out] at h; rw [← e2]; exact h.1
                · rw [HBE.out]; exact HB1.out
            · have e : t = m := by omega
              subst e
              go_wp2_with fail
              go_roundg (n - (k + 1))
              case measure => go_light; omega
              case rel =>
                refine ⟨k + 1, by omega, rfl, by go_num, HB1, HR1, HX1, hid fun j hj y hy => ?_⟩
                by_cases hjk : j < k
                · exact HD.out j hjk y hy
                · obtain rfl : j = k := by omega
                  rw [HL.out] at hy
                  cases hy
                  refine ⟨by rw [HLG.out]; omega, by rw [HM.out, HLG.out]; exact HNN.out, fun q hq => ?_⟩
                  obtain ⟨i, hi, rfl⟩ := List.getElem_of_mem hq
                  rw [← HM2.out]
                  exact HT.out i (by rw [← HM.out]; exact hi) _ (by simp)
        · have e1 : ((m : Int) != (N : Int)) = true := by simp; omega
          go_wp2_with (go_at_call 29; refine (HI.out _).mono ?_; rintro e w' ⟨rfl, hw⟩; obtain rfl := hw.symm)
          go_quiet (fail)
          go_wp2_with fail
          go_ret
          refine ⟨4, rfl, ?_, ?_⟩
          all_goals first | (rw [HBE.out]; have hal := HB.out.alloc (Nat.le_of_lt xl) (.cells #[.int .i64 (lk : Int), .slice ga m gc] 39); exact ⟨hal.os, hal.tape, hal.output, hal.size, hal.block⟩) | exact checkE_stop (by rw [HG.out]; exact ⟨h0, h4⟩) (by rw [HN.out]; exact n4) HD.out HL.out (.inr (.inl ⟨by rw [HLG.out]; omega, by rw [HM.out, HLG.out]; rw [HNN.out] at hmN; exact hmN, rfl⟩)) (by decide)
      · have hI : (decide ((0 : Int) ≤ lg) && decide (lg ≤ 4)) = false := by simp; omega
        have HI := hid (fun w => rin_any lg 0 4 w)
        rw [hI] at HI
        clear hI
        go_wp2_with (go_at_call 29; refine (HI.out _).mono ?_; rintro e w' ⟨rfl, hw⟩; obtain rfl := hw.symm)
        go_ret
        refine ⟨1, rfl, checkE_stop (by rw [HG.out]; exact ⟨h0, h4⟩) (by rw [HN.out]; exact n4) HD.out HL.out (.inl ⟨by rw [HLG.out]; exact hin, rfl⟩) (by decide), ?_⟩
        rw [HBE.out]
        exact HB.out.alloc (Nat.le_of_lt xl) _
    · have e : k = n := by omega
      subst e
      go_wp2_with fail
      go_ret
      refine ⟨0, rfl, checkE_all (by rw [HG.out]; exact ⟨h0, h4⟩) (by intro e; have := HN.out; rw [e] at this; simp at this; omega) (by rw [HN.out]; exact n4) (fun j x hx => HD.out j (by have := (List.getElem?_eq_some_iff.1 hx).1; rw [HN.out] at this; exact this) x hx), ?_⟩
      rw [HBE.out]
      exact HB.out

/-- Circuit, of every circuit. -/
theorem rcirc_any (c : CQ) (g : Int) (ao : Option Addr) (n cap : Nat) (A : Nat → Option Addr) (C : Nat → Nat) (w : World) (hg : c.log = g) (hn : c.layers.length = n) (hr : CRow w ao c.layers A C) :
    Calls Tryd.prog 9 #[.agg #[.int .i64 g, .slice ao n cap]] w fun e w' => ∃ x, e = .returned (.int .i64 x) ∧ checkE c x ∧ Below w.heap.size w w' := by
  by_cases h : 0 ≤ g ∧ g ≤ 4
  · by_cases hz : n = 0
    · subst hz
      exact (rcirc_none g ao cap w h.1 h.2).mono fun e w' ⟨he, hb⟩ => ⟨1, he, .inl ⟨.inr (List.eq_nil_of_length_eq_zero hn), rfl⟩, hb⟩
    · by_cases h4 : 4 < n
      · exact (rcirc_large g ao n cap w h.1 h.2 h4).mono fun e w' ⟨he, hb⟩ => ⟨2, he, .inr (.inl ⟨by rw [hg]; exact h, by rw [hn]; exact h4, rfl⟩), hb⟩
      · obtain ⟨b, off, rfl, _⟩ := hr (by intro e; rw [e] at hn; simp at hn; omega)
        exact rcirc_main c g b off n cap A C w hg hn h.1 h.2 (by omega) (by omega) hr
  · exact (rcirc_log g ao n cap w h).mono fun e w' ⟨he, hb⟩ => ⟨1, he, .inl ⟨.inl (by rw [hg]; exact h), rfl⟩, hb⟩

end Go.Proofs.YtmhifjdgfhgajafDoor

/-
  Plain: of a right circuit all numbers are small; the law's own tiny circuit; no program in it.
-/
namespace Go.Proofs.YtmhifjdgfhgajafDoor
set_option linter.unusedVariables false

theorem pow_le16 {k : Int} (h : k ≤ 4) : 2 ^ k.toNat ≤ 16 := Nat.le_trans (Nat.pow_le_pow_right (by omega) (show k.toNat ≤ 4 by omega)) (Nat.le_refl 16)
theorem layersR_small : ∀ (ls : List LQ) (k : Int), k ≤ 4 → layersR k ls → ∀ l ∈ ls, (0 ≤ l.log ∧ l.log ≤ 4) ∧ l.gates.length ≤ 16 ∧ ∀ q ∈ l.gates, (0 ≤ q.a ∧ q.a < 100) ∧ 0 ≤ q.b ∧ q.b < 100
  | [], _, _, _ => by simp
  | x :: r, k, hk, h => by
    intro l hl
    obtain ⟨⟨hx1, hx2, hx3⟩, hr⟩ := h
    rcases List.mem_cons.1 hl with rfl | hl
    · refine ⟨hx1, by rw [hx2]; exact pow_le16 hx1.2, fun q hq => ?_⟩
      obtain ⟨⟨a0, a1⟩, b0, b1⟩ := hx3 q hq
      have := pow_le16 hk
      exact ⟨⟨a0, by omega⟩, b0, by omega⟩
    · exact layersR_small r x.log hx1.2 hr l hl
theorem right_small {c : CQ} (h : c.right) : ∀ l ∈ c.layers, (0 ≤ l.log ∧ l.log ≤ 4) ∧ l.gates.length ≤ 16 ∧ ∀ q ∈ l.gates, (0 ≤ q.a ∧ q.a < 100) ∧ 0 ≤ q.b ∧ q.b < 100 := layersR_small _ _ h.log.2 h.each
theorem right_fits {c : CQ} (h : c.right) : c.fits := by
  have hs := right_small h
  have hl := h.log
  intro x hx
  rcases List.mem_cons.1 hx with rfl | hx
  · show 0 ≤ c.log ∧ c.log < 100
    omega
  · obtain ⟨l, hl1, hl2⟩ := List.mem_flatMap.1 hx
    obtain ⟨h1, h2, h3⟩ := hs l hl1
    rcases List.mem_cons.1 hl2 with rfl | hl2
    · show 0 ≤ l.log ∧ l.log < 100
      omega
    · obtain ⟨q, hq, rfl⟩ := List.mem_map.1 hl2
      exact h3 q hq
def tinyQ : CQ := ⟨1, [⟨1, [⟨true, 0, 1⟩, ⟨false, 0, 1⟩]⟩]⟩
theorem tiny_right : tinyQ.right := by
  refine ⟨by decide, by decide, by decide, ⟨by decide, by decide, ?_⟩, trivial⟩
  intro q hq
  simp at hq
  rcases hq with rfl | rfl <;> exact ⟨by decide, by decide⟩

end Go.Proofs.YtmhifjdgfhgajafDoor

/-
  A contract of the laws' own tiny circuit; what it makes is new.
-/
namespace Go.Proofs.YtmhifjdgfhgajafDoor
open Go.RowKit
set_option linter.unusedVariables false
attribute [local go_sem ↓] Go.wp_at_zero Go.wp_at_succ

theorem results_cell1 {fn : Func} {p : Tmp} {ty : TypeId} (h : fn.results = #[.cell p ty]) (tmps : Array Value) (P : Program) (w : World) :
    (results fn tmps).run P w = ((asAddr (tmps.getD p undef)).run P w).andThen fun a w₁ => (loadVar ty a).run P w₁ := by
  simp only [results, h]
  simp [Sem.run_bind, Result.andThen]
theorem load_circ1 {w : World} {b : Nat} {x0 x1 : Value} (c0 : w.cell? ⟨b, 0, none⟩ = some x0) (c1 : w.cell? ⟨b, 1, none⟩ = some x1) : (loadVar 24 ⟨b, 0, none⟩).run Tryd.prog w = .ok (.agg #[x0, x1]) w := by
  go_simp
theorem results_circ1 {fn : Func} {p : Tmp} (h : fn.results = #[.cell p 24]) {tmps : Array Value} {w : World} {b : Nat} {x0 x1 : Value} (hp : tmps.getD p undef = .pointer (some ⟨b, 0, none⟩)) (c0 : w.cell? ⟨b, 0, none⟩ = some x0) (c1 : w.cell? ⟨b, 1, none⟩ = some x1) :
    (results fn tmps).run Tryd.prog w = .ok (.agg #[x0, x1]) w := by
  rw [results_cell1 h, hp]
  simp [asAddr, Result.andThen, load_circ1 c0 c1]
set_option maxHeartbeats 1000000 in
set_option maxRecDepth 100000 in
theorem tiny_any (w : World) :
    Calls Tryd.prog 8 #[] w fun e w' => ∃ (b : Nat) (A : Nat → Option Addr) (C : Nat → Nat), e = .returned (.agg #[.int .i64 1, .slice (some ⟨b, 0, none⟩) 1 1]) ∧ CRow w' (some ⟨b, 0, none⟩) tinyQ.layers A C ∧ Below w.heap.size w w' := by
  go_enter Tryd.func8, Tryd.ntmps8
  go_wp2_with fail
  refine bodyPost_ret (results_circ1 rfl rfl (by rw [World.cell?_alloc_old _ _ _ (by simp <;> omega), World.cell?_alloc_old _ _ _ (by simp <;> omega), World.cell?_alloc_new]; rfl) (by rw [World.cell?_alloc_old _ _ _ (by simp <;> omega), World.cell?_alloc_old _ _ _ (by simp <;> omega), World.cell?_alloc_new]; rfl)) rfl ?_
  refine ⟨w.heap.size + 1 + 1, fun _ => some ⟨w.heap.size + 1, 0, none⟩, fun _ => 2, rfl, ?_, (((Below.refl w.heap.size w).alloc (Nat.le_refl _) _).alloc (by simp) _).alloc (by simp; omega) _⟩
  generalize hO1 : Obj.cells #[Value.int .i64 1, .slice (some ⟨w.heap.size + 1 + 1, 0, none⟩) 1 1] 24 = o1
  have s1 : (w.alloc o1).heap.size = w.heap.size + 1 := by simp
  generalize w.alloc o1 = w1 at s1 ⊢
  generalize hO2 : Obj.cells #[Value.bool true, .int .i64 0, .int .i64 1, .bool false, .int .i64 0, .int .i64 1] 67 = o2
  have s2 : (w1.alloc o2).heap.size = w.heap.size + 1 + 1 := by simp [s1]
  have g : ∀ j, (w1.alloc o2).cell? ⟨w.heap.size + 1, j, none⟩ = (#[Value.bool true, .int .i64 0, .int .i64 1, .bool false, .int .i64 0, .int .i64 1] : Array Value)[j]? := fun j => by
    rw [← hO2, ← s1, World.cell?_alloc_new]
  generalize w1.alloc o2 = w2 at s2 g ⊢
  have hl : ∀ j, (w2.alloc (Obj.cells #[Value.int .i64 1, .slice (some ⟨w.heap.size + 1, 0, none⟩) 2 2] 39)).cell? ⟨w.heap.size + 1 + 1, j, none⟩ = (#[Value.int .i64 1, .slice (some ⟨w.heap.size + 1, 0, none⟩) 2 2] : Array Value)[j]? := fun j => by
    rw [← s2, World.cell?_alloc_new]
  have g' : ∀ j o, (w2.alloc o).cell? ⟨w.heap.size + 1, j, none⟩ = (#[Value.bool true, .int .i64 0, .int .i64 1, .bool false, .int .i64 0, .int .i64 1] : Array Value)[j]? := fun j o => by
    rw [World.cell?_alloc_old _ _ _ (by show w.heap.size + 1 ≠ w2.heap.size; omega)]; exact g j
  intro _
  refine ⟨_, _, rfl, fun i l hi => ?_⟩
  match i, hi with
  | 0, hi =>
    obtain rfl : (⟨1, [⟨true, 0, 1⟩, ⟨false, 0, 1⟩]⟩ : LQ) = l := by simpa [tinyQ] using hi
    refine ⟨(hl 0).trans rfl, (hl 1).trans rfl, fun _ => ⟨_, _, rfl, fun j q hq => ?_⟩, Nat.le_refl 2⟩
    match j, hq with
    | 0, hq =>
      obtain rfl : (⟨true, 0, 1⟩ : GQ) = q := by simpa using hq
      exact ⟨(g' 0 _).trans rfl, (g' 1 _).trans rfl, (g' 2 _).trans rfl⟩
    | 1, hq =>
      obtain rfl : (⟨false, 0, 1⟩ : GQ) = q := by simpa using hq
      exact ⟨(g' 3 _).trans rfl, (g' 4 _).trans rfl, (g' 5 _).trans rfl⟩
    | j + 2, hq => simp at hq
  | i + 1, hi => simp [tinyQ] at hi

end Go.Proofs.YtmhifjdgfhgajafDoor

/-
  Contracts of tallyref's Rest, and of tallykeep's table and point: a new row with a list's first numbers, the rest 0; nothing that was there is written.
-/
namespace Go.Proofs.YtmhifjdgfhgajafDoor
open Go.RowKit
set_option linter.unusedVariables false

set_option maxHeartbeats 1000000 in
theorem rest_any (n m : Int) (w : World) (n0 : -9223372036854775808 ≤ n) (n1 : n ≤ 9223372036854775807) (m0 : 1 ≤ m) (m1 : m ≤ 4611686018427387904) :
    Calls Tryd.prog 10 #[.int .i64 n, .int .i64 m] w fun e w' => e = .returned (.int .i64 (n % m)) ∧ w' = w := by
  have hm : (m == 0) = false := beq_eq_false_iff_ne.2 (by omega)
  have hlo : 0 ≤ n % m := Int.emod_nonneg n (by omega)
  have hhi : n % m < m := Int.emod_lt_of_pos n (by omega)
  by_cases h : n.tmod m < 0
  · have e : n % m = n.tmod m + m := by
      rw [Int.tmod_eq_emod] at h ⊢
      split at h
      · omega
      · rw [if_neg (by assumption)]; omega
    have w1 : IntKind.i64.wrap (n.tmod m + m) = n % m := by rw [← e]; exact IntWalk.i64_in _ (by omega)
    have w2 : wrap64 (n.tmod m + m) = n % m := by rw [← e]; exact IntWalk.wrap64_in _ (by omega)
    clear e
    go_enter Tryd.func10, Tryd.ntmps10
    go_wp2
    go_ret
    exact ⟨rfl, rfl⟩
  · have e : n % m = n.tmod m := by
      rw [Int.tmod_eq_emod] at h ⊢
      split at h
      · rw [if_pos (by assumption)]; omega
      · omega
    have HE := hid e
    clear e
    go_enter Tryd.func10, Tryd.ntmps10
    go_wp2
    go_ret
    exact ⟨by rw [HE.out]; rfl, rfl⟩

/-- A list's first n numbers, 0 behind them. -/
def padF (n : Nat) (f : Nat → Int) (j : Nat) : Int := if j < n then f j else 0
theorem Nums_pad {f : Nat → Int} (hf : Nums f) (n : Nat) : Nums (padF n f) := fun j => by
  unfold padF
  split
  · exact hf j
  · omega
theorem made_zero (n : Nat) : madeCells #[.int .u64 0] n = (cellsOf n (fun _ => 0)).toArray := by
  apply Array.ext_getElem?
  intro j
  by_cases h : j < n
  · simp [madeCells, cellsOf, h, Nat.mod_one]
  · simp [madeCells, cellsOf, h]
theorem splice_pad (n m : Nat) (f : Nat → Int) (h : m ≤ n) : splice (cellsOf n (fun _ => 0)) 0 (cellsOf m f) = cellsOf n (padF m f) := by
  unfold splice
  rw [List.take_zero, List.nil_append, Nat.zero_add, cellsOf_len]
  apply List.ext_getElem?
  intro j
  by_cases h1 : j < m
  · rw [List.getElem?_append_left (by rw [cellsOf_len]; exact h1), cellsOf_at m f j h1, cellsOf_at n _ j (by omega), padF, if_pos h1]
  · rw [List.getElem?_append_right (by rw [cellsOf_len]; omega), cellsOf_len, List.getElem?_drop, show m + (j - m) = j from by omega]
    by_cases h2 : j < n
    · rw [cellsOf_at n _ j h2, cellsOf_at n _ j h2, padF, if_neg h1]
    · rw [cellsOf_past n _ j (by omega), cellsOf_past n _ j (by omega)]
theorem made_of_heap {w w' : World} {n : Nat} {f : Nat → Int} {t : TypeId} (hb : Below w.heap.size w w') (hh : w'.heap[w.heap.size]? = some (.cells (cellsOf n f).toArray t (0, 0))) : Made w w' n f := by
  refine ⟨hb, fun j hj => ?_, fun j hj => ?_⟩
  · unfold World.cell?
    simp [hh, cellsOf_at n f j hj]
  · unfold World.frozen?
    simp [hh]

theorem sizeN : (Tryd.prog.info? 26).map (·.size) = some 1 := by kernel_rfl
theorem pad_min (la n : Nat) (f : Nat → Int) (j : Nat) (hj : j < n) : padF (Nat.min la n) f j = padF la f j := by
  have e : Nat.min la n = min la n := rfl
  unfold padF
  rw [e]
  by_cases h : j < la
  · rw [if_pos (by omega), if_pos h]
  · rw [if_neg (by omega), if_neg h]
theorem src_cells {w : World} {ao : Option Addr} {la m : Nat} {f : Nat → Int} (hp : PRow w ao la f) (hm : m ≤ la) (h0 : 0 < (cellsOf m f).length) : ∃ ad, ao = some ad ∧ ∀ j v, (cellsOf m f)[j]? = some v → w.cell? (ad.add j) = some v := by
  rw [cellsOf_len] at h0
  obtain ⟨b, off, rfl, hr⟩ := hp (by omega)
  exact ⟨_, rfl, row_cells fun j hj => hr j (by omega)⟩

set_option maxHeartbeats 1000000 in
set_option maxRecDepth 100000 in
theorem point_any (ao : Option Addr) (la ca n : Nat) (f : Nat → Int) (w : World) (hn : n ≤ 1000) (hp : PRow w ao la f) :
    Calls Tryd.prog 12 #[.slice ao la ca, .int .i64 (n : Int)] w fun e w' => e = .returned (.slice (some ⟨w.heap.size, 0, none⟩) n n) ∧ Made w w' n (padF la f) := by
  have HP := hid (hp.kept (w' := w.alloc (.cells (madeCells #[.int .u64 0] n) 26)) ((Below.refl _ w).alloc (Nat.le_refl _) _))
  have HB := hid ((Below.refl w.heap.size w).alloc (Nat.le_refl _) (.cells (madeCells #[.int .u64 0] n) 26))
  have HH : Hid ((w.alloc (.cells (madeCells #[.int .u64 0] n) 26)).heap[w.heap.size]? = some (.cells (cellsOf n (fun _ => 0)).toArray 26 (0, 0))) := hid (by rw [made_zero]; exact (MapKept.heap_alloc _ _).1)
  have hmk := run_make_row' (P := Tryd.prog) 25 26 (.int .u64 0) 8 Tryd.underlying25 Tryd.infoO rfl .i64 .i64 n (by omega) (by omega)
  clear hp
  go_enter Tryd.func12, Tryd.ntmps12
  go_wp2_with (with_reducible (show wpList _ _ _ ({ dst := _, op := Op.call { callee := Callee.builtin Builtin.copy, args := _, argTypes := _ }, type := _, pos := _, after := _, guard := _ } :: _) _ _); refine wpList_copy_splice rfl _ _ 25 25 rfl 26 Tryd.underlying25 sizeN _ _ _ _ _ _ rfl rfl w.heap.size 0 (cellsOf n (fun _ => 0)) 26 HH.out (cellsOf (Nat.min la n) f) ?q1 ?q2 ?q3 ?q4 w.heap.size w HB.out (Nat.le_refl _) ?_)
  case q1 => exact cellsOf_len _ _
  case q2 => exact fun h0 => src_cells HP.out (Nat.min_le_left _ _) h0
  case q3 => rw [cellsOf_len, cellsOf_len]; have : Nat.min la n ≤ n := Nat.min_le_right _ _; omega
  case q4 => exact cellsOf_one _ _
  intro w1 hh hb
  have HM := hid ((made_of_heap hb (by rw [← splice_pad n (Nat.min la n) f (Nat.min_le_right _ _)]; exact hh.out)).congr fun j hj => pad_min la n f j hj)
  clear hh hb hmk
  go_wp2_with fail
  go_ret
  exact ⟨rfl, HM.out⟩

theorem shl_two {r : Nat} (hr : r ≤ 8) : wrap64 ((2 : Int) ^ r) = ((2 ^ r : Nat) : Int) := by
  have h : 2 ^ r ≤ 256 := Nat.pow_le_pow_right (j := 8) (by omega) hr
  rw [show ((2 : Int) ^ r) = ((2 ^ r : Nat) : Int) from by simp]
  generalize 2 ^ r = M at h
  exact IntWalk.wrap64_in _ (by omega)
end Go.Proofs.YtmhifjdgfhgajafDoor

/-
  The right proof holds for just the outputs that have the circuit's value at the point that was drawn; contracts of the laws' own small and held.
-/
namespace Go.Proofs.YtmhifjdgfhgajafDoor
open Go.RowKit
set_option linter.unusedVariables false
attribute [local go_sem ↓] Go.wp_at_zero Go.wp_at_succ

theorem right_iff {c : CQ} (hc : c.right) (f D fo : Nat → Int) :
    (partsQ c).holds D (rightP c f D).told (ofK (evS (fun j => kk (fo j)) (fun j => kk (D j)) ((partsQ c).lg 0))) (fun j => kk (f j)) ↔ evS (fun j => kk (fo j)) (fun j => kk (D j)) ((partsQ c).lg 0) = evS (fun j => kk (valsQ c f c.layers.length j)) (fun j => kk (D j)) ((partsQ c).lg 0) := by
  have n1 : 0 < (partsQ c).n := List.length_pos_iff.2 hc.some
  rw [rightP_told, Parts.right_holds (partsQ c) D _ _ (parts_fits hc) (parts_run hc f) (fun j => by have := parts_lg hc j; omega) n1]
  have h1 : (partsQ c).tru (valsK c f) D 0 = evS (fun j => kk (valsQ c f c.layers.length j)) (fun j => kk (D j)) ((partsQ c).lg 0) := rfl
  have h2 : (partsQ c).tru (valsK c f) D (partsQ c).n = evS (fun j => kk (f j)) ((partsQ c).z D (partsQ c).n) ((partsQ c).lg (partsQ c).n) := by
    refine evS_congr _ (fun b _ => ?_) (fun _ _ => rfl)
    show kk (valsQ c f (c.layers.length - c.layers.length) b) = _
    rw [Nat.sub_self]
    show kk (nrm (f b)) = kk (f b)
    exact kk_nrm _
  rw [h1, h2]
  constructor
  · rintro ⟨h, _⟩
    have := congrArg kk h
    rwa [kk_ofK, kk_ofK] at this
  · intro h
    exact ⟨by rw [h], rfl⟩
/-- A list of two numbers. -/
def pr (a b : Int) (j : Nat) : Int := if j = 0 then a else b
theorem Nums_pr {a b : Int} (h0 : 0 ≤ a) (h1 : a ≤ 18446744073709551615) (h2 : 0 ≤ b) (h3 : b ≤ 18446744073709551615) : Nums (pr a b) := fun j => by
  unfold pr
  split <;> omega
def dr4 (j : Nat) : Int := if j = 0 then 5 else if j = 1 then 6 else if j = 2 then 7 else 8
theorem Nums_dr4 : Nums dr4 := fun j => by
  unfold dr4
  repeat' split
  all_goals omega
theorem tiny_need : needQ tinyQ = 4 := by decide
theorem tiny_lg : (partsQ tinyQ).lg 0 = 1 := by decide
theorem tiny_ends : endsQ tinyQ 2 2 := by unfold endsQ; decide
theorem ev_one (f g : Nat → K) : evS f g 1 = f 0 + g 0 * (f 1 - f 0) := by
  rw [show (1 : Nat) = 0 + 1 from rfl, evS_fold, evS_zero]; rfl
theorem tiny_yes : (partsQ tinyQ).holds dr4 (rightP tinyQ (pr 3 4) dr4).told (ofK (evS (fun j => kk (pr 12 7 j)) (fun j => kk (dr4 j)) ((partsQ tinyQ).lg 0))) (fun j => kk (pr 3 4 j)) := by
  rw [right_iff tiny_right, tiny_lg, ev_one, ev_one]
  kernel_rfl
theorem tiny_no : ¬ (partsQ tinyQ).holds dr4 (rightP tinyQ (pr 3 4) dr4).told (ofK (evS (fun j => kk (pr 12 8 j)) (fun j => kk (dr4 j)) ((partsQ tinyQ).lg 0))) (fun j => kk (pr 3 4 j)) := by
  rw [right_iff tiny_right, tiny_lg, ev_one, ev_one]
  intro h
  have h2 := congrArg Fin.val h
  revert h2
  decide
set_option maxHeartbeats 2000000 in
set_option maxRecDepth 100000 in
theorem small_any (c : CQ) (g : Int) (ao : Option Addr) (n cap : Nat) (A : Nat → Option Addr) (C : Nat → Nat) (w : World) (hn63 : n ≤ maxLen) (hg : c.log = g) (hn : c.layers.length = n) (hr : CRow w ao c.layers A C) :
    Calls Tryd.prog 18 #[.agg #[.int .i64 g, .slice ao n cap]] w fun e w' => ∃ r : Bool, e = .returned (.bool r) ∧ (r = true → c.right) ∧ Below w.heap.size w w' := by
  have HS0 := hid (StW.start w g (.slice ao n cap) 24)
  have HC := hid (fun W (h : Below w.heap.size w W) => rcirc_any c g ao n cap A C W hg hn (hr.kept h))
  have HR := hid hr
  have HN := hid hn
  have n63 : (n : Int) ≤ 9223372036854775807 := by have : maxLen ≤ 9223372036854775807 := by decide
                                                   omega
  clear hg hn hr hn63
  go_enter Tryd.func18, Tryd.ntmps18
  go_wp2_with fail
  obtain ⟨B, hB⟩ : ∃ B, w.heap.size = B := ⟨_, rfl⟩
  rw [hB] at HS0
  rw [hB]
  clear hB
  generalize w.alloc (.cells #[.int .i64 g, .slice ao n cap] 24) = W1 at HS0 ⊢
  go_loopg [8] n (fun q i wr => ∃ t : Nat, t ≤ n ∧ q = n - t ∧ i = .int .i64 (t : Int) ∧ Hid (StW w wr B g (.slice ao n cap)))
  case atStart => exact ⟨0, by omega, rfl, rfl, HS0⟩
  case round =>
    clear HS0
    obtain ⟨t, htn, rfl, rfl, HS⟩ := hrel
    by_cases htl : t < n
    · obtain ⟨l, hl⟩ : ∃ l, c.layers[t]? = some l := ⟨c.layers[t]'(by rw [HN.out]; exact htl), by simp⟩
      obtain ⟨b, off, rfl, hcc⟩ := HR.out.kept HS.out.bel (by intro e; have := HN.out; rw [e] at this; simp at this; omega)
      obtain ⟨x0, x1, _, _⟩ := hcc t l hl
      rw [Nat.mul_comm 2 t] at x0 x1
      obtain ⟨lg, hlg⟩ : ∃ x, l.log = x := ⟨_, rfl⟩
      rw [hlg] at x0
      have t0 : (0 : Int) ≤ (t : Int) := by omega
      have t1 : (t : Int) < (n : Int) := by omega
      have HAL := hid (fun v => HS.out.next ((Below.refl wr.heap.size wr).alloc (Nat.le_refl _) (.cells #[.int .i64 lg, v] 39)))
      clear hcc hl hlg
      by_cases h2 : (2 : Int) < lg
      · go_wp2_with fail
        go_ret
        exact ⟨false, rfl, fun h => absurd h Bool.false_ne_true, (HAL.out _).bel⟩
      · go_wp2_with fail
        go_roundg (n - (t + 1))
        case measure => go_light; omega
        case rel => exact ⟨t + 1, by omega, rfl, by go_num, hid (HAL.out _)⟩
    · have t1 : ¬ ((t : Int) < (n : Int)) := by omega
      obtain ⟨z0, z1, zl⟩ := HS.out.box
      go_wp2_with fail
      refine (HC.out _ HS.out.bel).mono ?_
      rintro e w1 ⟨y, rfl, hy, hb⟩
      have HS1 := hid (HS.out.next hb)
      have HY := hid hy
      clear hb hy z0 z1 zl HS
      obtain ⟨z0, z1, zl⟩ := HS1.out.box
      by_cases hy0 : y = 0
      · subst hy0
        have HRT := hid (checkE_zero.1 HY.out)
        go_wp2_with fail
        go_ret
        exact ⟨_, rfl, fun _ => HRT.out, HS1.out.bel⟩
      · have e1 : (y == 0) = false := beq_eq_false_iff_ne.2 hy0
        go_wp2_with fail
        go_ret
        exact ⟨false, rfl, fun h => absurd h Bool.false_ne_true, HS1.out.bel⟩
/-- Below a world that grew, step by step. -/
theorem bel_alloc {X Y : World} (o : Obj) (h : Below X.heap.size X Y) : Below X.heap.size X (Y.alloc o) := h.alloc h.size o
theorem bel_trans {X Y Z : World} (hz : Below Y.heap.size Y Z) (h : Below X.heap.size X Y) : Below X.heap.size X Z := h.trans (hz.mono h.size)
theorem bel_drew {X Y : World} (h : Below X.heap.size X Y) : Below X.heap.size X Y.drew := h.drew
theorem row_pair (w : World) (x y : Int) (t : TypeId) : Row (w.alloc (.cells #[.int .u64 x, .int .u64 y] t)) w.heap.size 0 2 (pr x y) := fun j hj => by
  rw [Nat.zero_add, World.cell?_alloc_new]
  match j, hj with
  | 0, _ => rfl
  | 1, _ => rfl
theorem row_new2 {w : World} {n : Nat} {x y : Int} {t : TypeId} (h : n = w.heap.size) : Row (w.alloc (.cells #[.int .u64 x, .int .u64 y] t)) n 0 2 (pr x y) := by
  subst h
  exact row_pair w x y t
theorem row_old2 {w : World} {n : Nat} {f : Nat → Int} (o : Obj) (h : Row w n 0 2 f) : Row (w.alloc o) n 0 2 f := h.kept (bel_alloc o (Below.refl _ w)) (h.lt (by omega))
theorem row_bel2 {Y Z : World} {n : Nat} {f : Nat → Int} (hb : Below Y.heap.size Y Z) (h : Row Y n 0 2 f) : Row Z n 0 2 f := h.kept hb (h.lt (by omega))
theorem crow_old {w : World} {ao : Option Addr} {ls : List LQ} {A : Nat → Option Addr} {C : Nat → Nat} (o : Obj) (h : CRow w ao ls A C) : CRow (w.alloc o) ao ls A C := h.kept (bel_alloc o (Below.refl _ w))
theorem keep_cell {W W' : World} {a : Addr} {v : Value} (h : W.cell? a = some v) (hb : Below W.heap.size W W') : W'.cell? a = some v := (hb.cell (World.block_lt_of_cell? W _ h)).trans h
theorem row_four (w : World) (t : TypeId) : Row (w.alloc (.cells #[.int .u64 5, .int .u64 6, .int .u64 7, .int .u64 8] t)) w.heap.size 0 4 dr4 := fun j hj => by
  rw [Nat.zero_add, World.cell?_alloc_new]
  match j, hj with
  | 0, _ => rfl
  | 1, _ => rfl
  | 2, _ => rfl
  | 3, _ => rfl
set_option maxHeartbeats 8000000 in
set_option maxRecDepth 100000 in
theorem held_any (w : World) (ht : Tab w) :
    Calls Tryd.prog 17 #[] w fun e w' => e = .returned (.bool true) ∧ Below w.heap.size w w' := by
  have HT := hid ht
  clear ht
  go_enter Tryd.func17, Tryd.ntmps17
  go_wp2_with fail
  refine (tiny_any w).mono ?_
  rintro e w1 ⟨b1, A1, C1, rfl, hc1, hb1⟩
  go_wp2_with fail
  refine (draws_ok tinyQ 1 b1 0 1 1 A1 C1 w1 rfl rfl hc1 tiny_right).mono ?_
  rintro e w2 ⟨rfl, hb2⟩
  have HB2 := hid (bel_trans hb2 hb1)
  clear hc1 hb1 hb2
  go_wp2_with fail
  rw [tiny_need]
  refine (tiny_any _).mono ?_
  rintro e w3 ⟨b3, A3, C3, rfl, hc3, hb3⟩
  have HD3 : Hid (Row w3 w2.heap.size 0 4 dr4 ∧ w2.heap.size < w3.heap.size) := hid (by
    have h := (row_four w2 26).kept hb3 (by simp)
    exact ⟨h, h.lt (by omega)⟩)
  have HB3 := hid (bel_trans hb3 (bel_alloc _ HB2.out))
  have HC3 := hid hc3
  clear hc3 hb3 HB2
  obtain ⟨BD, hBD⟩ : ∃ x, w2.heap.size = x := ⟨_, rfl⟩
  rw [hBD] at HD3
  rw [hBD]
  clear hBD
  go_wp2_with fail
  have HPV : Hid (Calls Tryd.prog 20 #[.agg #[.int .i64 1, .slice (some ⟨b3, 0, none⟩) 1 1], .slice (some ⟨w3.heap.size, 0, none⟩) 2 2, .slice (some ⟨BD, 0, none⟩) 4 4] (w3.alloc (.cells #[.int .u64 3, .int .u64 4] 26)) fun e w' => proveOut tinyQ (pr 3 4) dr4 1 (w3.alloc (.cells #[.int .u64 3, .int .u64 4] 26)) e w') := hid (by
    have hal := (Below.refl w3.heap.size w3).alloc (Nat.le_refl _) (.cells #[.int .u64 3, .int .u64 4] 26)
    have hbw := bel_trans hal HB3.out
    exact pv_ok tinyQ 1 b3 0 1 1 A3 C3 w3.heap.size 0 2 2 (pr 3 4) BD 0 4 4 dr4 _ rfl rfl (HC3.out.kept hal) tiny_right (shl_pow (k := 1) (by omega)) (by decide) (row_pair w3 3 4 _) (Nums_pr (by omega) (by omega) (by omega) (by omega)) (HD3.out.1.kept hal HD3.out.2) Nums_dr4 tiny_need.symm (by omega) (by decide) (HT.out.kept hbw HT.out.1))
  refine (HPV.out).mono ?_
  rintro e w4 ⟨PB, m, rfl, hpf, hlow, hb4⟩
  have HB4 := hid (bel_trans hb4 (bel_alloc _ HB3.out))
  have HD4 : Hid (Row w4 BD 0 4 dr4 ∧ BD < w4.heap.size) := hid (by
    have hal := bel_trans hb4 ((Below.refl w3.heap.size w3).alloc (Nat.le_refl _) (.cells #[.int .u64 3, .int .u64 4] 26))
    exact ⟨HD3.out.1.kept hal HD3.out.2, Nat.lt_of_lt_of_le HD3.out.2 hal.size⟩)
  have HPF := hid hpf
  clear hpf hlow hb4 HB3 HD3 HC3 HPV
  go_wp2_with fail
  have hal := (Below.refl w4.heap.size w4).alloc (Nat.le_refl _) (.cells #[.slice (some ⟨PB, 0, none⟩) 1 1] 51)
  have HB5 := hid (bel_trans hal HB4.out)
  have HD5 : Hid (Row (w4.alloc (.cells #[.slice (some ⟨PB, 0, none⟩) 1 1] 51)) BD 0 4 dr4 ∧ BD < (w4.alloc (.cells #[.slice (some ⟨PB, 0, none⟩) 1 1] 51)).heap.size) := hid ⟨HD4.out.1.kept hal HD4.out.2, Nat.lt_of_lt_of_le HD4.out.2 hal.size⟩
  have HP5 := hid (HPF.out.kept hal)
  have HQ5 : Hid ((w4.alloc (.cells #[.slice (some ⟨PB, 0, none⟩) 1 1] 51)).cell? ⟨w4.heap.size, 0, none⟩ = some (.slice (some ⟨PB, 0, none⟩) 1 1)) := hid (by rw [World.cell?_alloc_new]; rfl)
  obtain ⟨Q, hQ⟩ : ∃ x, w4.heap.size = x := ⟨_, rfl⟩
  rw [hQ] at HQ5
  rw [hQ]
  clear hQ hal HB4 HD4 HPF
  generalize w4.alloc (.cells #[.slice (some ⟨PB, 0, none⟩) 1 1] 51) = W5 at HB5 HD5 HP5 HQ5 ⊢
  have HV : Hid (∀ (q : Int) (r : Bool) (W' : World) (x1 x2 bT : Nat) (A : Nat → Option Addr) (C : Nat → Nat), (q = 7 ∧ r = true ∨ q = 8 ∧ r = false) → CRow W' (some ⟨bT, 0, none⟩) tinyQ.layers A C → Row W' x1 0 2 (pr 3 4) → Row W' x2 0 2 (pr 12 q) → Below W5.heap.size W5 W' → Calls Tryd.prog 22 #[.agg #[.int .i64 1, .slice (some ⟨bT, 0, none⟩) 1 1], .slice (some ⟨x1, 0, none⟩) 2 2, .slice (some ⟨x2, 0, none⟩) 2 2, .agg #[.slice (some ⟨PB, 0, none⟩) 1 1], .slice (some ⟨BD, 0, none⟩) 4 4] W' fun e w'' => e = .returned (.tuple #[.bool r, .int .i64 0]) ∧ Below W5.heap.size W5 w'') := hid (fun q r W' x1 x2 bT A C hq hcr h1 h2 hb => by
    have hq2 : 0 ≤ q ∧ q ≤ 18446744073709551615 := by rcases hq with ⟨h, _⟩ | ⟨h, _⟩ <;> omega
    refine (vf_ok tinyQ 1 bT 0 1 1 A C x1 0 2 2 x2 0 2 2 (pr 3 4) (pr 12 q) (some ⟨PB, 0, none⟩) 1 1 (rightP tinyQ (pr 3 4) dr4) m BD 0 4 4 dr4 W' rfl rfl hcr tiny_right rfl (HP5.out.kept hb) (rightP_nums _ _ _) (rightP_shaped _ _ _) tiny_ends h1 (Nums_pr (by omega) (by omega) (by omega) (by omega)) h2 (Nums_pr (by omega) (by omega) hq2.1 hq2.2) (HD5.out.1.kept hb HD5.out.2) Nums_dr4 tiny_need.symm (by omega) (by decide) (HT.out.kept (bel_trans hb HB5.out) HT.out.1)).mono ?_
    rintro e w'' ⟨r', rfl, hr', hb'⟩
    refine ⟨?_, bel_trans hb' hb⟩
    rcases hq with ⟨rfl, rfl⟩ | ⟨rfl, rfl⟩
    · rw [hr'.2 tiny_yes]
    · cases r' with
      | false => rfl
      | true => exact absurd (hr'.1 rfl) tiny_no)
  have hq := HQ5.out
  have HBS := hid (Below.refl W5.heap.size W5)
  clear HD5 HP5 HQ5
  go_cut [6, 7] (fun a6 a7 wx => a6 = .bool true ∧ a7 = .int .i64 0 ∧ Hid (Below W5.heap.size W5 wx))
  case first =>
    go_region_held3 (fun W => W.cell? ⟨Q, 0, none⟩ = some (.slice (some ⟨PB, 0, none⟩) 1 1)) (first | assumption | (refine keep_cell hq ?_; repeat (first | exact HBS.out | exact hbV | apply bel_alloc | refine bel_trans hbT ?_ | apply bel_drew))) (first
      | (go_at_call 8; refine (tiny_any _).mono ?_; rintro e wT ⟨bT, AT, CT, rfl, hcT, hbT⟩)
      | (go_at_call 22; refine (HV.out 7 true _ _ _ _ AT CT (.inl ⟨rfl, rfl⟩) (by repeat (first | exact hcT | apply crow_old)) (by repeat (first | exact row_new2 (by simp) | apply row_old2 | refine row_bel2 hbT ?_)) (by repeat (first | exact row_new2 (by simp) | apply row_old2 | refine row_bel2 hbT ?_)) (by repeat (first | exact HBS.out | apply bel_alloc | refine bel_trans hbT ?_ | apply bel_drew))).mono ?_; rintro e wV ⟨rfl, hbV⟩))
    all_goals (go_wp2_with fail)
    all_goals go_meet
    all_goals exact ⟨rfl, rfl, hid hbV⟩
  case rest =>
    clear HBS
    obtain ⟨rfl, rfl, HBS⟩ := hcut
    go_wp2_with fail
    go_cut [8, 9] (fun a8 a9 wx => a8 = .bool false ∧ a9 = .int .i64 0 ∧ Hid (Below W5.heap.size W5 wx))
    case first =>
      go_region_held3 (fun W => W.cell? ⟨Q, 0, none⟩ = some (.slice (some ⟨PB, 0, none⟩) 1 1)) (first | assumption | (refine keep_cell hq ?_; repeat (first | exact HBS.out | exact hbV | apply bel_alloc | refine bel_trans hbT ?_ | apply bel_drew))) (first
        | (go_at_call 8; refine (tiny_any _).mono ?_; rintro e wT ⟨bT, AT, CT, rfl, hcT, hbT⟩)
        | (go_at_call 22; refine (HV.out 8 false _ _ _ _ AT CT (.inr ⟨rfl, rfl⟩) (by repeat (first | exact hcT | apply crow_old)) (by repeat (first | exact row_new2 (by simp) | apply row_old2 | refine row_bel2 hbT ?_)) (by repeat (first | exact row_new2 (by simp) | apply row_old2 | refine row_bel2 hbT ?_)) (by repeat (first | exact HBS.out | apply bel_alloc | refine bel_trans hbT ?_ | apply bel_drew))).mono ?_; rintro e wV ⟨rfl, hbV⟩))
      all_goals (go_wp2_with fail)
      all_goals go_meet
      all_goals exact ⟨rfl, rfl, hid hbV⟩
    case rest =>
      clear HBS
      obtain ⟨rfl, rfl, HBS⟩ := hcut
      go_wp2_with fail
      go_ret
      exact ⟨rfl, bel_trans HBS.out HB5.out⟩

end Go.Proofs.YtmhifjdgfhgajafDoor

/-
  A contract of the law GkrComplete, for every circuit and all lists: it answers true.
-/
namespace Go.Proofs.YtmhifjdgfhgajafDoor
open Go.RowKit
set_option linter.unusedVariables false
attribute [local go_sem ↓] Go.wp_at_zero Go.wp_at_succ

/-- The four cells that the last call reads. -/
abbrev FourC (X V n Q : Nat) (u v d p : Value) (W : World) : Prop := W.cell? ⟨X, 0, none⟩ = some u ∧ W.cell? ⟨X, 1, none⟩ = some v ∧ W.cell? ⟨V, n, none⟩ = some d ∧ W.cell? ⟨Q, 0, none⟩ = some p
theorem FourC.kept {X V n Q : Nat} {u v d p : Value} {W W' : World} (h : FourC X V n Q u v d p W) (hb : Below W.heap.size W W') : FourC X V n Q u v d p W' := ⟨keep_cell h.1 hb, keep_cell h.2.1 hb, keep_cell h.2.2.1 hb, keep_cell h.2.2.2 hb⟩

set_option maxHeartbeats 8000000 in
set_option maxRecDepth 100000 in
theorem gcomp_any (c : CQ) (g : Int) (ao : Option Addr) (n cap : Nat) (A : Nat → Option Addr) (C : Nat → Nat) (ai ad : Option Addr) (ni ci nd cd : Nat) (fi fd : Nat → Int) (w : World) (ht : Tab w) (hn63 : n ≤ maxLen) (hg : c.log = g) (hn : c.layers.length = n) (hr : CRow w ao c.layers A C) (hi : PRow w ai ni fi) (vi : Nums fi) (hd : PRow w ad nd fd) (vd : Nums fd) :
    Calls Tryd.prog 4 #[.agg #[.int .i64 g, .slice ao n cap], .slice ai ni ci, .slice ad nd cd] w fun e w' => e = .returned (.bool true) ∧ Below w.heap.size w w' := by
  have HS0 := hid (StW.start w g (.slice ao n cap) 24)
  have HHE := hid (fun W (h : Below w.heap.size w W) => held_any W (ht.kept h ht.1))
  have HSM := hid (fun W (h : Below w.heap.size w W) => small_any c g ao n cap A C W hn63 hg hn (hr.kept h))
  have HR := hid hr
  have HG := hid hg
  have HN := hid hn
  have HT := hid ht
  have HI := hid (And.intro hi vi)
  have HD := hid (And.intro hd vd)
  clear hr hg hn ht hi vi hd vd hn63
  go_enter Tryd.func4, Tryd.ntmps4
  go_wp2_with fail
  obtain ⟨X, hX⟩ : ∃ X, w.heap.size = X := ⟨_, rfl⟩
  rw [hX] at HS0
  rw [hX]
  clear hX
  generalize w.alloc (.cells #[.int .i64 g, .slice ao n cap] 24) = W0 at HS0 ⊢
  refine (HHE.out _ HS0.out.bel).mono ?_
  rintro e w1 ⟨rfl, hb⟩
  have HS1 := hid (HS0.out.next hb)
  clear hb HS0 HHE
  obtain ⟨z0, z1, zl⟩ := HS1.out.box
  go_wp2_with fail
  refine (HSM.out _ HS1.out.bel).mono ?_
  rintro e w2 ⟨r, rfl, hrt, hb⟩
  have HS2 := hid (HS1.out.next hb)
  clear hb HS1 z0 z1 zl HSM
  cases r with
  | false =>
    clear hrt
    go_wp2_with fail
    go_ret
    exact ⟨rfl, HS2.out.bel⟩
  | true =>
    have HC := hid (hrt rfl)
    clear hrt
    obtain ⟨b, off, rfl⟩ := right_addr HC.out HR.out
    obtain ⟨gn, N, rfl, gn4, sh, hN, N1, N16, hNk⟩ := right_nums HG.out HN.out HC.out
    have HNN := hid (And.intro hN hNk)
    have n4 : n ≤ 4 := by have := HC.out.few; have := HN.out; omega
    obtain ⟨q, hq⟩ : ∃ q, needQ c = q := ⟨_, rfl⟩
    have q40 : q ≤ 40 := by rw [← hq]; exact needQ_le HC.out
    have HQ := hid hq
    have HSH := hid sh
    clear hN hNk hq
    obtain ⟨z0, z1, zl⟩ := HS2.out.box
    have gn0 : (0 : Int) ≤ (gn : Int) := by omega
    go_wp2_with fail
    rw [HSH.out]
    refine (point_any ai ni ci N fi w2 (by omega) (HI.out.1.kept HS2.out.bel)).mono ?_
    rintro e w3 ⟨rfl, hm⟩
    have HS3 := hid (HS2.out.next hm.below)
    have HXR : Hid (Row w3 w2.heap.size 0 N (padF ni fi)) := hid hm.row
    obtain ⟨BX, hBX⟩ : ∃ x, w2.heap.size = x := ⟨_, rfl⟩
    rw [hBX] at HXR
    rw [hBX]
    clear hm hBX HS2 z0 z1 zl
    obtain ⟨z0, z1, zl⟩ := HS3.out.box
    go_wp2_with fail
    refine (draws_ok c gn b off n cap A C w3 HG.out HN.out (HR.out.kept HS3.out.bel) HC.out).mono ?_
    rintro e w4 ⟨rfl, hb⟩
    rw [HQ.out]
    have HS4 := hid (HS3.out.next hb)
    have HX4 := hid (HXR.out.kept hb (HXR.out.lt N1))
    clear hb HS3 HXR z0 z1 zl
    go_wp2_with fail
    refine (point_any ad nd cd q fd w4 (by omega) (HD.out.1.kept HS4.out.bel)).mono ?_
    rintro e w5 ⟨rfl, hm⟩
    have HS5 := hid (HS4.out.next hm.below)
    have HX5 := hid (HX4.out.kept hm.below (HX4.out.lt N1))
    have HD5 : Hid (Row w5 w4.heap.size 0 q (padF nd fd)) := hid hm.row
    obtain ⟨BD, hBD⟩ : ∃ x, w4.heap.size = x := ⟨_, rfl⟩
    rw [hBD] at HD5
    rw [hBD]
    clear hm hBD HS4 HX4
    have q1 : 0 < q := by
      have h := at_fits (c := c) (j := 0) (List.length_pos_iff.2 HC.out.some)
      rw [HQ.out] at h
      omega
    obtain ⟨z0, z1, zl⟩ := HS5.out.box
    go_wp2_with fail
    refine (run_ok c gn b off n cap A C BX 0 N N (padF ni fi) w5 HG.out HN.out (HR.out.kept HS5.out.bel) HC.out HSH.out HNN.out.1 N16 N1 HX5.out (Nums_pad HI.out.2 _)).mono ?_
    rintro e w6 ⟨V, Dv, rfl, hO⟩
    have HS6 := hid (HS5.out.next hO.below)
    have HX6 := hid (HX5.out.kept hO.below (HX5.out.lt N1))
    have HD6 := hid (HD5.out.kept hO.below (HD5.out.lt q1))
    have HO6 := hid hO
    clear hO HS5 HX5 HD5 z0 z1 zl
    obtain ⟨z0, z1, zl⟩ := HS6.out.box
    go_wp2_with fail
    refine (pv_ok c gn b off n cap A C BX 0 N N (padF ni fi) BD 0 q q (padF nd fd) w6 HG.out HN.out (HR.out.kept HS6.out.bel) HC.out HSH.out HNN.out.1 HX6.out (Nums_pad HI.out.2 _) HD6.out (Nums_pad HD.out.2 _) HQ.out.symm (Nat.le_refl _) (Nat.le_trans q40 (by decide)) (HT.out.kept HS6.out.bel HT.out.1)).mono ?_
    rintro e w7 ⟨PB, m, rfl, hpf, hlow, hb⟩
    have HS7 := hid (HS6.out.next hb)
    have HX7 := hid (HX6.out.kept hb (HX6.out.lt N1))
    have HD7 := hid (HD6.out.kept hb (HD6.out.lt q1))
    have HO7 := hid (HO6.out.kept hb)
    have HP7 := hid hpf
    clear hpf hlow hb HS6 HX6 HD6 HO6 z0 z1 zl
    have hal := (Below.refl w7.heap.size w7).alloc (Nat.le_refl _) (.cells #[.slice (some ⟨PB, 0, none⟩) n n] 51)
    have HS8 := hid (HS7.out.next hal)
    have HX8 := hid (HX7.out.kept hal (HX7.out.lt N1))
    have HD8 := hid (HD7.out.kept hal (HD7.out.lt q1))
    have HO8 := hid (HO7.out.kept hal)
    have HP8 := hid (HP7.out.kept hal)
    have HQ8 : Hid ((w7.alloc (.cells #[.slice (some ⟨PB, 0, none⟩) n n] 51)).cell? ⟨w7.heap.size, 0, none⟩ = some (.slice (some ⟨PB, 0, none⟩) n n)) := hid (by rw [World.cell?_alloc_new]; rfl)
    obtain ⟨y0, y1, yl⟩ := HS8.out.box
    have yq := HQ8.out
    clear hal HS7 HX7 HD7 HO7 HP7
    go_wp2_with fail
    obtain ⟨BQ, hBQ⟩ : ∃ x, w7.heap.size = x := ⟨_, rfl⟩
    rw [hBQ] at HQ8
    rw [hBQ]
    clear hBQ y0 y1 yl yq
    generalize w7.alloc (.cells #[.slice (some ⟨PB, 0, none⟩) n n] 51) = W8 at HS8 HX8 HD8 HO8 HP8 HQ8 ⊢
    refine (form_is (cap := cap) (cp := n) (x := 0) HG.out HN.out (HR.out.kept HS8.out.bel) HC.out HN.out HP8.out (.inr (.inl ⟨HC.out, rightP_shaped _ _ _, rfl⟩)) W8 (Below.refl _ W8)).mono ?_
    rintro e w9 ⟨rfl, hb⟩
    have HS9 := hid (HS8.out.next hb)
    have HX9 := hid (HX8.out.kept hb (HX8.out.lt N1))
    have HD9 := hid (HD8.out.kept hb (HD8.out.lt q1))
    have HO9 := hid (HO8.out.kept hb)
    have HP9 := hid (HP8.out.kept hb)
    have HQ9 := hid (keep_cell HQ8.out hb)
    clear hb HS8 HX8 HD8 HO8 HP8 HQ8
    have cv := HO9.out.cell n (by omega)
    have rv := HO9.out.row n (by omega)
    obtain ⟨M, hM⟩ : ∃ x, lenQ c n = x := ⟨_, rfl⟩
    obtain ⟨dk, hdk⟩ : ∃ x, Dv n = x := ⟨_, rfl⟩
    rw [hM, hdk] at cv rv
    have M1 : 1 ≤ M := by rw [← hM]; exact (lenQ_rng HC.out n (by rw [HN.out]; omega)).1
    have HEN : Hid (endsQ c N M) := hid ⟨by rw [HN.out]; exact HNN.out.2, by rw [← hM]; exact top_len HN.out⟩
    have HVF : Hid (∀ W, Below w9.heap.size w9 W → Calls Tryd.prog 22 #[.agg #[.int .i64 (gn : Int), .slice (some ⟨b, off, none⟩) n cap], .slice (some ⟨BX, 0, none⟩) N N, .slice (some ⟨dk, 0, none⟩) M M, .agg #[.slice (some ⟨PB, 0, none⟩) n n], .slice (some ⟨BD, 0, none⟩) q q] W fun e w' => e = .returned (.tuple #[.bool true, .int .i64 0]) ∧ Below W.heap.size W w') := hid (fun W h => by
      have hS := HS9.out.next h
      refine (vf_ok c (gn : Int) b off n cap A C BX 0 N N dk 0 M M (padF ni fi) (valsQ c (padF ni fi) n) (some ⟨PB, 0, none⟩) n n (rightP c (padF ni fi) (padF nd fd)) m BD 0 q q (padF nd fd) W HG.out HN.out (HR.out.kept hS.bel) HC.out HN.out (HP9.out.kept h) (rightP_nums _ _ _) (rightP_shaped _ _ _) HEN.out (HX9.out.kept h (HX9.out.lt N1)) (Nums_pad HI.out.2 _) (rv.kept h (rv.lt M1)) (Nums_vals c _ n) (HD9.out.kept h (HD9.out.lt q1)) (Nums_pad HD.out.2 _) HQ.out.symm (Nat.le_refl _) (Nat.le_trans q40 (by decide)) (HT.out.kept hS.bel HT.out.1)).mono ?_
      rintro e w' ⟨r, rfl, hr, hb⟩
      have hyes : r = true := hr.2 ((right_iff HC.out _ _ _).2 (by rw [HN.out]))
      exact ⟨by rw [hyes], hb⟩)
    have HFC : Hid (FourC X V n BQ (.int .i64 (gn : Int)) (.slice (some ⟨b, off, none⟩) n cap) (.slice (some ⟨dk, 0, none⟩) M M) (.slice (some ⟨PB, 0, none⟩) n n) w9) := hid ⟨HS9.out.box.c0, HS9.out.box.c1, cv, HQ9.out⟩
    have HB9 := hid HS9.out.bel
    have n0 : (0 : Int) ≤ (n : Int) := by omega
    have n1 : (n : Int) < (n : Int) + 1 := by omega
    have n2 : IntKind.i64.wrap ((n : Int) + 1 - 1) = (n : Int) := by rw [show (n : Int) + 1 - 1 = (n : Int) from by omega]; exact IntWalk.i64_in _ (by omega)
    have n3 : IntKind.i64.wrap (n : Int) = (n : Int) := IntWalk.i64_in _ (by omega)
    have n5 : n < n + 1 := by omega
    clear hM hdk cv rv HEN HS9 HX9 HD9 HO9 HP9 HQ9
    have nc := HFC.out
    go_wp2_with fail
    go_region_held3 (FourC X V n BQ (.int .i64 (gn : Int)) (.slice (some ⟨b, off, none⟩) n cap) (.slice (some ⟨dk, 0, none⟩) M M) (.slice (some ⟨PB, 0, none⟩) n n)) (first | assumption | exact nca) (first
      | (go_at_call 22; refine (HVF.out _ (Below.refl _ w9).drew).mono ?_; rintro e wa ⟨rfl, hb⟩; have hba : Below w9.heap.size w9 wa := (Below.refl _ w9).drew.trans hb; have nca := nc.kept hba; clear hb))
    have HBA := hid (bel_trans hba HB9.out)
    clear nc nca hba HFC HVF
    go_wp2_with fail
    go_ret
    exact ⟨rfl, HBA.out⟩

end Go.Proofs.YtmhifjdgfhgajafDoor
