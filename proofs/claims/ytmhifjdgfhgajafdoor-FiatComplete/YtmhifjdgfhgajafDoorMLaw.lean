/-
  Several texts in one: RefIn, RefC, RefC2, CircF, Tiny, Gkl1, Equal, Fil1; each opens with what it holds.
-/
import Derived.Test.YtmhifjdgfhgajafDoorChecked
import Derived.Test.YtmhifjdgfhgajafDoorOps
import Derived.WalkKit
import Derived.Test.YtmhifjdgfhgajafDoorCirc
import Derived.Deep.RegionWith
import Derived.Deep.LoopGhost
import Derived.Deep.Light
import Derived.Deep.DrawnRows
import Derived.Deep.QuietTactic
import Derived.Test.YtmhifjdgfhgajafDoorCircM
import Derived.Test.YtmhifjdgfhgajafDoorCircC
import Derived.Test.YtmhifjdgfhgajafDoorMGkB
import Derived.Test.YtmhifjdgfhgajafDoorMFiat
import Derived.Deep.RegionHeld3
import Derived.Test.YtmhifjdgfhgajafDoorOwn
/-
  A contract of tallyref's In, for every input; nothing is written.
-/
namespace Go.Proofs.YtmhifjdgfhgajafDoor
open Go.RowKit
set_option linter.unusedVariables false

set_option maxHeartbeats 400000 in
theorem rin_any (n a b : Int) (w : World) : Calls Tryd.prog 29 #[.int .i64 n, .int .i64 a, .int .i64 b] w fun e w' => e = .returned (.bool (decide (a ≤ n) && decide (n ≤ b))) ∧ w' = w := by
  by_cases h1 : a ≤ n
  · by_cases h2 : n ≤ b
    · go_enter Tryd.func29, Tryd.ntmps29
      go_wp2
      go_ret
      exact ⟨by simp [h1, h2], rfl⟩
    · go_enter Tryd.func29, Tryd.ntmps29
      go_wp2
      go_ret
      exact ⟨by simp [h2], rfl⟩
  · go_enter Tryd.func29, Tryd.ntmps29
    go_wp2
    go_ret
    exact ⟨by simp; omega, rfl⟩

end Go.Proofs.YtmhifjdgfhgajafDoor

/-
  Contracts of tallyref's Below and Circuit, for every circuit; they make new blocks and write nothing that was there.
-/
namespace Go.Proofs.YtmhifjdgfhgajafDoor
open Go.RowKit
set_option linter.unusedVariables false
attribute [local go_sem ↓] Go.wp_at_zero Go.wp_at_succ

set_option maxHeartbeats 1000000 in
theorem rbelow_zero (g : Int) (ao : Option Addr) (n cap : Nat) (w : World) :
    Calls Tryd.prog 13 #[.agg #[.int .i64 g, .slice ao n cap], .int .i64 0] w fun e w' => e = .returned (.int .i64 g) ∧ Below w.heap.size w w' := by
  go_enter Tryd.func13, Tryd.ntmps13
  go_wp2_with fail
  go_ret
  exact ⟨rfl, (Below.refl _ w).alloc (Nat.le_refl _) _⟩
set_option maxHeartbeats 1000000 in
theorem rbelow_at (g : Int) (b off n cap i : Nat) (x : Int) (w : World) (hi : i < n) (hn : n ≤ 4) (hc : w.cell? ⟨b, off + 2 * i, none⟩ = some (.int .i64 x)) :
    Calls Tryd.prog 13 #[.agg #[.int .i64 g, .slice (some ⟨b, off, none⟩) n cap], .int .i64 ((i : Int) + 1)] w fun e w' => e = .returned (.int .i64 x) ∧ Below w.heap.size w w' := by
  have hb : b < w.heap.size := World.block_lt_of_cell? w _ hc
  have hc2 : ∀ o, (w.alloc o).cell? ⟨b, off + i * 2, none⟩ = some (.int .i64 x) := fun o => by rw [Nat.mul_comm i 2, World.cell?_alloc_old _ _ _ (Nat.ne_of_lt hb)]; exact hc
  have k0 : ¬ ((i : Int) + 1 = 0) := by omega
  have k1 : (((i : Int) + 1) == 0) = false := beq_eq_false_iff_ne.2 k0
  have k2 : (0 : Int) ≤ (i : Int) := by omega
  have k3 : (i : Int) < (n : Int) := by omega
  clear hc
  go_enter Tryd.func13, Tryd.ntmps13
  go_wp2_with fail
  go_ret
  exact ⟨rfl, (Below.refl _ w).alloc (Nat.le_refl _) _⟩

end Go.Proofs.YtmhifjdgfhgajafDoor

/-
  A contract of tallyref's Circuit, for every circuit; it makes new blocks and writes nothing that was there.
-/
namespace Go.Proofs.YtmhifjdgfhgajafDoor
open Go.RowKit
set_option linter.unusedVariables false
attribute [local go_sem ↓] Go.wp_at_zero Go.wp_at_succ

set_option maxHeartbeats 1000000 in
theorem rcirc_log (g : Int) (ao : Option Addr) (n cap : Nat) (w : World) (h : ¬ (0 ≤ g ∧ g ≤ 4)) :
    Calls Tryd.prog 9 #[.agg #[.int .i64 g, .slice ao n cap]] w fun e w' => e = .returned (.int .i64 1) ∧ Below w.heap.size w w' := by
  have hI : (decide ((0 : Int) ≤ g) && decide (g ≤ 4)) = false := by simp; omega
  have HI := hid (fun w => rin_any g 0 4 w)
  rw [hI] at HI
  clear hI h
  go_enter Tryd.func9, Tryd.ntmps9
  go_wp2_with (go_at_call 29; refine (HI.out _).mono ?_; rintro e w' ⟨rfl, hw⟩; obtain rfl := hw.symm)
  go_ret
  exact ⟨rfl, (Below.refl _ w).alloc (Nat.le_refl _) _⟩
set_option maxHeartbeats 1000000 in
theorem rcirc_none (g : Int) (ao : Option Addr) (cap : Nat) (w : World) (h0 : 0 ≤ g) (h4 : g ≤ 4) :
    Calls Tryd.prog 9 #[.agg #[.int .i64 g, .slice ao 0 cap]] w fun e w' => e = .returned (.int .i64 1) ∧ Below w.heap.size w w' := by
  have hI : (decide ((0 : Int) ≤ g) && decide (g ≤ 4)) = true := by simp; omega
  have HI := hid (fun w => rin_any g 0 4 w)
  rw [hI] at HI
  clear hI
  go_enter Tryd.func9, Tryd.ntmps9
  go_wp2_with (go_at_call 29; refine (HI.out _).mono ?_; rintro e w' ⟨rfl, hw⟩; obtain rfl := hw.symm)
  go_ret
  exact ⟨rfl, (Below.refl _ w).alloc (Nat.le_refl _) _⟩
set_option maxHeartbeats 1000000 in
theorem rcirc_large (g : Int) (ao : Option Addr) (n cap : Nat) (w : World) (h0 : 0 ≤ g) (h4 : g ≤ 4) (hn : 4 < n) :
    Calls Tryd.prog 9 #[.agg #[.int .i64 g, .slice ao n cap]] w fun e w' => e = .returned (.int .i64 2) ∧ Below w.heap.size w w' := by
  have hI : (decide ((0 : Int) ≤ g) && decide (g ≤ 4)) = true := by simp; omega
  have HI := hid (fun w => rin_any g 0 4 w)
  rw [hI] at HI
  have n1 : ((n : Int) == 0) = false := beq_eq_false_iff_ne.2 (by omega)
  have n2 : (4 : Int) < (n : Int) := by omega
  clear hI
  go_enter Tryd.func9, Tryd.ntmps9
  go_wp2_with (go_at_call 29; refine (HI.out _).mono ?_; rintro e w' ⟨rfl, hw⟩; obtain rfl := hw.symm)
  go_ret
  exact ⟨rfl, (Below.refl _ w).alloc (Nat.le_refl _) _⟩

theorem rbelow_any (c : CQ) (g : Int) (b off n cap i : Nat) (A : Nat → Option Addr) (C : Nat → Nat) (w : World) (hg : c.log = g) (hn : c.layers.length = n) (n4 : n ≤ 4) (hi : i ≤ n) (hr : CRow w (some ⟨b, off, none⟩) c.layers A C) :
    Calls Tryd.prog 13 #[.agg #[.int .i64 g, .slice (some ⟨b, off, none⟩) n cap], .int .i64 (i : Int)] w fun e w' => e = .returned (.int .i64 (belowQ c i)) ∧ Below w.heap.size w w' := by
  cases i with
  | zero => rw [show belowQ c 0 = g from hg]; exact rbelow_zero g _ n cap w
  | succ i =>
    have hlt : i < c.layers.length := by omega
    obtain ⟨l, hl⟩ : ∃ l, c.layers[i]? = some l := ⟨c.layers[i], by simp [hlt]⟩
    obtain ⟨b', off', e, hc⟩ := hr (by intro e; rw [e] at hlt; simp at hlt)
    cases e
    rw [show belowQ c (i + 1) = l.log from by rw [belowQ, hl]; rfl, show ((i + 1 : Nat) : Int) = (i : Int) + 1 from by omega]
    exact rbelow_at g b off n cap i l.log w (by omega) n4 (hc i l hl).1

set_option maxHeartbeats 1000000 in
set_option maxRecDepth 100000 in
theorem rcirc_main (c : CQ) (g : Int) (b off n cap : Nat) (A : Nat → Option Addr) (C : Nat → Nat) (w : World) (hg : c.log = g) (hn : c.layers.length = n) (h0 : 0 ≤ g) (h4 : g ≤ 4) (n1 : 1 ≤ n) (n4 : n ≤ 4) (hr : CRow w (some ⟨b, off, none⟩) c.layers A C) :
    Calls Tryd.prog 9 #[.agg #[.int .i64 g, .slice (some ⟨b, off, none⟩) n cap]] w fun e w' => ∃ x, e = .returned (.int .i64 x) ∧ checkE c x ∧ Below w.heap.size w w' := by
  have hI : (decide ((0 : Int) ≤ g) && decide (g ≤ 4)) = true := by simp; omega
  have HI := hid (fun w => rin_any g 0 4 w)
  rw [hI] at HI
  have m1 : ((n : Int) == 0) = false := beq_eq_false_iff_ne.2 (by omega)
  have m2 : decide ((4 : Int) < (n : Int)) = false := by simp; omega
  have HR := hid hr
  have HG := hid hg
  have HN := hid hn
  clear hI hr hg hn
  go_enter Tryd.func9, Tryd.ntmps9
  go_wp2_with (go_at_call 29; refine (HI.out _).mono ?_; rintro e w' ⟨rfl, hw⟩; obtain rfl := hw.symm)
  obtain ⟨B, hB⟩ : ∃ B, w.heap.size = B := ⟨_, rfl⟩
  have HW0 := hid ((Below.refl B w).alloc (Nat.le_of_eq hB.symm) (.cells #[.int .i64 g, .slice (some ⟨b, off, none⟩) n cap] 24))
  have HR0 : Hid (CRow (w.alloc (.cells #[.int .i64 g, .slice (some ⟨b, off, none⟩) n cap] 24)) (some ⟨b, off, none⟩) c.layers A C) := hid (HR.out.kept (by rw [hB]; exact HW0.out))
  have HX0 : Hid (Box2 (w.alloc (.cells #[.int .i64 g, .slice (some ⟨b, off, none⟩) n cap] 24)) B (.int .i64 g) (.slice (some ⟨b, off, none⟩) n cap)) := hid (by rw [← hB]; exact Box2.new w _ _ _)
  rw [hB]
  generalize w.alloc (.cells #[.int .i64 g, .slice (some ⟨b, off, none⟩) n cap] 24) = W0 at HW0 HR0 HX0 ⊢
  have HBE := hid hB
  clear HR hB HI
  go_loopg [3] n (fun q i wr => ∃ k : Nat, k ≤ n ∧ q = n - k ∧ i = .int .i64 (k : Int) ∧ Hid (Below B w wr) ∧ Hid (CRow wr (some ⟨b, off, none⟩) c.layers A C) ∧ Hid (Box2 wr B (.int .i64 g) (.slice (some ⟨b, off, none⟩) n cap)) ∧ Hid (∀ j, j < k → ∀ x, c.layers[j]? = some x → x.right (belowQ c j)))
  case atStart => exact ⟨0, by omega, rfl, rfl, HW0, HR0, HX0, hid (fun j hj => absurd hj (by omega))⟩
  case round =>
    clear HW0 HR0 HX0
    obtain ⟨k, hk, rfl, rfl, HB, HR, HX, HD⟩ := hrel
    obtain ⟨x0, x1, xl⟩ := HX.out
    by_cases hlt : k < n
    · obtain ⟨l, hl⟩ : ∃ l, c.layers[k]? = some l := ⟨c.layers[k]'(by rw [HN.out]; exact hlt), by simp⟩
      obtain ⟨b', off', eb, hc⟩ := HR.out (by intro e; have := HN.out; rw [e] at this; simp at this; omega)
      cases eb
      obtain ⟨y0, y1, y2, y3⟩ := hc k l hl
      have yb : b < wr.heap.size := World.block_lt_of_cell? wr _ y0
      rw [Nat.mul_comm 2 k] at y0 y1
      clear hc
      have HY2 := hid y2
      have HL := hid hl
      clear y2 hl y3
      obtain ⟨lg, hlg⟩ : ∃ x, l.log = x := ⟨_, rfl⟩
      obtain ⟨m, hm⟩ : ∃ x, l.gates.length = x := ⟨_, rfl⟩
      obtain ⟨ga, hga⟩ : ∃ x, A k = x := ⟨_, rfl⟩
      obtain ⟨gc, hgc⟩ : ∃ x, C k = x := ⟨_, rfl⟩
      rw [hlg] at y0
      rw [hm, hga, hgc] at y1
      rw [hga] at HY2
      have HLG := hid hlg
      have HM := hid hm
      clear hlg hm hga hgc
      have k0 : (0 : Int) ≤ (k : Int) := by omega
      have k1 : (k : Int) < (n : Int) := by omega
      have hbel : Hid (∃ bk : Nat, belowQ c k = (bk : Int) ∧ bk ≤ 4) := hid (below_rng HG.out h0 h4 HD.out)
      by_cases hin : 0 ≤ lg ∧ lg ≤ 4
      · obtain ⟨lk, rfl⟩ : ∃ lk : Nat, lg = (lk : Int) := ⟨lg.toNat, by omega⟩
        have hI : (decide ((0 : Int) ≤ (lk : Int)) && decide ((lk : Int) ≤ 4)) = true := by simp; omega
        have HI := hid (fun w => rin_any (lk : Int) 0 4 w)
        rw [hI] at HI
        clear hI
        have lk4 : lk ≤ 4 := by omega
        obtain ⟨N, hN⟩ : ∃ N, N = 2 ^ lk := ⟨_, rfl⟩
        have sh : wrap64 ((2 : Int) ^ lk) = (N : Int) := by rw [hN]; exact shl_pow (by omega)
        have sh2 : IntKind.i64.wrap ((2 : Int) ^ lk) = (N : Int) := by rw [IntWalk.i64_left]; exact sh
        have HNN := hid hN
        clear hN
        by_cases hmN : m = N
        · subst hmN
          go_wp2_with (go_at_call 29; refine (HI.out _).mono ?_; rintro e w' ⟨rfl, hw⟩; obtain rfl := hw.symm)
          go_quiet (fail)
          go_wp2_with fail
          obtain ⟨bk, hbk, bk4⟩ := hbel.out
          have HL0 := hid (Box2.new wr (.int .i64 (lk : Int)) (.slice ga m gc) 39)
          have hal := (Below.refl wr.heap.size wr).alloc (Nat.le_refl _) (.cells #[.int .i64 (lk : Int), .slice ga m gc] 39)
          have HB0 := hid (HB.out.alloc (Nat.le_of_lt xl) (.cells #[.int .i64 (lk : Int), .slice ga m gc] 39))
          have HX0 := hid (HX.out.kept hal)
          have HR0 := hid (HR.out.kept hal)
          have HY0 := hid (HY2.out.kept hal)
          clear x0 x1 y0 y1 HX HR HY2 hal HB yb HI
          obtain ⟨L, hL⟩ : ∃ L, wr.heap.size = L := ⟨_, rfl⟩
          rw [hL] at HL0 xl ⊢
          clear hL
          generalize wr.alloc (.cells #[.int .i64 (lk : Int), .slice ga m gc] 39) = W1 at HL0 HB0 HX0 HR0 HY0 ⊢
          refine (rbelow_any c g b off n cap k A C _ HG.out HN.out n4 (by omega) (by exact HR0.out)).mono ?_
          rintro e w1 ⟨rfl, hb1⟩
          have hb2 : Below W1.heap.size W1 w1 := ⟨hb1.os, hb1.tape, hb1.output, hb1.size, hb1.block⟩
          have HB1 := hid (HB0.out.trans (hb2.mono (Nat.le_trans (Nat.le_of_lt xl) (Nat.le_of_lt HL0.out.lt))))
          have HX1 := hid (HX0.out.kept hb2)
          have HR1 := hid (HR0.out.kept hb2)
          have HY1 := hid (HY0.out.kept hb2)
          obtain ⟨z0, z1, zl⟩ := HL0.out.kept hb2
          clear hb1 hb2 HL0 HX0 HR0 HY0 HB0 hbel
          rw [hbk]
          obtain ⟨M, hM⟩ : ∃ M, M = 2 ^ bk := ⟨_, rfl⟩
          have shM : wrap64 ((2 : Int) ^ bk) = (M : Int) := by rw [hM]; exact shl_pow (by omega)
          have M1 : 1 ≤ M := by rw [hM]; exact Nat.one_le_two_pow
          have M2 : M ≤ 16 := by rw [hM]; exact Nat.le_trans (Nat.pow_le_pow_right (by omega) bk4) (by decide)
          have HM2 : Hid ((M : Int) = ((2 ^ (belowQ c k).toNat : Nat) : Int)) := hid (by rw [hM, hbk]; simp)
          clear hM hbk sh sh2
          have m16 : m ≤ 16 := by rw [HNN.out]; exact Nat.le_trans (Nat.pow_le_pow_right (by omega) lk4) (by decide)
          go_wp2_with fail
          clear shM
          go_loopg [6] m (fun q i wx => ∃ t : Nat, t ≤ m ∧ q = m - t ∧ i = .int .i64 (t : Int) ∧ wx = w1 ∧ Hid (∀ j, j < t → ∀ x, l.gates[j]? = some x → gateOk (M : Int) x))
          case atStart => exact ⟨0, by omega, rfl, rfl, rfl, hid (fun j hj => absurd hj (by omega))⟩
          case round =>
            obtain ⟨t, ht, rfl, rfl, hwx, HT⟩ := hrel
            subst hwx
            by_cases htl : t < m
            · obtain ⟨x, hx⟩ : ∃ x, l.gates[t]? = some x := ⟨l.gates[t]'(by rw [HM.out]; exact htl), by simp⟩
              obtain ⟨gb, go, rfl, hgc⟩ := HY1.out (by intro e; have := HM.out; rw [e] at this; simp at this; omega)
              obtain ⟨_, q1, q2⟩ := hgc t x hx
              rw [Nat.mul_comm 3 t] at q1 q2
              obtain ⟨xa, hxa⟩ : ∃ v, x.a = v := ⟨_, rfl⟩
              obtain ⟨xb, hxb⟩ : ∃ v, x.b = v := ⟨_, rfl⟩
              rw [hxa] at q1
              rw [hxb] at q2
              have HXX := hid (And.intro hx (And.intro hxa hxb))
              clear hgc hx hxa hxb
              have t0 : (0 : Int) ≤ (t : Int) := by omega
              have t1 : (t : Int) < (m : Int) := by omega
              have HIA := hid (fun w => rin_any xa 0 ((M : Int) - 1) w)
              have HIB := hid (fun w => rin_any xb 0 ((M : Int) - 1) w)
              by_cases ha : 0 ≤ xa ∧ xa < M
              · have hI : (decide ((0 : Int) ≤ xa) && decide (xa ≤ (M : Int) - 1)) = true := by simp; omega
                rw [hI] at HIA
                clear hI
                by_cases hb : 0 ≤ xb ∧ xb < M
                · have hI : (decide ((0 : Int) ≤ xb) && decide (xb ≤ (M : Int) - 1)) = true := by simp; omega
                  rw [hI] at HIB
                  clear hI
                  go_wp2_with fail
                  refine (HIA.out _).mono ?_
                  rintro e w' ⟨rfl, hw⟩
                  obtain rfl := hw.symm
                  go_wp2_with fail
                  refine (HIB.out _).mono ?_
                  rintro e w' ⟨rfl, hw⟩
                  obtain rfl := hw.symm
                  go_wp2_with fail
                  go_roundg (m - (t + 1))
                  case measure => go_light; omega
                  case rel =>
                    refine ⟨t + 1, by omega, rfl, by go_num, rfl, hid fun j hj y hy => ?_⟩
                    by_cases hjt : j < t
                    · exact HT.out j hjt y hy
                    · obtain rfl : j = t := by omega
                      obtain ⟨e1, e2, e3⟩ := HXX.out
                      rw [e1] at hy
                      cases hy
                      exact ⟨by rw [e2]; exact ha, by rw [e3]; exact hb⟩
                · have hI : (decide ((0 : Int) ≤ xb) && decide (xb ≤ (M : Int) - 1)) = false := by simp; omega
                  rw [hI] at HIB
                  clear hI
                  go_wp2_with fail
                  refine (HIA.out _).mono ?_
                  rintro e w' ⟨rfl, hw⟩
                  obtain rfl := hw.symm
                  go_wp2_with fail
                  refine (HIB.out _).mono ?_
                  rintro e w' ⟨rfl, hw⟩
                  obtain rfl := hw.symm
                  go_wp2_with fail
                  go_ret
                  obtain ⟨e1, e2, e3⟩ := HXX.out
                  refine ⟨1, rfl, checkE_stop (by rw [HG.out]; exact ⟨h0, h4⟩) (by rw [HN.out]; exact n4) HD.out HL.out (.inr (.inr (.inl ⟨by rw [HLG.out]; omega, by rw [HM.out, HLG.out]; exact HNN.out, ⟨x, List.mem_of_getElem? e1, fun h => hb ?_⟩, rfl⟩))) (by decide), ?_⟩
                  · rw [← HM2.out] at h; rw [← e3]; exact h.2
                  · rw [HBE.out]; exact HB1.out
              · have hI : (decide ((0 : Int) ≤ xa) && decide (xa ≤ (M : Int) - 1)) = false := by simp; omega
                rw [hI] at HIA
                clear hI
                go_wp2_with fail
                refine (HIA.out _).mono ?_
                rintro e w' ⟨rfl, hw⟩
                obtain rfl := hw.symm
                go_wp2_with fail
                go_ret
                obtain ⟨e1, e2, e3⟩ := HXX.out
                refine ⟨1, rfl, checkE_stop (by rw [HG.out]; exact ⟨h0, h4⟩) (by rw [HN.out]; exact n4) HD.out HL.out (.inr (.inr (.inl ⟨by rw [HLG.out]; omega, by rw [HM.out, HLG.out]; exact HNN.out, ⟨x, List.mem_of_getElem? e1, fun h => ha ?_⟩, rfl⟩))) (by decide), ?_⟩
                · rw [← HM2.out] at h; rw [← e2]; exact h.1
                · rw [HBE.out]; exact HB1.out
            · have e : t = m := by omega
              subst e
              go_wp2_with fail
              go_roundg (n - (k + 1))
              case measure => go_light; omega
              case rel =>
                refine ⟨k + 1, by omega, rfl, by go_num, HB1, HR1, HX1, hid fun j hj y hy => ?_⟩
                by_cases hjk : j < k
                · exact HD.out j hjk y hy
                · obtain rfl : j = k := by omega
                  rw [HL.out] at hy
                  cases hy
                  refine ⟨by rw [HLG.out]; omega, by rw [HM.out, HLG.out]; exact HNN.out, fun q hq => ?_⟩
                  obtain ⟨i, hi, rfl⟩ := List.getElem_of_mem hq
                  rw [← HM2.out]
                  exact HT.out i (by rw [← HM.out]; exact hi) _ (by simp)
        · have e1 : ((m : Int) != (N : Int)) = true := by simp; omega
          go_wp2_with (go_at_call 29; refine (HI.out _).mono ?_; rintro e w' ⟨rfl, hw⟩; obtain rfl := hw.symm)
          go_quiet (fail)
          go_wp2_with fail
          go_ret
          refine ⟨4, rfl, ?_, ?_⟩
          all_goals first | (rw [HBE.out]; have hal := HB.out.alloc (Nat.le_of_lt xl) (.cells #[.int .i64 (lk : Int), .slice ga m gc] 39); exact ⟨hal.os, hal.tape, hal.output, hal.size, hal.block⟩) | exact checkE_stop (by rw [HG.out]; exact ⟨h0, h4⟩) (by rw [HN.out]; exact n4) HD.out HL.out (.inr (.inl ⟨by rw [HLG.out]; omega, by rw [HM.out, HLG.out]; rw [HNN.out] at hmN; exact hmN, rfl⟩)) (by decide)
      · have hI : (decide ((0 : Int) ≤ lg) && decide (lg ≤ 4)) = false := by simp; omega
        have HI := hid (fun w => rin_any lg 0 4 w)
        rw [hI] at HI
        clear hI
        go_wp2_with (go_at_call 29; refine (HI.out _).mono ?_; rintro e w' ⟨rfl, hw⟩; obtain rfl := hw.symm)
        go_ret
        refine ⟨1, rfl, checkE_stop (by rw [HG.out]; exact ⟨h0, h4⟩) (by rw [HN.out]; exact n4) HD.out HL.out (.inl ⟨by rw [HLG.out]; exact hin, rfl⟩) (by decide), ?_⟩
        rw [HBE.out]
        exact HB.out.alloc (Nat.le_of_lt xl) _
    · have e : k = n := by omega
      subst e
      go_wp2_with fail
      go_ret
      refine ⟨0, rfl, checkE_all (by rw [HG.out]; exact ⟨h0, h4⟩) (by intro e; have := HN.out; rw [e] at this; simp at this; omega) (by rw [HN.out]; exact n4) (fun j x hx => HD.out j (by have := (List.getElem?_eq_some_iff.1 hx).1; rw [HN.out] at this; exact this) x hx), ?_⟩
      rw [HBE.out]
      exact HB.out

/-- Circuit, of every circuit. -/
theorem rcirc_any (c : CQ) (g : Int) (ao : Option Addr) (n cap : Nat) (A : Nat → Option Addr) (C : Nat → Nat) (w : World) (hg : c.log = g) (hn : c.layers.length = n) (hr : CRow w ao c.layers A C) :
    Calls Tryd.prog 9 #[.agg #[.int .i64 g, .slice ao n cap]] w fun e w' => ∃ x, e = .returned (.int .i64 x) ∧ checkE c x ∧ Below w.heap.size w w' := by
  by_cases h : 0 ≤ g ∧ g ≤ 4
  · by_cases hz : n = 0
    · subst hz
      exact (rcirc_none g ao cap w h.1 h.2).mono fun e w' ⟨he, hb⟩ => ⟨1, he, .inl ⟨.inr (List.eq_nil_of_length_eq_zero hn), rfl⟩, hb⟩
    · by_cases h4 : 4 < n
      · exact (rcirc_large g ao n cap w h.1 h.2 h4).mono fun e w' ⟨he, hb⟩ => ⟨2, he, .inr (.inl ⟨by rw [hg]; exact h, by rw [hn]; exact h4, rfl⟩), hb⟩
      · obtain ⟨b, off, rfl, _⟩ := hr (by intro e; rw [e] at hn; simp at hn; omega)
        exact rcirc_main c g b off n cap A C w hg hn h.1 h.2 (by omega) (by omega) hr
  · exact (rcirc_log g ao n cap w h).mono fun e w' ⟨he, hb⟩ => ⟨1, he, .inl ⟨.inl (by rw [hg]; exact h), rfl⟩, hb⟩

end Go.Proofs.YtmhifjdgfhgajafDoor

/-
  Plain: of a right circuit all numbers are small; the law's own tiny circuit; no program in it.
-/
namespace Go.Proofs.YtmhifjdgfhgajafDoor
set_option linter.unusedVariables false

theorem pow_le16 {k : Int} (h : k ≤ 4) : 2 ^ k.toNat ≤ 16 := Nat.le_trans (Nat.pow_le_pow_right (by omega) (show k.toNat ≤ 4 by omega)) (Nat.le_refl 16)
theorem layersR_small : ∀ (ls : List LQ) (k : Int), k ≤ 4 → layersR k ls → ∀ l ∈ ls, (0 ≤ l.log ∧ l.log ≤ 4) ∧ l.gates.length ≤ 16 ∧ ∀ q ∈ l.gates, (0 ≤ q.a ∧ q.a < 100) ∧ 0 ≤ q.b ∧ q.b < 100
  | [], _, _, _ => by simp
  | x :: r, k, hk, h => by
    intro l hl
    obtain ⟨⟨hx1, hx2, hx3⟩, hr⟩ := h
    rcases List.mem_cons.1 hl with rfl | hl
    · refine ⟨hx1, by rw [hx2]; exact pow_le16 hx1.2, fun q hq => ?_⟩
      obtain ⟨⟨a0, a1⟩, b0, b1⟩ := hx3 q hq
      have := pow_le16 hk
      exact ⟨⟨a0, by omega⟩, b0, by omega⟩
    · exact layersR_small r x.log hx1.2 hr l hl
theorem right_small {c : CQ} (h : c.right) : ∀ l ∈ c.layers, (0 ≤ l.log ∧ l.log ≤ 4) ∧ l.gates.length ≤ 16 ∧ ∀ q ∈ l.gates, (0 ≤ q.a ∧ q.a < 100) ∧ 0 ≤ q.b ∧ q.b < 100 := layersR_small _ _ h.log.2 h.each
theorem right_fits {c : CQ} (h : c.right) : c.fits := by
  have hs := right_small h
  have hl := h.log
  intro x hx
  rcases List.mem_cons.1 hx with rfl | hx
  · show 0 ≤ c.log ∧ c.log < 100
    omega
  · obtain ⟨l, hl1, hl2⟩ := List.mem_flatMap.1 hx
    obtain ⟨h1, h2, h3⟩ := hs l hl1
    rcases List.mem_cons.1 hl2 with rfl | hl2
    · show 0 ≤ l.log ∧ l.log < 100
      omega
    · obtain ⟨q, hq, rfl⟩ := List.mem_map.1 hl2
      exact h3 q hq
def tinyQ : CQ := ⟨1, [⟨1, [⟨true, 0, 1⟩, ⟨false, 0, 1⟩]⟩]⟩
theorem tiny_right : tinyQ.right := by
  refine ⟨by decide, by decide, by decide, ⟨by decide, by decide, ?_⟩, trivial⟩
  intro q hq
  simp at hq
  rcases hq with rfl | rfl <;> exact ⟨by decide, by decide⟩

end Go.Proofs.YtmhifjdgfhgajafDoor

/-
  A contract of the laws' own tiny circuit; what it makes is new.
-/
namespace Go.Proofs.YtmhifjdgfhgajafDoor
open Go.RowKit
set_option linter.unusedVariables false
attribute [local go_sem ↓] Go.wp_at_zero Go.wp_at_succ

theorem results_cell1 {fn : Func} {p : Tmp} {ty : TypeId} (h : fn.results = #[.cell p ty]) (tmps : Array Value) (P : Program) (w : World) :
    (results fn tmps).run P w = ((asAddr (tmps.getD p undef)).run P w).andThen fun a w₁ => (loadVar ty a).run P w₁ := by
  simp only [results, h]
  simp [Sem.run_bind, Result.andThen]
theorem load_circ1 {w : World} {b : Nat} {x0 x1 : Value} (c0 : w.cell? ⟨b, 0, none⟩ = some x0) (c1 : w.cell? ⟨b, 1, none⟩ = some x1) : (loadVar 24 ⟨b, 0, none⟩).run Tryd.prog w = .ok (.agg #[x0, x1]) w := by
  go_simp
theorem results_circ1 {fn : Func} {p : Tmp} (h : fn.results = #[.cell p 24]) {tmps : Array Value} {w : World} {b : Nat} {x0 x1 : Value} (hp : tmps.getD p undef = .pointer (some ⟨b, 0, none⟩)) (c0 : w.cell? ⟨b, 0, none⟩ = some x0) (c1 : w.cell? ⟨b, 1, none⟩ = some x1) :
    (results fn tmps).run Tryd.prog w = .ok (.agg #[x0, x1]) w := by
  rw [results_cell1 h, hp]
  simp [asAddr, Result.andThen, load_circ1 c0 c1]
set_option maxHeartbeats 1000000 in
set_option maxRecDepth 100000 in
theorem tiny_any (w : World) :
    Calls Tryd.prog 8 #[] w fun e w' => ∃ (b : Nat) (A : Nat → Option Addr) (C : Nat → Nat), e = .returned (.agg #[.int .i64 1, .slice (some ⟨b, 0, none⟩) 1 1]) ∧ CRow w' (some ⟨b, 0, none⟩) tinyQ.layers A C ∧ Below w.heap.size w w' := by
  go_enter Tryd.func8, Tryd.ntmps8
  go_wp2_with fail
  refine bodyPost_ret (results_circ1 rfl rfl (by rw [World.cell?_alloc_old _ _ _ (by simp <;> omega), World.cell?_alloc_old _ _ _ (by simp <;> omega), World.cell?_alloc_new]; rfl) (by rw [World.cell?_alloc_old _ _ _ (by simp <;> omega), World.cell?_alloc_old _ _ _ (by simp <;> omega), World.cell?_alloc_new]; rfl)) rfl ?_
  refine ⟨w.heap.size + 1 + 1, fun _ => some ⟨w.heap.size + 1, 0, none⟩, fun _ => 2, rfl, ?_, (((Below.refl w.heap.size w).alloc (Nat.le_refl _) _).alloc (by simp) _).alloc (by simp; omega) _⟩
  generalize hO1 : Obj.cells #[Value.int .i64 1, .slice (some ⟨w.heap.size + 1 + 1, 0, none⟩) 1 1] 24 = o1
  have s1 : (w.alloc o1).heap.size = w.heap.size + 1 := by simp
  generalize w.alloc o1 = w1 at s1 ⊢
  generalize hO2 : Obj.cells #[Value.bool true, .int .i64 0, .int .i64 1, .bool false, .int .i64 0, .int .i64 1] 67 = o2
  have s2 : (w1.alloc o2).heap.size = w.heap.size + 1 + 1 := by simp [s1]
  have g : ∀ j, (w1.alloc o2).cell? ⟨w.heap.size + 1, j, none⟩ = (#[Value.bool true, .int .i64 0, .int .i64 1, .bool false, .int .i64 0, .int .i64 1] : Array Value)[j]? := fun j => by
    rw [← hO2, ← s1, World.cell?_alloc_new]
  generalize w1.alloc o2 = w2 at s2 g ⊢
  have hl : ∀ j, (w2.alloc (Obj.cells #[Value.int .i64 1, .slice (some ⟨w.heap.size + 1, 0, none⟩) 2 2] 39)).cell? ⟨w.heap.size + 1 + 1, j, none⟩ = (#[Value.int .i64 1, .slice (some ⟨w.heap.size + 1, 0, none⟩) 2 2] : Array Value)[j]? := fun j => by
    rw [← s2, World.cell?_alloc_new]
  have g' : ∀ j o, (w2.alloc o).cell? ⟨w.heap.size + 1, j, none⟩ = (#[Value.bool true, .int .i64 0, .int .i64 1, .bool false, .int .i64 0, .int .i64 1] : Array Value)[j]? := fun j o => by
    rw [World.cell?_alloc_old _ _ _ (by show w.heap.size + 1 ≠ w2.heap.size; omega)]; exact g j
  intro _
  refine ⟨_, _, rfl, fun i l hi => ?_⟩
  match i, hi with
  | 0, hi =>
    obtain rfl : (⟨1, [⟨true, 0, 1⟩, ⟨false, 0, 1⟩]⟩ : LQ) = l := by simpa [tinyQ] using hi
    refine ⟨(hl 0).trans rfl, (hl 1).trans rfl, fun _ => ⟨_, _, rfl, fun j q hq => ?_⟩, Nat.le_refl 2⟩
    match j, hq with
    | 0, hq =>
      obtain rfl : (⟨true, 0, 1⟩ : GQ) = q := by simpa using hq
      exact ⟨(g' 0 _).trans rfl, (g' 1 _).trans rfl, (g' 2 _).trans rfl⟩
    | 1, hq =>
      obtain rfl : (⟨false, 0, 1⟩ : GQ) = q := by simpa using hq
      exact ⟨(g' 3 _).trans rfl, (g' 4 _).trans rfl, (g' 5 _).trans rfl⟩
    | j + 2, hq => simp at hq
  | i + 1, hi => simp [tinyQ] at hi

end Go.Proofs.YtmhifjdgfhgajafDoor

/-
  The right proof holds for just the outputs that have the circuit's value at the point that was drawn; contracts of the laws' own small and held.
-/
namespace Go.Proofs.YtmhifjdgfhgajafDoor
open Go.RowKit
set_option linter.unusedVariables false
attribute [local go_sem ↓] Go.wp_at_zero Go.wp_at_succ

theorem right_iff {c : CQ} (hc : c.right) (f D fo : Nat → Int) :
    (partsQ c).holds D (rightP c f D).told (ofK (evS (fun j => kk (fo j)) (fun j => kk (D j)) ((partsQ c).lg 0))) (fun j => kk (f j)) ↔ evS (fun j => kk (fo j)) (fun j => kk (D j)) ((partsQ c).lg 0) = evS (fun j => kk (valsQ c f c.layers.length j)) (fun j => kk (D j)) ((partsQ c).lg 0) := by
  have n1 : 0 < (partsQ c).n := List.length_pos_iff.2 hc.some
  rw [rightP_told, Parts.right_holds (partsQ c) D _ _ (parts_fits hc) (parts_run hc f) (fun j => by have := parts_lg hc j; omega) n1]
  have h1 : (partsQ c).tru (valsK c f) D 0 = evS (fun j => kk (valsQ c f c.layers.length j)) (fun j => kk (D j)) ((partsQ c).lg 0) := rfl
  have h2 : (partsQ c).tru (valsK c f) D (partsQ c).n = evS (fun j => kk (f j)) ((partsQ c).z D (partsQ c).n) ((partsQ c).lg (partsQ c).n) := by
    refine evS_congr _ (fun b _ => ?_) (fun _ _ => rfl)
    show kk (valsQ c f (c.layers.length - c.layers.length) b) = _
    rw [Nat.sub_self]
    show kk (nrm (f b)) = kk (f b)
    exact kk_nrm _
  rw [h1, h2]
  constructor
  · rintro ⟨h, _⟩
    have := congrArg kk h
    rwa [kk_ofK, kk_ofK] at this
  · intro h
    exact ⟨by rw [h], rfl⟩
/-- A list of two numbers. -/
def pr (a b : Int) (j : Nat) : Int := if j = 0 then a else b
theorem Nums_pr {a b : Int} (h0 : 0 ≤ a) (h1 : a ≤ 18446744073709551615) (h2 : 0 ≤ b) (h3 : b ≤ 18446744073709551615) : Nums (pr a b) := fun j => by
  unfold pr
  split <;> omega
def dr4 (j : Nat) : Int := if j = 0 then 5 else if j = 1 then 6 else if j = 2 then 7 else 8
theorem Nums_dr4 : Nums dr4 := fun j => by
  unfold dr4
  repeat' split
  all_goals omega
theorem tiny_need : needQ tinyQ = 4 := by decide
theorem tiny_lg : (partsQ tinyQ).lg 0 = 1 := by decide
theorem tiny_ends : endsQ tinyQ 2 2 := by unfold endsQ; decide
theorem ev_one (f g : Nat → K) : evS f g 1 = f 0 + g 0 * (f 1 - f 0) := by
  rw [show (1 : Nat) = 0 + 1 from rfl, evS_fold, evS_zero]; rfl
theorem tiny_yes : (partsQ tinyQ).holds dr4 (rightP tinyQ (pr 3 4) dr4).told (ofK (evS (fun j => kk (pr 12 7 j)) (fun j => kk (dr4 j)) ((partsQ tinyQ).lg 0))) (fun j => kk (pr 3 4 j)) := by
  rw [right_iff tiny_right, tiny_lg, ev_one, ev_one]
  kernel_rfl
theorem tiny_no : ¬ (partsQ tinyQ).holds dr4 (rightP tinyQ (pr 3 4) dr4).told (ofK (evS (fun j => kk (pr 12 8 j)) (fun j => kk (dr4 j)) ((partsQ tinyQ).lg 0))) (fun j => kk (pr 3 4 j)) := by
  rw [right_iff tiny_right, tiny_lg, ev_one, ev_one]
  intro h
  have h2 := congrArg Fin.val h
  revert h2
  decide
set_option maxHeartbeats 2000000 in
set_option maxRecDepth 100000 in
theorem small_any (c : CQ) (g : Int) (ao : Option Addr) (n cap : Nat) (A : Nat → Option Addr) (C : Nat → Nat) (w : World) (hn63 : n ≤ maxLen) (hg : c.log = g) (hn : c.layers.length = n) (hr : CRow w ao c.layers A C) :
    Calls Tryd.prog 18 #[.agg #[.int .i64 g, .slice ao n cap]] w fun e w' => ∃ r : Bool, e = .returned (.bool r) ∧ (r = true → c.right) ∧ Below w.heap.size w w' := by
  have HS0 := hid (StW.start w g (.slice ao n cap) 24)
  have HC := hid (fun W (h : Below w.heap.size w W) => rcirc_any c g ao n cap A C W hg hn (hr.kept h))
  have HR := hid hr
  have HN := hid hn
  have n63 : (n : Int) ≤ 9223372036854775807 := by have : maxLen ≤ 9223372036854775807 := by decide
                                                   omega
  clear hg hn hr hn63
  go_enter Tryd.func18, Tryd.ntmps18
  go_wp2_with fail
  obtain ⟨B, hB⟩ : ∃ B, w.heap.size = B := ⟨_, rfl⟩
  rw [hB] at HS0
  rw [hB]
  clear hB
  generalize w.alloc (.cells #[.int .i64 g, .slice ao n cap] 24) = W1 at HS0 ⊢
  go_loopg [8] n (fun q i wr => ∃ t : Nat, t ≤ n ∧ q = n - t ∧ i = .int .i64 (t : Int) ∧ Hid (StW w wr B g (.slice ao n cap)))
  case atStart => exact ⟨0, by omega, rfl, rfl, HS0⟩
  case round =>
    clear HS0
    obtain ⟨t, htn, rfl, rfl, HS⟩ := hrel
    by_cases htl : t < n
    · obtain ⟨l, hl⟩ : ∃ l, c.layers[t]? = some l := ⟨c.layers[t]'(by rw [HN.out]; exact htl), by simp⟩
      obtain ⟨b, off, rfl, hcc⟩ := HR.out.kept HS.out.bel (by intro e; have := HN.out; rw [e] at this; simp at this; omega)
      obtain ⟨x0, x1, _, _⟩ := hcc t l hl
      rw [Nat.mul_comm 2 t] at x0 x1
      obtain ⟨lg, hlg⟩ : ∃ x, l.log = x := ⟨_, rfl⟩
      rw [hlg] at x0
      have t0 : (0 : Int) ≤ (t : Int) := by omega
      have t1 : (t : Int) < (n : Int) := by omega
      have HAL := hid (fun v => HS.out.next ((Below.refl wr.heap.size wr).alloc (Nat.le_refl _) (.cells #[.int .i64 lg, v] 39)))
      clear hcc hl hlg
      by_cases h2 : (2 : Int) < lg
      · go_wp2_with fail
        go_ret
        exact ⟨false, rfl, fun h => absurd h Bool.false_ne_true, (HAL.out _).bel⟩
      · go_wp2_with fail
        go_roundg (n - (t + 1))
        case measure => go_light; omega
        case rel => exact ⟨t + 1, by omega, rfl, by go_num, hid (HAL.out _)⟩
    · have t1 : ¬ ((t : Int) < (n : Int)) := by omega
      obtain ⟨z0, z1, zl⟩ := HS.out.box
      go_wp2_with fail
      refine (HC.out _ HS.out.bel).mono ?_
      rintro e w1 ⟨y, rfl, hy, hb⟩
      have HS1 := hid (HS.out.next hb)
      have HY := hid hy
      clear hb hy z0 z1 zl HS
      obtain ⟨z0, z1, zl⟩ := HS1.out.box
      by_cases hy0 : y = 0
      · subst hy0
        have HRT := hid (checkE_zero.1 HY.out)
        go_wp2_with fail
        go_ret
        exact ⟨_, rfl, fun _ => HRT.out, HS1.out.bel⟩
      · have e1 : (y == 0) = false := beq_eq_false_iff_ne.2 hy0
        go_wp2_with fail
        go_ret
        exact ⟨false, rfl, fun h => absurd h Bool.false_ne_true, HS1.out.bel⟩
/-- Below a world that grew, step by step. -/
theorem bel_alloc {X Y : World} (o : Obj) (h : Below X.heap.size X Y) : Below X.heap.size X (Y.alloc o) := h.alloc h.size o
theorem bel_trans {X Y Z : World} (hz : Below Y.heap.size Y Z) (h : Below X.heap.size X Y) : Below X.heap.size X Z := h.trans (hz.mono h.size)
theorem bel_drew {X Y : World} (h : Below X.heap.size X Y) : Below X.heap.size X Y.drew := h.drew
theorem row_pair (w : World) (x y : Int) (t : TypeId) : Row (w.alloc (.cells #[.int .u64 x, .int .u64 y] t)) w.heap.size 0 2 (pr x y) := fun j hj => by
  rw [Nat.zero_add, World.cell?_alloc_new]
  match j, hj with
  | 0, _ => rfl
  | 1, _ => rfl
theorem row_new2 {w : World} {n : Nat} {x y : Int} {t : TypeId} (h : n = w.heap.size) : Row (w.alloc (.cells #[.int .u64 x, .int .u64 y] t)) n 0 2 (pr x y) := by
  subst h
  exact row_pair w x y t
theorem row_old2 {w : World} {n : Nat} {f : Nat → Int} (o : Obj) (h : Row w n 0 2 f) : Row (w.alloc o) n 0 2 f := h.kept (bel_alloc o (Below.refl _ w)) (h.lt (by omega))
theorem row_bel2 {Y Z : World} {n : Nat} {f : Nat → Int} (hb : Below Y.heap.size Y Z) (h : Row Y n 0 2 f) : Row Z n 0 2 f := h.kept hb (h.lt (by omega))
theorem crow_old {w : World} {ao : Option Addr} {ls : List LQ} {A : Nat → Option Addr} {C : Nat → Nat} (o : Obj) (h : CRow w ao ls A C) : CRow (w.alloc o) ao ls A C := h.kept (bel_alloc o (Below.refl _ w))
theorem keep_cell {W W' : World} {a : Addr} {v : Value} (h : W.cell? a = some v) (hb : Below W.heap.size W W') : W'.cell? a = some v := (hb.cell (World.block_lt_of_cell? W _ h)).trans h
theorem row_four (w : World) (t : TypeId) : Row (w.alloc (.cells #[.int .u64 5, .int .u64 6, .int .u64 7, .int .u64 8] t)) w.heap.size 0 4 dr4 := fun j hj => by
  rw [Nat.zero_add, World.cell?_alloc_new]
  match j, hj with
  | 0, _ => rfl
  | 1, _ => rfl
  | 2, _ => rfl
  | 3, _ => rfl
set_option maxHeartbeats 8000000 in
set_option maxRecDepth 100000 in
theorem held_any (w : World) (ht : Tab w) :
    Calls Tryd.prog 17 #[] w fun e w' => e = .returned (.bool true) ∧ Below w.heap.size w w' := by
  have HT := hid ht
  clear ht
  go_enter Tryd.func17, Tryd.ntmps17
  go_wp2_with fail
  refine (tiny_any w).mono ?_
  rintro e w1 ⟨b1, A1, C1, rfl, hc1, hb1⟩
  go_wp2_with fail
  refine (draws_ok tinyQ 1 b1 0 1 1 A1 C1 w1 rfl rfl hc1 tiny_right).mono ?_
  rintro e w2 ⟨rfl, hb2⟩
  have HB2 := hid (bel_trans hb2 hb1)
  clear hc1 hb1 hb2
  go_wp2_with fail
  rw [tiny_need]
  refine (tiny_any _).mono ?_
  rintro e w3 ⟨b3, A3, C3, rfl, hc3, hb3⟩
  have HD3 : Hid (Row w3 w2.heap.size 0 4 dr4 ∧ w2.heap.size < w3.heap.size) := hid (by
    have h := (row_four w2 26).kept hb3 (by simp)
    exact ⟨h, h.lt (by omega)⟩)
  have HB3 := hid (bel_trans hb3 (bel_alloc _ HB2.out))
  have HC3 := hid hc3
  clear hc3 hb3 HB2
  obtain ⟨BD, hBD⟩ : ∃ x, w2.heap.size = x := ⟨_, rfl⟩
  rw [hBD] at HD3
  rw [hBD]
  clear hBD
  go_wp2_with fail
  have HPV : Hid (Calls Tryd.prog 20 #[.agg #[.int .i64 1, .slice (some ⟨b3, 0, none⟩) 1 1], .slice (some ⟨w3.heap.size, 0, none⟩) 2 2, .slice (some ⟨BD, 0, none⟩) 4 4] (w3.alloc (.cells #[.int .u64 3, .int .u64 4] 26)) fun e w' => proveOut tinyQ (pr 3 4) dr4 1 (w3.alloc (.cells #[.int .u64 3, .int .u64 4] 26)) e w') := hid (by
    have hal := (Below.refl w3.heap.size w3).alloc (Nat.le_refl _) (.cells #[.int .u64 3, .int .u64 4] 26)
    have hbw := bel_trans hal HB3.out
    exact pv_ok tinyQ 1 b3 0 1 1 A3 C3 w3.heap.size 0 2 2 (pr 3 4) BD 0 4 4 dr4 _ rfl rfl (HC3.out.kept hal) tiny_right (shl_pow (k := 1) (by omega)) (by decide) (row_pair w3 3 4 _) (Nums_pr (by omega) (by omega) (by omega) (by omega)) (HD3.out.1.kept hal HD3.out.2) Nums_dr4 tiny_need.symm (by omega) (by decide) (HT.out.kept hbw HT.out.1))
  refine (HPV.out).mono ?_
  rintro e w4 ⟨PB, m, rfl, hpf, hlow, hb4⟩
  have HB4 := hid (bel_trans hb4 (bel_alloc _ HB3.out))
  have HD4 : Hid (Row w4 BD 0 4 dr4 ∧ BD < w4.heap.size) := hid (by
    have hal := bel_trans hb4 ((Below.refl w3.heap.size w3).alloc (Nat.le_refl _) (.cells #[.int .u64 3, .int .u64 4] 26))
    exact ⟨HD3.out.1.kept hal HD3.out.2, Nat.lt_of_lt_of_le HD3.out.2 hal.size⟩)
  have HPF := hid hpf
  clear hpf hlow hb4 HB3 HD3 HC3 HPV
  go_wp2_with fail
  have hal := (Below.refl w4.heap.size w4).alloc (Nat.le_refl _) (.cells #[.slice (some ⟨PB, 0, none⟩) 1 1] 51)
  have HB5 := hid (bel_trans hal HB4.out)
  have HD5 : Hid (Row (w4.alloc (.cells #[.slice (some ⟨PB, 0, none⟩) 1 1] 51)) BD 0 4 dr4 ∧ BD < (w4.alloc (.cells #[.slice (some ⟨PB, 0, none⟩) 1 1] 51)).heap.size) := hid ⟨HD4.out.1.kept hal HD4.out.2, Nat.lt_of_lt_of_le HD4.out.2 hal.size⟩
  have HP5 := hid (HPF.out.kept hal)
  have HQ5 : Hid ((w4.alloc (.cells #[.slice (some ⟨PB, 0, none⟩) 1 1] 51)).cell? ⟨w4.heap.size, 0, none⟩ = some (.slice (some ⟨PB, 0, none⟩) 1 1)) := hid (by rw [World.cell?_alloc_new]; rfl)
  obtain ⟨Q, hQ⟩ : ∃ x, w4.heap.size = x := ⟨_, rfl⟩
  rw [hQ] at HQ5
  rw [hQ]
  clear hQ hal HB4 HD4 HPF
  generalize w4.alloc (.cells #[.slice (some ⟨PB, 0, none⟩) 1 1] 51) = W5 at HB5 HD5 HP5 HQ5 ⊢
  have HV : Hid (∀ (q : Int) (r : Bool) (W' : World) (x1 x2 bT : Nat) (A : Nat → Option Addr) (C : Nat → Nat), (q = 7 ∧ r = true ∨ q = 8 ∧ r = false) → CRow W' (some ⟨bT, 0, none⟩) tinyQ.layers A C → Row W' x1 0 2 (pr 3 4) → Row W' x2 0 2 (pr 12 q) → Below W5.heap.size W5 W' → Calls Tryd.prog 22 #[.agg #[.int .i64 1, .slice (some ⟨bT, 0, none⟩) 1 1], .slice (some ⟨x1, 0, none⟩) 2 2, .slice (some ⟨x2, 0, none⟩) 2 2, .agg #[.slice (some ⟨PB, 0, none⟩) 1 1], .slice (some ⟨BD, 0, none⟩) 4 4] W' fun e w'' => e = .returned (.tuple #[.bool r, .int .i64 0]) ∧ Below W5.heap.size W5 w'') := hid (fun q r W' x1 x2 bT A C hq hcr h1 h2 hb => by
    have hq2 : 0 ≤ q ∧ q ≤ 18446744073709551615 := by rcases hq with ⟨h, _⟩ | ⟨h, _⟩ <;> omega
    refine (vf_ok tinyQ 1 bT 0 1 1 A C x1 0 2 2 x2 0 2 2 (pr 3 4) (pr 12 q) (some ⟨PB, 0, none⟩) 1 1 (rightP tinyQ (pr 3 4) dr4) m BD 0 4 4 dr4 W' rfl rfl hcr tiny_right rfl (HP5.out.kept hb) (rightP_nums _ _ _) (rightP_shaped _ _ _) tiny_ends h1 (Nums_pr (by omega) (by omega) (by omega) (by omega)) h2 (Nums_pr (by omega) (by omega) hq2.1 hq2.2) (HD5.out.1.kept hb HD5.out.2) Nums_dr4 tiny_need.symm (by omega) (by decide) (HT.out.kept (bel_trans hb HB5.out) HT.out.1)).mono ?_
    rintro e w'' ⟨r', rfl, hr', hb'⟩
    refine ⟨?_, bel_trans hb' hb⟩
    rcases hq with ⟨rfl, rfl⟩ | ⟨rfl, rfl⟩
    · rw [hr'.2 tiny_yes]
    · cases r' with
      | false => rfl
      | true => exact absurd (hr'.1 rfl) tiny_no)
  have hq := HQ5.out
  have HBS := hid (Below.refl W5.heap.size W5)
  clear HD5 HP5 HQ5
  go_cut [6, 7] (fun a6 a7 wx => a6 = .bool true ∧ a7 = .int .i64 0 ∧ Hid (Below W5.heap.size W5 wx))
  case first =>
    go_region_held3 (fun W => W.cell? ⟨Q, 0, none⟩ = some (.slice (some ⟨PB, 0, none⟩) 1 1)) (first | assumption | (refine keep_cell hq ?_; repeat (first | exact HBS.out | exact hbV | apply bel_alloc | refine bel_trans hbT ?_ | apply bel_drew))) (first
      | (go_at_call 8; refine (tiny_any _).mono ?_; rintro e wT ⟨bT, AT, CT, rfl, hcT, hbT⟩)
      | (go_at_call 22; refine (HV.out 7 true _ _ _ _ AT CT (.inl ⟨rfl, rfl⟩) (by repeat (first | exact hcT | apply crow_old)) (by repeat (first | exact row_new2 (by simp) | apply row_old2 | refine row_bel2 hbT ?_)) (by repeat (first | exact row_new2 (by simp) | apply row_old2 | refine row_bel2 hbT ?_)) (by repeat (first | exact HBS.out | apply bel_alloc | refine bel_trans hbT ?_ | apply bel_drew))).mono ?_; rintro e wV ⟨rfl, hbV⟩))
    all_goals (go_wp2_with fail)
    all_goals go_meet
    all_goals exact ⟨rfl, rfl, hid hbV⟩
  case rest =>
    clear HBS
    obtain ⟨rfl, rfl, HBS⟩ := hcut
    go_wp2_with fail
    go_cut [8, 9] (fun a8 a9 wx => a8 = .bool false ∧ a9 = .int .i64 0 ∧ Hid (Below W5.heap.size W5 wx))
    case first =>
      go_region_held3 (fun W => W.cell? ⟨Q, 0, none⟩ = some (.slice (some ⟨PB, 0, none⟩) 1 1)) (first | assumption | (refine keep_cell hq ?_; repeat (first | exact HBS.out | exact hbV | apply bel_alloc | refine bel_trans hbT ?_ | apply bel_drew))) (first
        | (go_at_call 8; refine (tiny_any _).mono ?_; rintro e wT ⟨bT, AT, CT, rfl, hcT, hbT⟩)
        | (go_at_call 22; refine (HV.out 8 false _ _ _ _ AT CT (.inr ⟨rfl, rfl⟩) (by repeat (first | exact hcT | apply crow_old)) (by repeat (first | exact row_new2 (by simp) | apply row_old2 | refine row_bel2 hbT ?_)) (by repeat (first | exact row_new2 (by simp) | apply row_old2 | refine row_bel2 hbT ?_)) (by repeat (first | exact HBS.out | apply bel_alloc | refine bel_trans hbT ?_ | apply bel_drew))).mono ?_; rintro e wV ⟨rfl, hbV⟩))
      all_goals (go_wp2_with fail)
      all_goals go_meet
      all_goals exact ⟨rfl, rfl, hid hbV⟩
    case rest =>
      clear HBS
      obtain ⟨rfl, rfl, HBS⟩ := hcut
      go_wp2_with fail
      go_ret
      exact ⟨rfl, bel_trans HBS.out HB5.out⟩

end Go.Proofs.YtmhifjdgfhgajafDoor

/-
  A contract of slices.Equal at numbers of 64 bits, where both lists have the same numbers; nothing is written.
-/
namespace Go.Proofs.YtmhifjdgfhgajafDoor
open Go.RowKit
set_option linter.unusedVariables false
attribute [local go_sem ↓] Go.wp_at_zero Go.wp_at_succ

set_option maxHeartbeats 2000000 in
set_option maxRecDepth 100000 in
theorem equal_ok (a0 a1 : Option Addr) (n c0 c1 : Nat) (f g : Nat → Int) (w : World) (hn : n ≤ 100000) (p0 : PRow w a0 n f) (p1 : PRow w a1 n g) (e : ∀ j, j < n → f j = g j) :
    Calls Tryd.prog 26 #[.slice a0 n c0, .slice a1 n c1] w fun e w' => e = .returned (.bool true) ∧ Below w.heap.size w w' := by
  have H0 := hid p0
  have H1 := hid (p1.congr fun j hj => (e j hj).symm)
  clear p0 p1 e
  go_enter Tryd.func26, Tryd.ntmps26
  go_wp2_with fail
  go_loopg [13] n (fun q i wr => ∃ k : Nat, k ≤ n ∧ q = n - k ∧ i = .int .i64 (k : Int) ∧ Hid (PRow wr a0 n f) ∧ Hid (PRow wr a1 n f) ∧ Hid (Below w.heap.size w wr))
  case atStart => exact ⟨0, by omega, rfl, rfl, H0, H1, hid (Below.refl _ _)⟩
  case round =>
    clear H0 H1
    obtain ⟨k, hk, rfl, rfl, H0, H1, HB⟩ := hrel
    by_cases hlt : k < n
    · obtain ⟨b1, o1, rfl, r1⟩ := H0.out (by omega)
      obtain ⟨b2, o2, rfl, r2⟩ := H1.out (by omega)
      have c1 := r1 k hlt
      have c2 := r2 k hlt
      clear r1 r2
      obtain ⟨a, ha⟩ : ∃ a, f k = a := ⟨_, rfl⟩
      rw [ha] at c1 c2
      clear ha
      have k0 : (0 : Int) ≤ (k : Int) := by omega
      have k1 : (k : Int) < (n : Int) := by omega
      go_wp2_with fail
      go_region_with (first | fail)
      all_goals (go_wp2_with fail)
      all_goals (go_roundg (n - (k + 1)))
      all_goals first | (go_light; omega) | (exact ⟨k + 1, by omega, rfl, by go_num, hid H0.out.drew, hid H1.out.drew, hid HB.out.drew⟩)
    · have e : k = n := by omega
      subst e
      go_wp2_with fail
      go_ret
      exact ⟨rfl, HB.out⟩

end Go.Proofs.YtmhifjdgfhgajafDoor

/-
  A contract of the law FiatComplete, for every circuit and all lists: it answers true.
-/
namespace Go.Proofs.YtmhifjdgfhgajafDoor
open Go.RowKit
set_option linter.unusedVariables false
attribute [local go_sem ↓] Go.wp_at_zero Go.wp_at_succ

theorem tiny_out0 : valsQ tinyQ (pr 3 4) 1 0 = pr 12 7 0 := by kernel_rfl
theorem tiny_out1 : valsQ tinyQ (pr 3 4) 1 1 = pr 12 7 1 := by kernel_rfl
theorem tiny_out (j : Nat) (hj : j < 2) : valsQ tinyQ (pr 3 4) 1 j = pr 12 7 j := by
  obtain rfl | rfl : j = 0 ∨ j = 1 := by omega
  · exact tiny_out0
  · exact tiny_out1

set_option maxHeartbeats 8000000 in
set_option maxRecDepth 100000 in
theorem fcomp_any (c : CQ) (g : Int) (ao : Option Addr) (n cap : Nat) (A : Nat → Option Addr) (C : Nat → Nat) (ai : Option Addr) (ni ci : Nat) (fi : Nat → Int) (w : World) (ht : Tab w) (hn63 : n ≤ maxLen) (hg : c.log = g) (hn : c.layers.length = n) (hr : CRow w ao c.layers A C) (hi : PRow w ai ni fi) (vi : Nums fi) :
    Calls Tryd.prog 6 #[.agg #[.int .i64 g, .slice ao n cap], .slice ai ni ci] w fun e w' => e = .returned (.bool true) ∧ Below w.heap.size w w' := by
  have HS0 := hid (StW.start w g (.slice ao n cap) 24)
  have HSM := hid (fun W (h : Below w.heap.size w W) => small_any c g ao n cap A C W hn63 hg hn (hr.kept h))
  have HR := hid hr
  have HG := hid hg
  have HN := hid hn
  have HT := hid (fun W (h : Below w.heap.size w W) => ht.kept h ht.1)
  have HI := hid (And.intro hi vi)
  clear hr hg hn ht hi vi hn63
  go_enter Tryd.func6, Tryd.ntmps6
  go_wp2_with fail
  obtain ⟨X, hX⟩ : ∃ X, w.heap.size = X := ⟨_, rfl⟩
  rw [hX] at HS0
  rw [hX]
  clear hX
  generalize w.alloc (.cells #[.int .i64 g, .slice ao n cap] 24) = W0 at HS0 ⊢
  refine (tiny_any _).mono ?_
  rintro e w1 ⟨b1, A1, C1, rfl, hc1, hb1⟩
  have HS1 := hid (HS0.out.next hb1)
  have HC1 := hid hc1
  clear hc1 hb1 HS0
  go_wp2_with fail
  have HPV : Hid (Calls Tryd.prog 24 #[.agg #[.int .i64 1, .slice (some ⟨b1, 0, none⟩) 1 1], .slice (some ⟨w1.heap.size, 0, none⟩) 2 2] (w1.alloc (.cells #[.int .u64 3, .int .u64 4] 26)) fun e w' => fproveOut tinyQ (pr 3 4) 1 2 2 (w1.alloc (.cells #[.int .u64 3, .int .u64 4] 26)) e w') := hid (by
    have hal := (Below.refl w1.heap.size w1).alloc (Nat.le_refl _) (.cells #[.int .u64 3, .int .u64 4] 26)
    exact fpv_ok tinyQ 1 b1 0 1 1 A1 C1 w1.heap.size 0 2 2 2 (pr 3 4) _ rfl rfl (HC1.out.kept hal) tiny_right (shl_pow (k := 1) (by omega)) (by decide) (by decide) (row_pair w1 3 4 _) (Nums_pr (by omega) (by omega) (by omega) (by omega)) (HT.out _ (HS1.out.next hal).bel))
  refine (HPV.out).mono ?_
  rintro e w2 ⟨dk, PB, m, rfl, hrow, hpf, hlow, hfr, hb2⟩
  have HS2 := hid (HS1.out.next (bel_trans hb2 (bel_alloc _ (Below.refl _ w1))))
  have hal := (Below.refl w2.heap.size w2).alloc (Nat.le_refl _) (.cells #[.slice (some ⟨PB, 0, none⟩) 1 1] 51)
  have HS3 := hid (HS2.out.next hal)
  have HP3 := hid (hpf.kept hal)
  have HD3 : Hid (Row (w2.alloc (.cells #[.slice (some ⟨PB, 0, none⟩) 1 1] 51)) dk 0 2 (valsQ tinyQ (pr 3 4) 1)) := hid (hrow.kept hal (hrow.lt (by omega)))
  have HQL : Hid (w.heap.size ≤ w2.heap.size) := hid HS2.out.bel.size
  have HQ3 : Hid ((w2.alloc (.cells #[.slice (some ⟨PB, 0, none⟩) 1 1] 51)).cell? ⟨w2.heap.size, 0, none⟩ = some (.slice (some ⟨PB, 0, none⟩) 1 1) ∧ (w2.alloc (.cells #[.slice (some ⟨PB, 0, none⟩) 1 1] 51)).frozen? ⟨w2.heap.size, 0, none⟩ = false) := hid ⟨by rw [World.cell?_alloc_new]; rfl, by rw [World.frozen?_alloc_new]⟩
  clear hrow hpf hlow hfr hb2 hal HS1 HS2 HC1 HPV
  go_wp2_with fail
  obtain ⟨Q, hQ⟩ : ∃ x, w2.heap.size = x := ⟨_, rfl⟩
  rw [hQ] at HQ3 HQL
  rw [hQ]
  clear hQ
  generalize w2.alloc (.cells #[.slice (some ⟨PB, 0, none⟩) 1 1] 51) = W3 at HS3 HP3 HD3 HQ3 ⊢
  have HV : Hid (∀ (W' : World) (x1 bT : Nat) (A : Nat → Option Addr) (C : Nat → Nat), CRow W' (some ⟨bT, 0, none⟩) tinyQ.layers A C → Row W' x1 0 2 (pr 3 4) → Below W3.heap.size W3 W' → Calls Tryd.prog 25 #[.agg #[.int .i64 1, .slice (some ⟨bT, 0, none⟩) 1 1], .slice (some ⟨x1, 0, none⟩) 2 2, .slice (some ⟨dk, 0, none⟩) 2 2, .agg #[.slice (some ⟨PB, 0, none⟩) 1 1]] W' fun e w'' => e = .returned (.tuple #[.bool true, .int .i64 0]) ∧ Below W3.heap.size W3 w'') := hid (fun W' x1 bT A C hcr h1 hb => by
    refine (fvf_yes tinyQ 1 bT 0 1 1 A C x1 0 2 2 dk 0 2 2 (pr 3 4) (some ⟨PB, 0, none⟩) 1 m W' rfl rfl hcr tiny_right (by decide) (by decide) h1 (Nums_pr (by omega) (by omega) (by omega) (by omega)) (HD3.out.kept hb (HD3.out.lt (by omega))) (HP3.out.kept hb) (HT.out _ (HS3.out.next hb).bel)).mono ?_
    rintro e w'' ⟨rfl, hb'⟩
    exact ⟨rfl, bel_trans hb' hb⟩)
  have hq := HQ3.out.1
  have HBS := hid (Below.refl W3.heap.size W3)
  go_cut [8, 9] (fun a6 a7 wx => a6 = .bool true ∧ a7 = .int .i64 0 ∧ Hid (Below W3.heap.size W3 wx))
  case first =>
    go_region_held3 (fun W => W.cell? ⟨Q, 0, none⟩ = some (.slice (some ⟨PB, 0, none⟩) 1 1)) (first | assumption | (refine keep_cell hq ?_; repeat (first | exact HBS.out | exact hbV | apply bel_alloc | refine bel_trans hbT ?_ | apply bel_drew))) (first
      | (go_at_call 8; refine (tiny_any _).mono ?_; rintro e wT ⟨bT, AT, CT, rfl, hcT, hbT⟩)
      | (go_at_call 25; refine (HV.out _ _ _ AT CT (by repeat (first | exact hcT | apply crow_old)) (by repeat (first | exact row_new2 (by simp) | apply row_old2 | refine row_bel2 hbT ?_)) (by repeat (first | exact HBS.out | apply bel_alloc | refine bel_trans hbT ?_ | apply bel_drew))).mono ?_; rintro e wV ⟨rfl, hbV⟩))
    all_goals (go_wp2_with fail)
    all_goals go_meet
    all_goals exact ⟨rfl, rfl, hid hbV⟩
  case rest =>
    clear HBS hq
    obtain ⟨rfl, rfl, HBS⟩ := hcut
    have HS4 := hid (HS3.out.next HBS.out)
    have HD4 := hid (HD3.out.kept HBS.out (HD3.out.lt (by omega)))
    have HQ4 : Hid (wc.cell? ⟨Q, 0, none⟩ = some (.slice (some ⟨PB, 0, none⟩) 1 1) ∧ wc.frozen? ⟨Q, 0, none⟩ = false) := hid ⟨keep_cell HQ3.out.1 HBS.out, (HBS.out.frozen (World.block_lt_of_cell? W3 _ HQ3.out.1)).trans HQ3.out.2⟩
    clear HS3 HD3 HQ3 HP3 HV HBS
    have HEQ : Hid (∀ x1, Row (wc.alloc (.cells #[.int .u64 12, .int .u64 7] 26)) x1 0 2 (pr 12 7) → Calls Tryd.prog 26 #[.slice (some ⟨dk, 0, none⟩) 2 2, .slice (some ⟨x1, 0, none⟩) 2 2] (wc.alloc (.cells #[.int .u64 12, .int .u64 7] 26)) fun e w' => e = .returned (.bool true) ∧ Below wc.heap.size wc w') := hid (fun x1 hx => by
      have hal := (Below.refl wc.heap.size wc).alloc (Nat.le_refl _) (.cells #[.int .u64 12, .int .u64 7] 26)
      refine (equal_ok (some ⟨dk, 0, none⟩) (some ⟨x1, 0, none⟩) 2 2 2 _ _ _ (by omega) (PRow.of (HD4.out.kept hal (HD4.out.lt (by omega)))) (PRow.of hx) tiny_out).mono ?_
      rintro e w' ⟨rfl, hb⟩
      exact ⟨rfl, hal.trans (hb.mono hal.size)⟩)
    go_wp2_with (go_at_call 26; refine (HEQ.out _ (row_pair wc 12 7 _)).mono ?_; rintro e w5 ⟨rfl, hb5⟩; have HS5 := hid (HS4.out.next hb5); obtain ⟨z0, z1, zl⟩ := HS5.out.box)
    have HQ5 : Hid (w5.cell? ⟨Q, 0, none⟩ = some (.slice (some ⟨PB, 0, none⟩) 1 1) ∧ w5.frozen? ⟨Q, 0, none⟩ = false) := hid ⟨keep_cell HQ4.out.1 hb5, (hb5.frozen (World.block_lt_of_cell? wc _ HQ4.out.1)).trans HQ4.out.2⟩
    clear hb5 HS4 HD4 HQ4 HEQ
    refine (HSM.out _ HS5.out.bel).mono ?_
    rintro e w6 ⟨r, rfl, hrt, hb⟩
    have HS6 := hid (HS5.out.next hb)
    have HQ6 : Hid (w6.cell? ⟨Q, 0, none⟩ = some (.slice (some ⟨PB, 0, none⟩) 1 1) ∧ w6.frozen? ⟨Q, 0, none⟩ = false) := hid ⟨keep_cell HQ5.out.1 hb, (hb.frozen (World.block_lt_of_cell? w5 _ HQ5.out.1)).trans HQ5.out.2⟩
    clear hb HS5 HQ5 z0 z1 zl HSM
    cases r with
    | false =>
      clear hrt
      go_wp2_with fail
      go_ret
      exact ⟨rfl, HS6.out.bel⟩
    | true =>
      have HC := hid (hrt rfl)
      clear hrt
      obtain ⟨b, off, rfl⟩ := right_addr HC.out HR.out
      obtain ⟨gn, N, rfl, gn4, sh, hN, N1, N16, hNk⟩ := right_nums HG.out HN.out HC.out
      have HNN := hid (And.intro hN hNk)
      have n4 : n ≤ 4 := by have := HC.out.few; have := HN.out; omega
      have HSH := hid sh
      obtain ⟨M, hM⟩ : ∃ x, lenQ c n = x := ⟨_, rfl⟩
      have M1 : 1 ≤ M := by rw [← hM]; exact (lenQ_rng HC.out n (by rw [HN.out]; omega)).1
      have M16 : M ≤ 16 := by rw [← hM]; exact (lenQ_rng HC.out n (by rw [HN.out]; omega)).2
      have HM := hid hM
      clear hN hNk hM
      obtain ⟨z0, z1, zl⟩ := HS6.out.box
      have gn0 : (0 : Int) ≤ (gn : Int) := by omega
      go_wp2_with fail
      rw [HSH.out]
      refine (point_any ai ni ci N fi w6 (by omega) (HI.out.1.kept HS6.out.bel)).mono ?_
      rintro e w7 ⟨rfl, hm⟩
      have HS7 := hid (HS6.out.next hm.below)
      have HX7 : Hid (Row w7 w6.heap.size 0 N (padF ni fi)) := hid hm.row
      have HQ7 : Hid (w7.cell? ⟨Q, 0, none⟩ = some (.slice (some ⟨PB, 0, none⟩) 1 1) ∧ w7.frozen? ⟨Q, 0, none⟩ = false) := hid ⟨keep_cell HQ6.out.1 hm.below, (hm.below.frozen (World.block_lt_of_cell? w6 _ HQ6.out.1)).trans HQ6.out.2⟩
      obtain ⟨BX, hBX⟩ : ∃ x, w6.heap.size = x := ⟨_, rfl⟩
      rw [hBX] at HX7
      rw [hBX]
      clear hm hBX HS6 HQ6 z0 z1 zl
      obtain ⟨z0, z1, zl⟩ := HS7.out.box
      go_wp2_with fail
      refine (fpv_ok c gn b off n cap A C BX 0 N N M (padF ni fi) w7 HG.out HN.out (HR.out.kept HS7.out.bel) HC.out HSH.out HNN.out.1 HM.out HX7.out (Nums_pad HI.out.2 _) (HT.out _ HS7.out.bel)).mono ?_
      rintro e w8 ⟨ok, PC, m2, rfl, hrow, hpf, hlow, hfr, hb⟩
      have HS8 := hid (HS7.out.next hb)
      have HX8 := hid (HX7.out.kept hb (HX7.out.lt N1))
      have lQ : Q < w7.heap.size := World.block_lt_of_cell? w7 _ HQ7.out.1
      have cq : w8.cell? ⟨Q, 0, none⟩ = some (.slice (some ⟨PB, 0, none⟩) 1 1) := keep_cell HQ7.out.1 hb
      have fq : w8.frozen? ⟨Q, 0, none⟩ = false := (hb.frozen lQ).trans HQ7.out.2
      have HQX : Hid (Q ≠ X ∧ Q ≠ BX ∧ Q ≠ ok ∧ Q < PC) := hid (by
        refine ⟨fun e => ?_, fun e => ?_, fun e => ?_, by omega⟩
        · have h1 := HQ7.out.1
          have h2 := HS7.out.box.c0
          rw [e, h2] at h1
          cases h1
        · have h1 := HQ7.out.1
          have h2 := HX7.out 0 (by omega)
          rw [e, h2] at h1
          cases h1
        · have h1 := cq
          have h2 := hrow 0 (by omega)
          rw [e, h2] at h1
          cases h1)
      have HW9 : Hid (StW w (w8.setCell ⟨Q, 0, none⟩ (.slice (some ⟨PC, 0, none⟩) n n)) X (gn : Int) (.slice (some ⟨b, off, none⟩) n cap) ∧ Row (w8.setCell ⟨Q, 0, none⟩ (.slice (some ⟨PC, 0, none⟩) n n)) BX 0 N (padF ni fi) ∧ Row (w8.setCell ⟨Q, 0, none⟩ (.slice (some ⟨PC, 0, none⟩) n n)) ok 0 M (valsQ c (padF ni fi) n) ∧ PfRow (w8.setCell ⟨Q, 0, none⟩ (.slice (some ⟨PC, 0, none⟩) n n)) (some ⟨PC, 0, none⟩) (fiatP c N M (padF ni fi)) m2) := hid (by
        have far : ∀ k, k ≠ Q → (w8.setCell ⟨Q, 0, none⟩ (.slice (some ⟨PC, 0, none⟩) n n)).heap[k]? = w8.heap[k]? := fun k hk => Below.heap_setCell _ _ _ _ hk
        have rw2 : ∀ k N f, k ≠ Q → Row w8 k 0 N f → Row (w8.setCell ⟨Q, 0, none⟩ (.slice (some ⟨PC, 0, none⟩) n n)) k 0 N f := fun k N f hk h j hj => (World.cell?_of_block (w := w8) (far k hk)).trans (h j hj)
        have hX := far X (Ne.symm HQX.out.1)
        have hbx := HS8.out.box
        have hlo : w.heap.size ≤ Q := HQL.out
        exact ⟨⟨HS8.out.bel.setCell hlo _, (World.cell?_of_block (w := w8) hX).trans hbx.c0, (World.cell?_of_block (w := w8) hX).trans hbx.c1, by rw [World.size_setCell]; exact hbx.lt⟩, rw2 _ _ _ (Ne.symm HQX.out.2.1) HX8.out, rw2 _ _ _ (Ne.symm HQX.out.2.2.1) hrow, hpf.but hfr fun k h1 h2 => far k (by have := HQX.out.2.2.2; omega)⟩)
      have y9 := World.cell?_setCell_same w8 ⟨Q, 0, none⟩ (.slice (some ⟨PC, 0, none⟩) n n) cq
      clear hrow hpf hlow hfr hb HS7 HX7 HQ7 HS8 HX8 HQX lQ z0 z1 zl
      obtain ⟨z0, z1, zl⟩ := HW9.out.1.box
      go_wp2_with fail
      clear cq fq
      generalize w8.setCell ⟨Q, 0, none⟩ (.slice (some ⟨PC, 0, none⟩) n n) = W9 at HW9 z0 z1 zl y9 ⊢
      refine (fvf_yes c (gn : Int) b off n cap A C BX 0 N N ok 0 M M (padF ni fi) (some ⟨PC, 0, none⟩) n m2 W9 HG.out HN.out (HR.out.kept HW9.out.1.bel) HC.out HNN.out.2 HM.out HW9.out.2.1 (Nums_pad HI.out.2 _) HW9.out.2.2.1 HW9.out.2.2.2 (HT.out _ HW9.out.1.bel)).mono ?_
      rintro e wa ⟨rfl, hb⟩
      have HSA := hid (HW9.out.1.next hb)
      have HXA := hid (HW9.out.2.1.kept hb (HW9.out.2.1.lt N1))
      have HOA := hid (HW9.out.2.2.1.kept hb (HW9.out.2.2.1.lt M1))
      clear hb HW9 z0 z1 zl y9
      obtain ⟨z0, z1, zl⟩ := HSA.out.box
      go_wp2_with fail
      refine (run_ok c gn b off n cap A C BX 0 N N (padF ni fi) wa HG.out HN.out (HR.out.kept HSA.out.bel) HC.out HSH.out HNN.out.1 N16 N1 HXA.out (Nums_pad HI.out.2 _)).mono ?_
      rintro e wb ⟨V, Dv, rfl, hO⟩
      have HSB := hid (HSA.out.next hO.below)
      have HOB := hid (HOA.out.kept hO.below (HOA.out.lt M1))
      have cv := hO.cell n (by omega)
      have rv := hO.row n (by omega)
      obtain ⟨dv, hdv⟩ : ∃ x, Dv n = x := ⟨_, rfl⟩
      rw [HM.out, hdv] at cv rv
      have HEQ := hid (equal_ok (some ⟨ok, 0, none⟩) (some ⟨dv, 0, none⟩) M M M _ _ wb (by omega) (PRow.of HOB.out) (PRow.of rv) fun _ _ => rfl)
      have n0 : (0 : Int) ≤ (n : Int) := by omega
      have n1 : (n : Int) < (n : Int) + 1 := by omega
      have n5 : n < n + 1 := by omega
      clear hO HSA HXA HOA HOB rv hdv z0 z1 zl
      go_wp2_with (go_at_call 26; refine (HEQ.out).mono ?_; rintro e w' ⟨rfl, hbe⟩)
      go_ret
      exact ⟨rfl, bel_trans hbe HSB.out.bel⟩

end Go.Proofs.YtmhifjdgfhgajafDoor
