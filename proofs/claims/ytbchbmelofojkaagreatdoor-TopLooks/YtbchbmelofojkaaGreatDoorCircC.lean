/-
  A contract of package circuit's Check, for every circuit; it makes new blocks and writes nothing that was there.
-/
import Derived.Test.YtbchbmelofojkaaGreatDoorCirc
import Derived.Test.YtbchbmelofojkaaGreatDoorCircM
import Derived.Deep.RegionWith
import Derived.Deep.LoopGhost
import Derived.Deep.Light
import Derived.Deep.DrawnRows
import Derived.Deep.QuietTactic
namespace Go.Proofs.YtbchbmelofojkaaGreatDoor
open Go.RowKit
set_option linter.unusedVariables false
attribute [local go_sem ↓] Go.wp_at_zero Go.wp_at_succ

set_option maxHeartbeats 400000 in
theorem islog_any (n : Int) (w : World) : Calls Tryz.prog 86 #[.int .i64 n] w fun e w' => e = .returned (.bool (decide (0 ≤ n) && decide (n ≤ 4))) ∧ w' = w := by
  by_cases h1 : 0 ≤ n
  · by_cases h2 : n ≤ 4
    · go_enter Tryz.func86, Tryz.ntmps86
      go_wp2
      go_ret
      exact ⟨by simp [h1, h2], rfl⟩
    · go_enter Tryz.func86, Tryz.ntmps86
      go_wp2
      go_ret
      exact ⟨by simp [h2], rfl⟩
  · go_enter Tryz.func86, Tryz.ntmps86
    go_wp2
    go_ret
    exact ⟨by simp; omega, rfl⟩
set_option maxHeartbeats 400000 in
theorem isplace_any (i : Int) (bk M : Nat) (w : World) (hb : bk ≤ 4) (sh : wrap64 ((2 : Int) ^ bk) = (M : Int)) : Calls Tryz.prog 115 #[.int .i64 i, .int .i64 (bk : Int)] w fun e w' => e = .returned (.bool (decide (0 ≤ i) && decide (i < (M : Int)))) ∧ w' = w := by
  by_cases h1 : 0 ≤ i
  · go_enter Tryz.func115, Tryz.ntmps115
    go_wp2
    go_ret
    exact ⟨by simp [h1, sh], rfl⟩
  · go_enter Tryz.func115, Tryz.ntmps115
    go_wp2
    go_ret
    exact ⟨by simp; omega, rfl⟩

set_option maxHeartbeats 1000000 in
theorem chklay_log (lg : Int) (ga : Option Addr) (m gc bk : Nat) (w : World) (h : ¬ (0 ≤ lg ∧ lg ≤ 4)) :
    Calls Tryz.prog 87 #[.agg #[.int .i64 lg, .slice ga m gc], .int .i64 (bk : Int)] w fun e w' => e = .returned (.int .i64 1) ∧ Below w.heap.size w w' := by
  have hI : (decide ((0 : Int) ≤ lg) && decide (lg ≤ 4)) = false := by simp; omega
  have HI := hid (fun w => islog_any lg w)
  rw [hI] at HI
  clear hI h
  go_enter Tryz.func87, Tryz.ntmps87
  go_wp2_with (go_at_call 86; refine (HI.out _).mono ?_; rintro e w' ⟨rfl, hw⟩; obtain rfl := hw.symm)
  go_ret
  exact ⟨rfl, (Below.refl _ w).alloc (Nat.le_refl _) _⟩
set_option maxHeartbeats 1000000 in
theorem chklay_form (lk N : Nat) (ga : Option Addr) (m gc bk : Nat) (w : World) (h : lk ≤ 4) (sh : wrap64 ((2 : Int) ^ lk) = (N : Int)) (hm : m ≠ N) :
    Calls Tryz.prog 87 #[.agg #[.int .i64 (lk : Int), .slice ga m gc], .int .i64 (bk : Int)] w fun e w' => e = .returned (.int .i64 4) ∧ Below w.heap.size w w' := by
  have hI : (decide ((0 : Int) ≤ (lk : Int)) && decide ((lk : Int) ≤ 4)) = true := by simp; omega
  have HI := hid (fun w => islog_any (lk : Int) w)
  rw [hI] at HI
  have sh2 : IntKind.i64.wrap ((2 : Int) ^ lk) = (N : Int) := by rw [IntWalk.i64_left]; exact sh
  have e1 : ((m : Int) != (N : Int)) = true := by simp; omega
  clear hI sh hm
  go_enter Tryz.func87, Tryz.ntmps87
  go_wp2_with (go_at_call 86; refine (HI.out _).mono ?_; rintro e w' ⟨rfl, hw⟩; obtain rfl := hw.symm)
  go_quiet (fail)
  go_wp2_with fail
  go_ret
  have hal := (Below.refl w.heap.size w).alloc (Nat.le_refl _) (.cells #[.int .i64 (lk : Int), .slice ga m gc] 96)
  exact ⟨rfl, ⟨hal.os, hal.tape, hal.output, hal.size, hal.block⟩⟩
set_option maxHeartbeats 1000000 in
set_option maxRecDepth 100000 in
theorem chklay_gates (l : LQ) (lk : Nat) (ga : Option Addr) (m gc bk M : Nat) (w : World) (hlg : l.log = (lk : Int)) (hm : l.gates.length = m) (h : lk ≤ 4) (sh : wrap64 ((2 : Int) ^ lk) = (m : Int)) (m16 : m ≤ 16) (hb : bk ≤ 4) (M1 : 1 ≤ M) (M2 : M ≤ 16) (shM : wrap64 ((2 : Int) ^ bk) = (M : Int)) (hr : GRow w ga l.gates) :
    Calls Tryz.prog 87 #[.agg #[.int .i64 (lk : Int), .slice ga m gc], .int .i64 (bk : Int)] w fun e w' => ∃ x, e = .returned (.int .i64 x) ∧ (((∃ q ∈ l.gates, ¬ gateOk (M : Int) q) ∧ x = 1) ∨ ((∀ q ∈ l.gates, gateOk (M : Int) q) ∧ x = 0)) ∧ Below w.heap.size w w' := by
  have hI : (decide ((0 : Int) ≤ (lk : Int)) && decide ((lk : Int) ≤ 4)) = true := by simp; omega
  have HI := hid (fun w => islog_any (lk : Int) w)
  rw [hI] at HI
  have sh2 : IntKind.i64.wrap ((2 : Int) ^ lk) = (m : Int) := by rw [IntWalk.i64_left]; exact sh
  have HP := hid (fun (i : Int) w => isplace_any i bk M w hb shM)
  have HR := hid hr
  have HM := hid hm
  clear hI sh hlg hm hr shM
  go_enter Tryz.func87, Tryz.ntmps87
  go_wp2_with (go_at_call 86; refine (HI.out _).mono ?_; rintro e w' ⟨rfl, hw⟩; obtain rfl := hw.symm)
  go_quiet (fail)
  go_wp2_with fail
  clear sh2 HI
  have hal := (Below.refl w.heap.size w).alloc (Nat.le_refl _) (.cells #[.int .i64 (lk : Int), .slice ga m gc] 96)
  have HB0 : Hid (Below w.heap.size w ((w.alloc (.cells #[.int .i64 (lk : Int), .slice ga m gc] 96)).drewN nq)) := hid ⟨hal.os, hal.tape, hal.output, hal.size, hal.block⟩
  have HR0 : Hid (GRow ((w.alloc (.cells #[.int .i64 (lk : Int), .slice ga m gc] 96)).drewN nq) ga l.gates) := hid (HR.out.kept HB0.out)
  generalize (w.alloc (.cells #[.int .i64 (lk : Int), .slice ga m gc] 96)).drewN nq = W0 at HB0 HR0 ⊢
  obtain ⟨B, hB⟩ : ∃ B, w.heap.size = B := ⟨_, rfl⟩
  rw [hB] at HB0 ⊢
  have HBE := hid hB
  clear hB HR hal
  go_loopg [21] m (fun q i wr => ∃ t : Nat, t ≤ m ∧ q = m - t ∧ i = .int .i64 (t : Int) ∧ Hid (Below B w wr) ∧ Hid (GRow wr ga l.gates) ∧ Hid (∀ j, j < t → ∀ x, l.gates[j]? = some x → gateOk (M : Int) x))
  case atStart => exact ⟨0, by omega, rfl, rfl, HB0, HR0, hid (fun j hj => absurd hj (by omega))⟩
  case round =>
    clear HB0 HR0
    obtain ⟨t, ht, rfl, rfl, HB, HR, HT⟩ := hrel
    have Bl : B ≤ wr.heap.size := by have h1 := HB.out.size; have h2 := HBE.out; omega
    by_cases htl : t < m
    · obtain ⟨x, hx⟩ : ∃ x, l.gates[t]? = some x := ⟨l.gates[t]'(by rw [HM.out]; exact htl), by simp⟩
      obtain ⟨gb, go, rfl, hgc⟩ := HR.out (by intro e; have := HM.out; rw [e] at this; simp at this; omega)
      obtain ⟨q0, q1, q2⟩ := hgc t x hx
      rw [Nat.mul_comm 3 t] at q0 q1 q2
      obtain ⟨xm, hxm⟩ : ∃ v, x.mul = v := ⟨_, rfl⟩
      obtain ⟨xa, hxa⟩ : ∃ v, x.a = v := ⟨_, rfl⟩
      obtain ⟨xb, hxb⟩ : ∃ v, x.b = v := ⟨_, rfl⟩
      rw [hxm] at q0
      rw [hxa] at q1
      rw [hxb] at q2
      have HXX := hid (And.intro hx (And.intro hxa hxb))
      clear hgc hx hxa hxb hxm
      have t0 : (0 : Int) ≤ (t : Int) := by omega
      have t1 : (t : Int) < (m : Int) := by omega
      have HIA := hid (HP.out xa)
      have HIB := hid (HP.out xb)
      have HB1 := hid (HB.out.alloc Bl (.cells #[.bool xm, .int .i64 xa, .int .i64 xb] 100))
      have HR1 := hid (HR.out.kept ((Below.refl wr.heap.size wr).alloc (Nat.le_refl _) (.cells #[.bool xm, .int .i64 xa, .int .i64 xb] 100)))
      by_cases ha : 0 ≤ xa ∧ xa < M
      · have hI : (decide ((0 : Int) ≤ xa) && decide (xa < (M : Int))) = true := by simp; omega
        rw [hI] at HIA
        clear hI
        by_cases hb : 0 ≤ xb ∧ xb < M
        · have hI : (decide ((0 : Int) ≤ xb) && decide (xb < (M : Int))) = true := by simp; omega
          rw [hI] at HIB
          clear hI
          go_wp2_with fail
          refine (HIA.out _).mono ?_
          rintro e w' ⟨rfl, hw⟩
          obtain rfl := hw.symm
          go_wp2_with fail
          refine (HIB.out _).mono ?_
          rintro e w' ⟨rfl, hw⟩
          obtain rfl := hw.symm
          go_wp2_with fail
          go_roundg (m - (t + 1))
          case measure => go_light; omega
          case rel =>
            refine ⟨t + 1, by omega, rfl, by go_num, HB1, HR1, hid fun j hj y hy => ?_⟩
            by_cases hjt : j < t
            · exact HT.out j hjt y hy
            · obtain rfl : j = t := by omega
              obtain ⟨e1, e2, e3⟩ := HXX.out
              rw [e1] at hy
              cases hy
              exact ⟨by rw [e2]; exact ha, by rw [e3]; exact hb⟩
        · have hI : (decide ((0 : Int) ≤ xb) && decide (xb < (M : Int))) = false := by simp; omega
          rw [hI] at HIB
          clear hI
          go_wp2_with fail
          refine (HIA.out _).mono ?_
          rintro e w' ⟨rfl, hw⟩
          obtain rfl := hw.symm
          go_wp2_with fail
          refine (HIB.out _).mono ?_
          rintro e w' ⟨rfl, hw⟩
          obtain rfl := hw.symm
          go_wp2_with fail
          go_ret
          obtain ⟨e1, e2, e3⟩ := HXX.out
          refine ⟨1, rfl, .inl ⟨⟨x, List.mem_of_getElem? e1, fun h => hb ?_⟩, rfl⟩, ?_⟩
          · rw [← e3]; exact h.2
          · rw [HBE.out]; exact HB1.out
      · have hI : (decide ((0 : Int) ≤ xa) && decide (xa < (M : Int))) = false := by simp; omega
        rw [hI] at HIA
        clear hI
        go_wp2_with fail
        refine (HIA.out _).mono ?_
        rintro e w' ⟨rfl, hw⟩
        obtain rfl := hw.symm
        go_wp2_with fail
        go_ret
        obtain ⟨e1, e2, e3⟩ := HXX.out
        refine ⟨1, rfl, .inl ⟨⟨x, List.mem_of_getElem? e1, fun h => ha ?_⟩, rfl⟩, ?_⟩
        · rw [← e2]; exact h.1
        · rw [HBE.out]; exact HB1.out
    · have e : t = m := by omega
      subst e
      go_wp2_with fail
      go_ret
      refine ⟨0, rfl, .inr ⟨fun q hq => ?_, rfl⟩, ?_⟩
      · obtain ⟨i, hi, rfl⟩ := List.getElem_of_mem hq
        exact HT.out i (by rw [← HM.out]; exact hi) _ (by simp)
      · rw [HBE.out]; exact HB.out
theorem chklay_any (l : LQ) (lg : Int) (ga : Option Addr) (m gc bk : Nat) (w : World) (hlg : l.log = lg) (hm : l.gates.length = m) (hb : bk ≤ 4) (hr : GRow w ga l.gates) :
    Calls Tryz.prog 87 #[.agg #[.int .i64 lg, .slice ga m gc], .int .i64 (bk : Int)] w fun e w' => ∃ x, e = .returned (.int .i64 x) ∧ layerE (bk : Int) l x ∧ Below w.heap.size w w' := by
  by_cases h : 0 ≤ lg ∧ lg ≤ 4
  · obtain ⟨lk, rfl⟩ : ∃ lk : Nat, lg = (lk : Int) := ⟨lg.toNat, by omega⟩
    have lk4 : lk ≤ 4 := by omega
    have hlt : l.log.toNat = lk := by rw [hlg]; simp
    by_cases hmN : m = 2 ^ lk
    · have m16 : m ≤ 16 := by rw [hmN]; exact Nat.le_trans (Nat.pow_le_pow_right (by omega) lk4) (by decide)
      refine (chklay_gates l lk ga m gc bk (2 ^ bk) w hlg hm lk4 (by rw [hmN]; exact shl_pow (by omega)) m16 hb Nat.one_le_two_pow (Nat.le_trans (Nat.pow_le_pow_right (by omega) hb) (by decide)) (shl_pow (by omega)) hr).mono fun e w' ⟨x, he, hx, hw⟩ => ⟨x, he, ?_, hw⟩
      rcases hx with ⟨hx, rfl⟩ | ⟨hx, rfl⟩
      · exact .inr (.inr (.inl ⟨by rw [hlg]; exact h, by rw [hm, hlt]; exact hmN, hx, rfl⟩))
      · exact .inr (.inr (.inr ⟨by rw [hlg]; exact h, by rw [hm, hlt]; exact hmN, hx, rfl⟩))
    · refine (chklay_form lk (2 ^ lk) ga m gc bk w lk4 (shl_pow (by omega)) hmN).mono fun e w' ⟨he, hw⟩ => ⟨4, he, ?_, hw⟩
      exact .inr (.inl ⟨by rw [hlg]; exact h, by rw [hm, hlt]; exact hmN, rfl⟩)
  · refine (chklay_log lg ga m gc bk w h).mono fun e w' ⟨he, hw⟩ => ⟨1, he, .inl ⟨by rw [hlg]; exact h, rfl⟩, hw⟩

set_option maxHeartbeats 1000000 in
theorem check_log (g : Int) (ao : Option Addr) (n cap : Nat) (w : World) (h : ¬ (0 ≤ g ∧ g ≤ 4)) :
    Calls Tryz.prog 55 #[.agg #[.int .i64 g, .slice ao n cap]] w fun e w' => e = .returned (.int .i64 1) ∧ Below w.heap.size w w' := by
  have hI : (decide ((0 : Int) ≤ g) && decide (g ≤ 4)) = false := by simp; omega
  have HI := hid (fun w => islog_any g w)
  rw [hI] at HI
  clear hI h
  go_enter Tryz.func55, Tryz.ntmps55
  go_wp2_with (go_at_call 86; refine (HI.out _).mono ?_; rintro e w' ⟨rfl, hw⟩; obtain rfl := hw.symm)
  go_ret
  exact ⟨rfl, (Below.refl _ w).alloc (Nat.le_refl _) _⟩
set_option maxHeartbeats 1000000 in
theorem check_none (g : Int) (ao : Option Addr) (cap : Nat) (w : World) (h0 : 0 ≤ g) (h4 : g ≤ 4) :
    Calls Tryz.prog 55 #[.agg #[.int .i64 g, .slice ao 0 cap]] w fun e w' => e = .returned (.int .i64 1) ∧ Below w.heap.size w w' := by
  have hI : (decide ((0 : Int) ≤ g) && decide (g ≤ 4)) = true := by simp; omega
  have HI := hid (fun w => islog_any g w)
  rw [hI] at HI
  clear hI
  go_enter Tryz.func55, Tryz.ntmps55
  go_wp2_with (go_at_call 86; refine (HI.out _).mono ?_; rintro e w' ⟨rfl, hw⟩; obtain rfl := hw.symm)
  go_ret
  exact ⟨rfl, (Below.refl _ w).alloc (Nat.le_refl _) _⟩
set_option maxHeartbeats 1000000 in
theorem check_large (g : Int) (ao : Option Addr) (n cap : Nat) (w : World) (h0 : 0 ≤ g) (h4 : g ≤ 4) (hn : 4 < n) :
    Calls Tryz.prog 55 #[.agg #[.int .i64 g, .slice ao n cap]] w fun e w' => e = .returned (.int .i64 2) ∧ Below w.heap.size w w' := by
  have hI : (decide ((0 : Int) ≤ g) && decide (g ≤ 4)) = true := by simp; omega
  have HI := hid (fun w => islog_any g w)
  rw [hI] at HI
  have n1 : ((n : Int) == 0) = false := beq_eq_false_iff_ne.2 (by omega)
  have n2 : (4 : Int) < (n : Int) := by omega
  clear hI
  go_enter Tryz.func55, Tryz.ntmps55
  go_wp2_with (go_at_call 86; refine (HI.out _).mono ?_; rintro e w' ⟨rfl, hw⟩; obtain rfl := hw.symm)
  go_ret
  exact ⟨rfl, (Below.refl _ w).alloc (Nat.le_refl _) _⟩
set_option maxHeartbeats 1000000 in
set_option maxRecDepth 100000 in
theorem check_main (c : CQ) (g : Int) (b off n cap : Nat) (A : Nat → Option Addr) (C : Nat → Nat) (w : World) (hg : c.log = g) (hn : c.layers.length = n) (h0 : 0 ≤ g) (h4 : g ≤ 4) (n1 : 1 ≤ n) (n4 : n ≤ 4) (hr : CRow w (some ⟨b, off, none⟩) c.layers A C) :
    Calls Tryz.prog 55 #[.agg #[.int .i64 g, .slice (some ⟨b, off, none⟩) n cap]] w fun e w' => ∃ x, e = .returned (.int .i64 x) ∧ checkE c x ∧ Below w.heap.size w w' := by
  have hI : (decide ((0 : Int) ≤ g) && decide (g ≤ 4)) = true := by simp; omega
  have HI := hid (fun w => islog_any g w)
  rw [hI] at HI
  have m1 : ((n : Int) == 0) = false := beq_eq_false_iff_ne.2 (by omega)
  have m2 : decide ((4 : Int) < (n : Int)) = false := by simp; omega
  have HR := hid hr
  have HG := hid hg
  have HN := hid hn
  clear hI hr hg hn
  go_enter Tryz.func55, Tryz.ntmps55
  go_wp2_with (go_at_call 86; refine (HI.out _).mono ?_; rintro e w' ⟨rfl, hw⟩; obtain rfl := hw.symm)
  obtain ⟨B, hB⟩ : ∃ B, w.heap.size = B := ⟨_, rfl⟩
  have HW0 := hid ((Below.refl B w).alloc (Nat.le_of_eq hB.symm) (.cells #[.int .i64 g, .slice (some ⟨b, off, none⟩) n cap] 25))
  have HR0 : Hid (CRow (w.alloc (.cells #[.int .i64 g, .slice (some ⟨b, off, none⟩) n cap] 25)) (some ⟨b, off, none⟩) c.layers A C) := hid (HR.out.kept (by rw [hB]; exact HW0.out))
  rw [hB]
  generalize w.alloc (.cells #[.int .i64 g, .slice (some ⟨b, off, none⟩) n cap] 25) = W0 at HW0 HR0 ⊢
  have HBE := hid hB
  clear HR hB HI
  go_loopg [3, 26] n (fun q i3 i wr => ∃ k : Nat, k ≤ n ∧ q = n - k ∧ i3 = .int .i64 (belowQ c k) ∧ i = .int .i64 (k : Int) ∧ Hid (Below B w wr) ∧ Hid (CRow wr (some ⟨b, off, none⟩) c.layers A C) ∧ Hid (∀ j, j < k → ∀ x, c.layers[j]? = some x → x.right (belowQ c j)))
  case atStart => exact ⟨0, by omega, rfl, by rw [belowQ, HG.out], rfl, HW0, HR0, hid (fun j hj => absurd hj (by omega))⟩
  case round =>
    clear HW0 HR0
    obtain ⟨k, hk, rfl, rfl, rfl, HB, HR, HD⟩ := hrel
    have Bl : B ≤ wr.heap.size := by have h1 := HB.out.size; have h2 := HBE.out; omega
    by_cases hlt : k < n
    · obtain ⟨l, hl⟩ : ∃ l, c.layers[k]? = some l := ⟨c.layers[k]'(by rw [HN.out]; exact hlt), by simp⟩
      obtain ⟨b', off', eb, hc⟩ := HR.out (by intro e; have := HN.out; rw [e] at this; simp at this; omega)
      cases eb
      obtain ⟨y0, y1, y2, y3⟩ := hc k l hl
      rw [Nat.mul_comm 2 k] at y0 y1
      clear hc y3
      have HY2 := hid y2
      have HL := hid hl
      clear y2 hl
      obtain ⟨lg, hlg⟩ : ∃ x, l.log = x := ⟨_, rfl⟩
      obtain ⟨m, hm⟩ : ∃ x, l.gates.length = x := ⟨_, rfl⟩
      obtain ⟨ga, hga⟩ : ∃ x, A k = x := ⟨_, rfl⟩
      obtain ⟨gc, hgc⟩ : ∃ x, C k = x := ⟨_, rfl⟩
      rw [hlg] at y0
      rw [hm, hga, hgc] at y1
      rw [hga] at HY2
      have HLG := hid hlg
      have HM := hid hm
      clear hlg hm hga hgc
      have k0 : (0 : Int) ≤ (k : Int) := by omega
      have k1 : (k : Int) < (n : Int) := by omega
      obtain ⟨bk, hbk, bk4⟩ := below_rng HG.out h0 h4 HD.out
      rw [hbk]
      have HBK := hid hbk
      clear hbk
      have hal := (Below.refl wr.heap.size wr).alloc (Nat.le_refl _) (.cells #[.int .i64 lg, .slice ga m gc] 96)
      have HB1 := hid (HB.out.alloc Bl (.cells #[.int .i64 lg, .slice ga m gc] 96))
      have HR1 := hid (HR.out.kept hal)
      have HX1 := hid (Box2.new wr (.int .i64 lg) (.slice ga m gc) 96)
      have HC := hid (chklay_any l lg ga m gc bk _ HLG.out HM.out bk4 (HY2.out.kept hal))
      clear HB HR HY2 hal
      go_wp2_with fail
      refine (HC.out).mono ?_
      rintro e w1 ⟨x, rfl, hx, hb1⟩
      obtain ⟨L, hL⟩ : ∃ L, wr.heap.size = L := ⟨_, rfl⟩
      rw [hL] at HX1 ⊢
      clear hL
      generalize wr.alloc (.cells #[.int .i64 lg, .slice ga m gc] 96) = W1 at HB1 HR1 HX1 hb1
      have HB2 := hid (HB1.out.trans (hb1.mono (by have h1 := HB1.out.size; have h2 := HBE.out; omega)))
      have HR2 := hid (HR1.out.kept hb1)
      obtain ⟨z0, z1, zl⟩ := HX1.out.kept hb1
      have HXE := hid hx
      clear hb1 hx HB1 HR1 HX1 HC
      by_cases hx0 : x = 0
      · subst hx0
        go_wp2_with fail
        go_roundg (n - (k + 1))
        case measure => go_light; omega
        case rel =>
          refine ⟨k + 1, by omega, rfl, by rw [belowQ, HL.out]; simp [HLG.out], by go_num, HB2, HR2, hid fun j hj y hy => ?_⟩
          by_cases hjk : j < k
          · exact HD.out j hjk y hy
          · obtain rfl : j = k := by omega
            rw [HL.out] at hy
            cases hy
            rw [HBK.out]
            exact layerE_back HXE.out
      · have e1 : (x != 0) = true := by simp [hx0]
        go_wp2_with fail
        go_ret
        refine ⟨x, rfl, checkE_stop (by rw [HG.out]; exact ⟨h0, h4⟩) (by rw [HN.out]; exact n4) HD.out HL.out (by rw [HBK.out]; exact HXE.out) hx0, ?_⟩
        rw [HBE.out]
        exact HB2.out
    · have e : k = n := by omega
      subst e
      go_wp2_with fail
      go_ret
      refine ⟨0, rfl, checkE_all (by rw [HG.out]; exact ⟨h0, h4⟩) (by intro e; have := HN.out; rw [e] at this; simp at this; omega) (by rw [HN.out]; exact n4) (fun j x hx => HD.out j (by have := (List.getElem?_eq_some_iff.1 hx).1; rw [HN.out] at this; exact this) x hx), ?_⟩
      rw [HBE.out]
      exact HB.out
/-- Check, of every circuit. -/
theorem check_any (c : CQ) (g : Int) (ao : Option Addr) (n cap : Nat) (A : Nat → Option Addr) (C : Nat → Nat) (w : World) (hg : c.log = g) (hn : c.layers.length = n) (hr : CRow w ao c.layers A C) :
    Calls Tryz.prog 55 #[.agg #[.int .i64 g, .slice ao n cap]] w fun e w' => ∃ x, e = .returned (.int .i64 x) ∧ checkE c x ∧ Below w.heap.size w w' := by
  by_cases h : 0 ≤ g ∧ g ≤ 4
  · by_cases hz : n = 0
    · subst hz
      exact (check_none g ao cap w h.1 h.2).mono fun e w' ⟨he, hb⟩ => ⟨1, he, .inl ⟨.inr (List.eq_nil_of_length_eq_zero hn), rfl⟩, hb⟩
    · by_cases h4 : 4 < n
      · exact (check_large g ao n cap w h.1 h.2 h4).mono fun e w' ⟨he, hb⟩ => ⟨2, he, .inr (.inl ⟨by rw [hg]; exact h, by rw [hn]; exact h4, rfl⟩), hb⟩
      · obtain ⟨b, off, rfl, _⟩ := hr (by intro e; rw [e] at hn; simp at hn; omega)
        exact check_main c g b off n cap A C w hg hn h.1 h.2 (by omega) (by omega) hr
  · exact (check_log g ao n cap w h).mono fun e w' ⟨he, hb⟩ => ⟨1, he, .inl ⟨.inl (by rw [hg]; exact h), rfl⟩, hb⟩

end Go.Proofs.YtbchbmelofojkaaGreatDoor
