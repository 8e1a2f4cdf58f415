/-
  A contract of package circuit's Print, for every circuit; it makes new blocks and writes nothing that was there.
-/
import Derived.Test.YtnnnlalhhhhaeaaDoorCircT
import Derived.Test.YtnnnlalhhhhaeaaDoorCircL
import Derived.Test.YtnnnlalhhhhaeaaDoorCircC
namespace Go.Proofs.YtnnnlalhhhhaeaaDoor
open Go.RowKit
set_option linter.unusedVariables false
attribute [local go_sem ↓] Go.wp_at_zero Go.wp_at_succ

theorem irow_one (w : World) (x : Int) (t : TypeId) : IRowT (w.alloc (.cells #[.int .i64 x] t)) w.heap.size 0 1 (fun _ => x) := fun j hj => by
  match j, hj with
  | 0, _ => rw [World.cell?_alloc_new]; rfl
def twoF (x y : Int) (j : Nat) : Int := if j = 0 then x else y
theorem irow_two (w : World) (x y : Int) (t : TypeId) : IRowT (w.alloc (.cells #[.int .i64 x, .int .i64 y] t)) w.heap.size 0 2 (twoF x y) := fun j hj => by
  match j, hj with
  | 0, _ => rw [World.cell?_alloc_new]; rfl
  | 1, _ => rw [World.cell?_alloc_new]; rfl
theorem IRowT.kept {w w' : World} {b o n : Nat} {f : Nat → Int} (h : IRowT w b o n f) (hb : Below w.heap.size w w') (hl : b < w.heap.size) : IRowT w' b o n f := fun j hj => (hb.cell hl).trans (h j hj)

set_option maxHeartbeats 1000000 in
theorem print_bad (c : CQ) (g : Int) (ao : Option Addr) (n cap : Nat) (A : Nat → Option Addr) (C : Nat → Nat) (x : Int) (w : World) (hg : c.log = g) (hn : c.layers.length = n) (hr : CRow w ao c.layers A C) (hx : checkE c x) (hx0 : x ≠ 0) :
    Calls Tryd.prog 8 #[.agg #[.int .i64 g, .slice ao n cap]] w fun e w' => e = .returned (.tuple #[.string ⟨#[]⟩, .int .i64 x]) ∧ Below w.heap.size w w' := by
  have hal := (Below.refl w.heap.size w).alloc (Nat.le_refl _) (.cells #[.int .i64 g, .slice ao n cap] 24)
  have HC := hid (check_any c g ao n cap A C _ hg hn (hr.kept hal))
  have HX := hid hx
  have HAL := hid hal
  have e1 : (x != 0) = true := by simp [hx0]
  clear hr hx hal hg hn
  go_enter Tryd.func8, Tryd.ntmps8
  go_wp2_with fail
  refine (HC.out).mono ?_
  rintro e w1 ⟨y, rfl, hy, hb⟩
  obtain rfl := checkE_one hy HX.out
  have HB := hid (HAL.out.trans (hb.mono HAL.out.size))
  clear hb hy HX HC HAL
  go_wp2_with fail
  go_ret2
  exact ⟨rfl, HB.out⟩

set_option maxHeartbeats 1000000 in
set_option maxRecDepth 100000 in
theorem print_ok (c : CQ) (g : Int) (b off n cap : Nat) (A : Nat → Option Addr) (C : Nat → Nat) (w : World) (hg : c.log = g) (hn : c.layers.length = n) (hc : c.right) (hr : CRow w (some ⟨b, off, none⟩) c.layers A C) :
    Calls Tryd.prog 8 #[.agg #[.int .i64 g, .slice (some ⟨b, off, none⟩) n cap]] w fun e w' => ∃ t : ByteArray, e = .returned (.tuple #[.string t, .int .i64 0]) ∧ t.data.toList = printQ c ∧ t.size ≤ 4096 ∧ Below w.heap.size w w' := by
  have g0 : 0 ≤ g := by have := hc.log; omega
  have g1 : g < 100 := by have := hc.log; omega
  have n4 : n ≤ 4 := by have := hc.few; omega
  have hal := (Below.refl w.heap.size w).alloc (Nat.le_refl _) (.cells #[.int .i64 g, .slice (some ⟨b, off, none⟩) n cap] 24)
  have HC := hid (check_any c g _ n cap A C _ hg hn (hr.kept hal))
  have HX0 := hid (Box2.new w (.int .i64 g) (.slice (some ⟨b, off, none⟩) n cap) 24)
  have HX := hid (checkE_zero.2 hc)
  have HAL := hid hal
  have HG := hid hg
  have HN := hid hn
  have HRT := hid hc
  have HR := hid hr
  clear hg hn hc hr hal
  go_enter Tryd.func8, Tryd.ntmps8
  go_wp2_with fail
  refine (HC.out).mono ?_
  rintro e w1 ⟨y, rfl, hy, hb⟩
  obtain rfl := checkE_one hy HX.out
  have HB := hid (HAL.out.trans (hb.mono HAL.out.size))
  have HX1 := hid (HX0.out.kept hb)
  obtain ⟨z0, z1, zl⟩ := HX1.out
  obtain ⟨B, hB⟩ : ∃ B, w.heap.size = B := ⟨_, rfl⟩
  rw [hB] at z0 z1 zl HX1 ⊢
  have HBE := hid hB
  clear hb hy HX HC HAL HX0 hB
  go_wp2_with fail
  refine (pline_any ⟨#[105, 110, 112, 117, 116, 115]⟩ w1.heap.size 0 1 1 (fun _ => g) _ (by omega) (by decide) (irow_one w1 g _) (fun _ _ => ⟨g0, g1⟩)).mono ?_
  rintro e w2 ⟨T0, rfl, hT0, hS0, hw⟩
  obtain rfl := hw.symm
  have hal2 := (Below.refl w1.heap.size w1).alloc (Nat.le_refl _) (.cells #[.int .i64 g] 3)
  have HX2 := hid (HX1.out.kept hal2)
  have HB2 := hid (HB.out.trans (hal2.mono HB.out.size))
  have HT0 : Hid (T0.data.toList = txtQ c 0) := hid (by rw [hT0, txtQ_zero, HG.out]; simp [numsT, wInputs])
  clear hT0 hal2 HX1 HB z0 z1 zl
  generalize w1.alloc (.cells #[.int .i64 g] 3) = W0 at HX2 HB2 ⊢
  obtain ⟨z0, z1, zl⟩ := HX2.out
  go_wp2_with fail
  clear z0 z1 zl HX2
  go_loopg [5, 22] n (fun q s i wr => ∃ (k : Nat) (T : ByteArray), k ≤ n ∧ q = n - k ∧ s = .string T ∧ i = .int .i64 (k : Int) ∧ Hid (Below w.heap.size w wr) ∧ Hid (T.data.toList = txtQ c k) ∧ T.size ≤ 100 + 400 * k)
  case atStart => exact ⟨0, T0, by omega, rfl, rfl, rfl, HB2, HT0, by omega⟩
  case round =>
    clear HB2 HT0 hS0
    obtain ⟨k, T, hk, rfl, rfl, rfl, HB, HT, tsz⟩ := hrel
    by_cases hlt : k < n
    · obtain ⟨l, hl⟩ : ∃ l, c.layers[k]? = some l := ⟨c.layers[k]'(by rw [HN.out]; exact hlt), by simp⟩
      obtain ⟨b', off', eb, hcell⟩ := HR.out.kept HB.out (by intro e; have := HN.out; rw [e] at this; simp at this; omega)
      cases eb
      obtain ⟨y0, y1, y2, y3⟩ := hcell k l hl
      have hlr := HRT.out.layer k l hl
      have mr := (lenQ_rng HRT.out (k + 1) (by rw [HN.out]; omega)).2
      rw [← lenQ_layer HRT.out hl] at mr
      have nr := (lenQ_rng HRT.out k (by rw [HN.out]; omega)).2
      rw [Nat.mul_comm 2 k] at y0 y1
      obtain ⟨lg, hlg⟩ : ∃ x, l.log = x := ⟨_, rfl⟩
      obtain ⟨m, hm⟩ : ∃ x, l.gates.length = x := ⟨_, rfl⟩
      obtain ⟨ga, hga⟩ : ∃ x, A k = x := ⟨_, rfl⟩
      obtain ⟨gc, hgc⟩ : ∃ x, C k = x := ⟨_, rfl⟩
      have hlgr := hlr.1
      rw [hlg] at y0 hlgr
      rw [hm, hga, hgc] at y1
      rw [hm] at mr
      obtain ⟨l0, l1⟩ := hlgr
      have HGR : Hid (GRow w ga l.gates) := hid (by obtain ⟨_, _, e, h⟩ := HR.out (by intro e; have := HN.out; rw [e] at this; simp at this; omega); have := (h k l hl).2.2.1; rw [hga] at this; exact this)
      have HOK : Hid (∀ q ∈ l.gates, (0 ≤ q.a ∧ q.a < 100) ∧ 0 ≤ q.b ∧ q.b < 100) := hid fun q hq => by
        obtain ⟨⟨p1, p2⟩, p3, p4⟩ := hlr.2.2 q hq
        have e1 : ((2 ^ (belowQ c k).toNat : Nat) : Int) ≤ 16 := by have := nr; unfold lenQ at this; omega
        omega
      have HL := hid hl
      have HLG := hid hlg
      have HM := hid hm
      clear hcell y2 y3 hl hlg hm hga hgc hlr nr
      have k0 : (0 : Int) ≤ (k : Int) := by omega
      have k1 : (k : Int) < (n : Int) := by omega
      have hal := (Below.refl wr.heap.size wr).alloc (Nat.le_refl _) (.cells #[.int .i64 lg, .slice ga m gc] 43)
      have HB1 := hid (HB.out.trans (hal.mono HB.out.size))
      have HX1 := hid (Box2.new wr (.int .i64 lg) (.slice ga m gc) 43)
      clear hal
      go_wp2_with fail
      obtain ⟨Y, hY⟩ : ∃ Y, wr.heap.size = Y := ⟨_, rfl⟩
      have e9 : (wr.alloc (.cells #[.int .i64 lg, .slice ga m gc] 43)).heap.size = Y + 1 := by rw [← hY]; simp
      rw [hY] at HX1 ⊢
      rw [← e9]
      clear hY e9 y0 y1 HB
      generalize wr.alloc (.cells #[.int .i64 lg, .slice ga m gc] 43) = W1 at HB1 HX1 ⊢
      refine (pline_any ⟨#[108, 97, 121, 101, 114]⟩ W1.heap.size 0 1 1 (fun _ => lg) _ (by omega) (by decide) (irow_one W1 lg _) (fun _ _ => ⟨l0, by omega⟩)).mono ?_
      rintro e w3 ⟨T1, rfl, hT1, hS1, hw⟩
      obtain rfl := hw.symm
      have hal2 := (Below.refl W1.heap.size W1).alloc (Nat.le_refl _) (.cells #[.int .i64 lg] 3)
      have HB2 := hid (HB1.out.trans (hal2.mono HB1.out.size))
      have HX2 := hid (HX1.out.kept hal2)
      clear hal2 HB1 HX1
      generalize W1.alloc (.cells #[.int .i64 lg] 3) = W2 at HB2 HX2 ⊢
      obtain ⟨x0, x1, xl⟩ := HX2.out
      have HT1 : Hid ((T ++ T1).data.toList = txtQ c k ++ txtL l 0) := hid (by rw [data_cat, HT.out, hT1, txtL_zero, HLG.out]; simp [numsT, wLayer])
      have hS2 : (T ++ T1).size ≤ 120 + 400 * k := by rw [ByteArray.size_append]; omega
      clear hT1
      go_wp2_with fail
      clear HT tsz hS1 x0 x1 xl HX2
      generalize T ++ T1 = T2 at HT1 hS2 ⊢
      go_loopg [5, 35] m (fun q s i wx => ∃ (t : Nat) (T : ByteArray), t ≤ m ∧ q = m - t ∧ s = .string T ∧ i = .int .i64 (t : Int) ∧ Hid (Below w.heap.size w wx) ∧ Hid (T.data.toList = txtQ c k ++ txtL l t) ∧ T.size ≤ 120 + 400 * k + 20 * t)
      case atStart => exact ⟨0, T2, by omega, rfl, rfl, rfl, HB2, HT1, by omega⟩
      case round =>
        clear HB2 HT1 hS2
        obtain ⟨t, T, ht, rfl, rfl, rfl, HB, HT, tsz⟩ := hrel
        by_cases htl : t < m
        · obtain ⟨x, hx⟩ : ∃ x, l.gates[t]? = some x := ⟨l.gates[t]'(by rw [HM.out]; exact htl), by simp⟩
          obtain ⟨gb, go, rfl, hgc⟩ := HGR.out.kept HB.out (by intro e; have := HM.out; rw [e] at this; simp at this; omega)
          obtain ⟨q0, q1, q2⟩ := hgc t x hx
          obtain ⟨⟨a0, a1⟩, b0, b1⟩ := HOK.out x (List.mem_of_getElem? hx)
          rw [Nat.mul_comm 3 t] at q0 q1 q2
          obtain ⟨xm, hxm⟩ : ∃ v, x.mul = v := ⟨_, rfl⟩
          obtain ⟨xa, hxa⟩ : ∃ v, x.a = v := ⟨_, rfl⟩
          obtain ⟨xb, hxb⟩ : ∃ v, x.b = v := ⟨_, rfl⟩
          rw [hxm] at q0
          rw [hxa] at q1 a0 a1
          rw [hxb] at q2 b0 b1
          have HXX := hid (And.intro hx (And.intro hxm (And.intro hxa hxb)))
          clear hgc hx hxm hxa hxb
          have t0 : (0 : Int) ≤ (t : Int) := by omega
          have t1 : (t : Int) < (m : Int) := by omega
          have hal := (Below.refl wr.heap.size wr).alloc (Nat.le_refl _) (.cells #[.bool xm, .int .i64 xa, .int .i64 xb] 46)
          have HB3 := hid (HB.out.trans (hal.mono HB.out.size))
          have HPL : Hid (∀ (b : Nat) (W : World), IRowT W b 0 2 (twoF xa xb) → Calls Tryd.prog 18 #[.string (gword xm), .slice (some ⟨b, 0, none⟩) 2 2] W fun e w' => ∃ d : ByteArray, e = .returned (.string d) ∧ (d.data.toList = (gword xm).data.toList ++ numsT (twoF xa xb) 2 ++ [10] ∧ d.size ≤ 17) ∧ w' = W) := hid fun b W hr =>
            (pline_any (gword xm) b 0 2 2 (twoF xa xb) W (by omega) (by rw [gword_size]; omega) hr (fun j hj => by match j, hj with | 0, _ => exact ⟨a0, a1⟩ | 1, _ => exact ⟨b0, b1⟩)).mono fun e w' ⟨d, h1, h2, h3, h4⟩ => ⟨d, h1, ⟨h2, h3⟩, h4⟩
          clear hal
          go_wp2_with fail
          have g0' : (wr.alloc (.cells #[.bool xm, .int .i64 xa, .int .i64 xb] 46)).cell? ⟨wr.heap.size, 0, none⟩ = some (.bool xm) := by rw [World.cell?_alloc_new]; rfl
          have g1' : (wr.alloc (.cells #[.bool xm, .int .i64 xa, .int .i64 xb] 46)).cell? ⟨wr.heap.size, 1, none⟩ = some (.int .i64 xa) := by rw [World.cell?_alloc_new]; rfl
          have g2' : (wr.alloc (.cells #[.bool xm, .int .i64 xa, .int .i64 xb] 46)).cell? ⟨wr.heap.size, 2, none⟩ = some (.int .i64 xb) := by rw [World.cell?_alloc_new]; rfl
          have gl : wr.heap.size < (wr.alloc (.cells #[.bool xm, .int .i64 xa, .int .i64 xb] 46)).heap.size := by simp
          obtain ⟨Gb, hGb⟩ : ∃ G, wr.heap.size = G := ⟨_, rfl⟩
          rw [hGb] at g0' g1' g2' gl ⊢
          clear hGb q0 q1 q2
          generalize wr.alloc (.cells #[.bool xm, .int .i64 xa, .int .i64 xb] 46) = W3 at HB3 g0' g1' g2' gl ⊢
          have hA0 : ∀ o, (W3.alloc o).cell? ⟨Gb, 0, none⟩ = some (.bool xm) := fun o => by rw [World.cell?_alloc_old _ _ _ (Nat.ne_of_lt gl)]; exact g0'
          have hA1 : ∀ o, (W3.alloc o).cell? ⟨Gb, 1, none⟩ = some (.int .i64 xa) := fun o => by rw [World.cell?_alloc_old _ _ _ (Nat.ne_of_lt gl)]; exact g1'
          have hA2 : ∀ o, (W3.alloc o).cell? ⟨Gb, 2, none⟩ = some (.int .i64 xb) := fun o => by rw [World.cell?_alloc_old _ _ _ (Nat.ne_of_lt gl)]; exact g2'
          have HGA : Hid (∀ o, Below W3.heap.size W3 (W3.alloc o)) := hid fun o => (Below.refl _ W3).alloc (Nat.le_refl _) o
          go_region_held3 (fun w' => w'.cell? ⟨Gb, 0, none⟩ = some (.bool xm) ∧ w'.cell? ⟨Gb, 1, none⟩ = some (.int .i64 xa) ∧ w'.cell? ⟨Gb, 2, none⟩ = some (.int .i64 xb)) (first | exact ⟨g0', g1', g2'⟩ | exact ⟨hA0 _, hA1 _, hA2 _⟩ | exact ⟨c0, c1, c2⟩ | exact hC _) (first
            | (go_at_call 19; refine (gword_any xm xa xb _).mono ?_; rintro e w4 ⟨rfl, hb4⟩; have hbW : Below W3.heap.size W3 w4 := (by first | exact (Below.refl _ W3).drew.trans hb4 | exact ((HGA.out _).drew).trans (hb4.mono (HGA.out _).size)); have c0 : w4.cell? ⟨Gb, 0, none⟩ = some (.bool xm) := (hbW.cell gl).trans g0'; have c1 : w4.cell? ⟨Gb, 1, none⟩ = some (.int .i64 xa) := (hbW.cell gl).trans g1'; have c2 : w4.cell? ⟨Gb, 2, none⟩ = some (.int .i64 xb) := (hbW.cell gl).trans g2'; have HB4 := hid (HB3.out.trans (hbW.mono HB3.out.size)); have gl4 : Gb < w4.heap.size := Nat.lt_of_lt_of_le gl hbW.size; have hC : ∀ o, (w4.alloc o).cell? ⟨Gb, 0, none⟩ = some (.bool xm) ∧ (w4.alloc o).cell? ⟨Gb, 1, none⟩ = some (.int .i64 xa) ∧ (w4.alloc o).cell? ⟨Gb, 2, none⟩ = some (.int .i64 xb) := fun o => ⟨(World.cell?_alloc_old _ _ _ (Nat.ne_of_lt gl4)).trans c0, (World.cell?_alloc_old _ _ _ (Nat.ne_of_lt gl4)).trans c1, (World.cell?_alloc_old _ _ _ (Nat.ne_of_lt gl4)).trans c2⟩)
            | (go_at_call 18; refine (HPL.out _ _ (by first | exact irow_two _ _ _ _ | exact (irow_two W3 xa xb 3).kept ⟨hb4.os, hb4.tape, hb4.output, hb4.size, hb4.block⟩ (by simp))).mono ?_; rintro e w5 ⟨d, rfl, hd, hw⟩; obtain rfl := hw.symm; have s4 := fun w => run_string_add_sum (P := Tryd.prog) w T d (by omega)))
          all_goals (go_wp2_with fail)
          all_goals (go_roundg (m - (t + 1)))
          all_goals first | (go_light; omega) | skip
          all_goals
            refine ⟨t + 1, _, by omega, rfl, rfl, by go_num, hid ?_, hid ?_, ?_⟩
            · first | exact HB4.out | exact HB4.out.alloc HB4.out.size _ | exact (HB4.out.alloc HB4.out.size _).drew
            · obtain ⟨e1, e2, e3, e4⟩ := HXX.out
              rw [data_cat, hd.1, gword_data, txtL_next e1, HT.out]
              have h1 : numsT (twoF xa xb) 2 = 32 :: digsQ xa ++ 32 :: digsQ xb := by simp [numsT, twoF]
              rw [h1]
              simp [lineT, e2, e3, e4]
            · rw [ByteArray.size_append]; have := hd.2; omega
        · have e : t = m := by omega
          subst e
          go_wp2_with fail
          go_roundg (n - (k + 1))
          case measure => go_light; omega
          case rel =>
            refine ⟨k + 1, _, by omega, rfl, rfl, by go_num, HB, hid ?_, by omega⟩
            rw [HT.out, ← HM.out, txtQ_next HL.out]
    · have e : k = n := by omega
      subst e
      go_wp2_with fail
      go_ret2
      refine ⟨T, rfl, ?_, by omega, HB.out⟩
      rw [HT.out, ← HN.out, txtQ_all]

end Go.Proofs.YtnnnlalhhhhaeaaDoor
