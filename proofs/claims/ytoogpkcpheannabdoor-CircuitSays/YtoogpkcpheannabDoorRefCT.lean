/-
  A contract of tallyref's CircuitText, for right circuits; it makes new blocks and writes nothing that was there.
-/
import Derived.Test.YtoogpkcpheannabDoorCircT
import Derived.Test.YtoogpkcpheannabDoorCircL
namespace Go.Proofs.YtoogpkcpheannabDoor
open Go.RowKit
set_option linter.unusedVariables false
attribute [local go_sem ↓] Go.wp_at_zero Go.wp_at_succ

set_option maxHeartbeats 1000000 in
set_option maxRecDepth 100000 in
theorem rtext_any (c : CQ) (g : Int) (b off n cap : Nat) (A : Nat → Option Addr) (C : Nat → Nat) (w : World) (hg : c.log = g) (hn : c.layers.length = n) (hc : c.right) (hr : CRow w (some ⟨b, off, none⟩) c.layers A C) :
    Calls Tryd.prog 16 #[.agg #[.int .i64 g, .slice (some ⟨b, off, none⟩) n cap]] w fun e w' => ∃ t : ByteArray, e = .returned (.string t) ∧ t.data.toList = printQ c ∧ Below w.heap.size w w' := by
  have g0 : 0 ≤ g := by have := hc.log; omega
  have g1 : g < 100 := by have := hc.log; omega
  have n4 : n ≤ 4 := by have := hc.few; omega
  have gs := digB_size g0 g1
  have HG := hid hg
  have HN := hid hn
  have HRT := hid hc
  have HR := hid hr
  clear hg hn hc hr
  go_enter Tryd.func16, Tryd.ntmps16
  go_wp2_with (go_at_call 32; refine (itoa_at _ _ (by omega) (by omega)).mono ?_; rintro e w' ⟨rfl, hw⟩; obtain rfl := hw.symm)
  have HW0 := hid ((Below.refl w.heap.size w).alloc (Nat.le_refl _) (.cells #[.int .i64 g, .slice (some ⟨b, off, none⟩) n cap] 39))
  have HX0 := hid (Box2.new w (.int .i64 g) (.slice (some ⟨b, off, none⟩) n cap) 39)
  obtain ⟨B, hB⟩ : ∃ B, w.heap.size = B := ⟨_, rfl⟩
  rw [hB] at HX0 HW0 ⊢
  have HBE := hid hB
  clear hB
  generalize w.alloc (.cells #[.int .i64 g, .slice (some ⟨b, off, none⟩) n cap] 39) = W0 at HX0 HW0 ⊢
  have hT0 : (⟨#[105, 110, 112, 117, 116, 115, 32]⟩ ++ digB g ++ ⟨#[10]⟩ : ByteArray).data.toList = txtQ c 0 := by rw [data_cat, data_cat, digB_data, txtQ_zero, HG.out]; rfl
  have hS0 : (⟨#[105, 110, 112, 117, 116, 115, 32]⟩ ++ digB g ++ ⟨#[10]⟩ : ByteArray).size ≤ 100 := by
    simp only [ByteArray.size_append]
    have e1 : (ByteArray.mk #[105, 110, 112, 117, 116, 115, 32]).size = 7 := rfl
    have e2 : (ByteArray.mk #[10]).size = 1 := rfl
    omega
  have HT0 := hid hT0
  clear hT0
  generalize (⟨#[105, 110, 112, 117, 116, 115, 32]⟩ ++ digB g ++ ⟨#[10]⟩ : ByteArray) = T0 at HT0 hS0 ⊢
  go_loopg [4, 5] n (fun q s i wr => ∃ (k : Nat) (T : ByteArray), k ≤ n ∧ q = n - k ∧ s = .string T ∧ i = .int .i64 (k : Int) ∧ Hid (Below B w wr) ∧ Hid (Box2 wr B (.int .i64 g) (.slice (some ⟨b, off, none⟩) n cap)) ∧ Hid (T.data.toList = txtQ c k) ∧ T.size ≤ 100 + 1000 * k)
  case atStart => exact ⟨0, T0, by omega, rfl, rfl, rfl, HW0, HX0, HT0, by omega⟩
  case round =>
    clear HW0 HX0 HT0 hS0
    obtain ⟨k, T, hk, rfl, rfl, rfl, HB, HX, HT, tsz⟩ := hrel
    have HBw : Hid (Below w.heap.size w wr) := hid (by rw [HBE.out]; exact HB.out)
    obtain ⟨x0, x1, xl⟩ := HX.out
    by_cases hlt : k < n
    · obtain ⟨l, hl⟩ : ∃ l, c.layers[k]? = some l := ⟨c.layers[k]'(by rw [HN.out]; exact hlt), by simp⟩
      obtain ⟨b', off', eb, hcell⟩ := HR.out.kept HBw.out (by intro e; have := HN.out; rw [e] at this; simp at this; omega)
      cases eb
      obtain ⟨y0, y1, y2, y3⟩ := hcell k l hl
      have hlr := HRT.out.layer k l hl
      have mr := (lenQ_rng HRT.out (k + 1) (by rw [HN.out]; omega)).2
      rw [← lenQ_layer HRT.out hl] at mr
      have nr := (lenQ_rng HRT.out k (by rw [HN.out]; omega)).2
      rw [Nat.mul_comm 2 k] at y0 y1
      obtain ⟨lg, hlg⟩ : ∃ x, l.log = x := ⟨_, rfl⟩
      obtain ⟨m, hm⟩ : ∃ x, l.gates.length = x := ⟨_, rfl⟩
      obtain ⟨ga, hga⟩ : ∃ x, A k = x := ⟨_, rfl⟩
      obtain ⟨gc, hgc⟩ : ∃ x, C k = x := ⟨_, rfl⟩
      have hlgr := hlr.1
      rw [hlg] at y0 hlgr
      rw [hm, hga, hgc] at y1
      rw [hm] at mr
      obtain ⟨l0, l1⟩ := hlgr
      have ls := digB_size l0 (by omega)
      have HGR : Hid (GRow w ga l.gates) := hid (by obtain ⟨_, _, e, h⟩ := HR.out (by intro e; have := HN.out; rw [e] at this; simp at this; omega); have := (h k l hl).2.2.1; rw [hga] at this; exact this)
      have yb : b < w.heap.size := by obtain ⟨_, _, e, h⟩ := HR.out (by intro e; have := HN.out; rw [e] at this; simp at this; omega); cases e; exact World.block_lt_of_cell? w _ (h k l hl).1
      have HY1 := hid (And.intro y1 yb)
      have HOK : Hid (∀ q ∈ l.gates, (0 ≤ q.a ∧ q.a < 100) ∧ 0 ≤ q.b ∧ q.b < 100) := hid fun q hq => by
        obtain ⟨⟨p1, p2⟩, p3, p4⟩ := hlr.2.2 q hq
        have e1 : ((2 ^ (belowQ c k).toNat : Nat) : Int) ≤ 16 := by have := nr; unfold lenQ at this; omega
        omega
      have HL := hid hl
      have HLG := hid hlg
      have HM := hid hm
      clear hcell y2 y3 hl hlg hm hga hgc hlr nr yb
      have k0 : (0 : Int) ≤ (k : Int) := by omega
      have k1 : (k : Int) < (n : Int) := by omega
      go_wp2_with (go_at_call 32; refine (itoa_at _ _ (by omega) (by omega)).mono ?_; rintro e w' ⟨rfl, hw⟩; obtain rfl := hw.symm)
      have hT1 : (T ++ (⟨#[108, 97, 121, 101, 114, 32]⟩ ++ digB lg ++ ⟨#[10]⟩) : ByteArray).data.toList = txtQ c k ++ txtL l 0 := by rw [data_cat, data_cat, data_cat, digB_data, txtL_zero, HT.out, HLG.out]; rfl
      have hS1 : (T ++ (⟨#[108, 97, 121, 101, 114, 32]⟩ ++ digB lg ++ ⟨#[10]⟩) : ByteArray).size ≤ 120 + 1000 * k := by
        simp only [ByteArray.size_append]
        have e1 : (ByteArray.mk #[108, 97, 121, 101, 114, 32]).size = 6 := rfl
        have e2 : (ByteArray.mk #[10]).size = 1 := rfl
        omega
      have HT1 := hid hT1
      clear hT1 HT tsz
      generalize (T ++ (⟨#[108, 97, 121, 101, 114, 32]⟩ ++ digB lg ++ ⟨#[10]⟩) : ByteArray) = T1 at HT1 hS1 ⊢
      obtain ⟨wo, hwo⟩ : ∃ x, x = wr := ⟨wr, rfl⟩
      rw [← hwo] at HB HBw HX x0 x1 xl y0 y1 HY1 ⊢
      clear hwo x0 x1 xl y0 y1
      go_loopg [4, 6] m (fun q s i wx => ∃ (t : Nat) (T : ByteArray), t ≤ m ∧ q = m - t ∧ s = .string T ∧ i = .int .i64 (t : Int) ∧ Hid (Below wo.heap.size wo wx) ∧ Hid (T.data.toList = txtQ c k ++ txtL l t) ∧ T.size ≤ 120 + 1000 * k + 20 * t)
      case atStart => exact ⟨0, T1, by omega, rfl, rfl, rfl, hid (Below.refl _ _), HT1, by omega⟩
      case round =>
        clear HT1 hS1
        obtain ⟨t, T, ht, rfl, rfl, rfl, HB2, HT, tsz⟩ := hrel
        have HBw2 := hid (HBw.out.trans (HB2.out.mono HBw.out.size))
        obtain ⟨x0, x1, xl⟩ := HX.out.kept HB2.out
        have y1 : wr.cell? ⟨b, off + k * 2 + 1, none⟩ = some (.slice ga m gc) := (HB2.out.cell (Nat.lt_of_lt_of_le HY1.out.2 HBw.out.size)).trans HY1.out.1
        by_cases htl : t < m
        · obtain ⟨x, hx⟩ : ∃ x, l.gates[t]? = some x := ⟨l.gates[t]'(by rw [HM.out]; exact htl), by simp⟩
          obtain ⟨gb, go, rfl, hgc⟩ := HGR.out.kept HBw2.out (by intro e; have := HM.out; rw [e] at this; simp at this; omega)
          obtain ⟨q0, q1, q2⟩ := hgc t x hx
          obtain ⟨⟨a0, a1⟩, b0, b1⟩ := HOK.out x (List.mem_of_getElem? hx)
          rw [Nat.mul_comm 3 t] at q0 q1 q2
          obtain ⟨xm, hxm⟩ : ∃ v, x.mul = v := ⟨_, rfl⟩
          obtain ⟨xa, hxa⟩ : ∃ v, x.a = v := ⟨_, rfl⟩
          obtain ⟨xb, hxb⟩ : ∃ v, x.b = v := ⟨_, rfl⟩
          rw [hxm] at q0
          rw [hxa] at q1 a0 a1
          rw [hxb] at q2 b0 b1
          have HXX := hid (And.intro hx (And.intro hxm (And.intro hxa hxb)))
          have asz := digB_size a0 a1
          have bsz := digB_size b0 b1
          clear hgc hx hxm hxa hxb
          have t0 : (0 : Int) ≤ (t : Int) := by omega
          have t1 : (t : Int) < (m : Int) := by omega
          rcases (by cases xm; exact .inr rfl; exact .inl rfl : xm = true ∨ xm = false) with hxm | hxm
          · subst hxm
            have hal := (Below.refl wr.heap.size wr).alloc (Nat.le_refl _) (.cells #[.bool true, .int .i64 xa, .int .i64 xb] 66)
            have HB3 := hid (HB2.out.trans (hal.mono HB2.out.size))
            clear hal
            go_wp2_with fail
            have s1 := fun w => run_string_add_sum (P := Tryd.prog) w (digB xa) ⟨#[32]⟩ (by have e3 : (ByteArray.mk #[32]).size = 1 := rfl; omega)
            have s2 := fun w => run_string_add_sum (P := Tryd.prog) w (digB xa ++ ⟨#[32]⟩) (digB xb) (by rw [ByteArray.size_append]; have e3 : (ByteArray.mk #[32]).size = 1 := rfl; omega)
            have s3 := fun w => run_string_add_sum (P := Tryd.prog) w (digB xa ++ ⟨#[32]⟩ ++ digB xb) ⟨#[10]⟩ (by simp only [ByteArray.size_append]; have e3 : (ByteArray.mk #[32]).size = 1 := rfl; have e2 : (ByteArray.mk #[10]).size = 1 := rfl; omega)
            have s4 := fun w => run_string_add_sum (P := Tryd.prog) w (T ++ ⟨#[109, 117, 108, 32]⟩) (digB xa ++ ⟨#[32]⟩ ++ digB xb ++ ⟨#[10]⟩) (by simp only [ByteArray.size_append]; have e1 : (ByteArray.mk #[109, 117, 108, 32]).size = 4 := rfl; have e3 : (ByteArray.mk #[32]).size = 1 := rfl; have e2 : (ByteArray.mk #[10]).size = 1 := rfl; omega)
            go_quiet (first | (go_at_call 32; exact Calls.quiet_of_same (itoa_at _ _ (by omega) (by omega))))
            go_wp2_with fail
            go_roundg (m - (t + 1))
            case measure => go_light; omega
            case rel =>
              refine ⟨t + 1, _, by omega, rfl, rfl, by go_num, hid ⟨HB3.out.os, HB3.out.tape, HB3.out.output, HB3.out.size, HB3.out.block⟩, hid ?_, ?_⟩
              · obtain ⟨e1, e2, e3, e4⟩ := HXX.out
                rw [txtL_next e1, ← List.append_assoc, ← HT.out]
                simp only [data_cat, digB_data, lineT, e2, e3, e4, if_true, wMul]
                simp
              · simp only [ByteArray.size_append]
                have e1 : (ByteArray.mk #[109, 117, 108, 32]).size = 4 := rfl
                have e2 : (ByteArray.mk #[10]).size = 1 := rfl
                have e3 : (ByteArray.mk #[32]).size = 1 := rfl
                omega
          · subst hxm
            have hal := (Below.refl wr.heap.size wr).alloc (Nat.le_refl _) (.cells #[.bool false, .int .i64 xa, .int .i64 xb] 66)
            have HB3 := hid (HB2.out.trans (hal.mono HB2.out.size))
            clear hal
            go_wp2_with fail
            have s1 := fun w => run_string_add_sum (P := Tryd.prog) w (digB xa) ⟨#[32]⟩ (by have e3 : (ByteArray.mk #[32]).size = 1 := rfl; omega)
            have s2 := fun w => run_string_add_sum (P := Tryd.prog) w (digB xa ++ ⟨#[32]⟩) (digB xb) (by rw [ByteArray.size_append]; have e3 : (ByteArray.mk #[32]).size = 1 := rfl; omega)
            have s3 := fun w => run_string_add_sum (P := Tryd.prog) w (digB xa ++ ⟨#[32]⟩ ++ digB xb) ⟨#[10]⟩ (by simp only [ByteArray.size_append]; have e3 : (ByteArray.mk #[32]).size = 1 := rfl; have e2 : (ByteArray.mk #[10]).size = 1 := rfl; omega)
            have s4 := fun w => run_string_add_sum (P := Tryd.prog) w (T ++ ⟨#[97, 100, 100, 32]⟩) (digB xa ++ ⟨#[32]⟩ ++ digB xb ++ ⟨#[10]⟩) (by simp only [ByteArray.size_append]; have e1 : (ByteArray.mk #[97, 100, 100, 32]).size = 4 := rfl; have e3 : (ByteArray.mk #[32]).size = 1 := rfl; have e2 : (ByteArray.mk #[10]).size = 1 := rfl; omega)
            go_quiet (first | (go_at_call 32; exact Calls.quiet_of_same (itoa_at _ _ (by omega) (by omega))))
            go_wp2_with fail
            go_roundg (m - (t + 1))
            case measure => go_light; omega
            case rel =>
              refine ⟨t + 1, _, by omega, rfl, rfl, by go_num, hid ⟨HB3.out.os, HB3.out.tape, HB3.out.output, HB3.out.size, HB3.out.block⟩, hid ?_, ?_⟩
              · obtain ⟨e1, e2, e3, e4⟩ := HXX.out
                rw [txtL_next e1, ← List.append_assoc, ← HT.out]
                simp only [data_cat, digB_data, lineT, e2, e3, e4, Bool.false_eq_true, if_false, wAdd]
                simp
              · simp only [ByteArray.size_append]
                have e1 : (ByteArray.mk #[97, 100, 100, 32]).size = 4 := rfl
                have e2 : (ByteArray.mk #[10]).size = 1 := rfl
                have e3 : (ByteArray.mk #[32]).size = 1 := rfl
                omega
        · have e : t = m := by omega
          subst e
          go_wp2_with fail
          go_roundg (n - (k + 1))
          case measure => go_light; omega
          case rel =>
            refine ⟨k + 1, _, by omega, rfl, rfl, by go_num, hid (by rw [← HBE.out]; exact HBw2.out), hid ⟨x0, x1, xl⟩, hid ?_, by omega⟩
            rw [HT.out, ← HM.out, txtQ_next HL.out]
    · have e : k = n := by omega
      subst e
      go_wp2_with fail
      go_ret
      refine ⟨T, rfl, ?_, HBw.out⟩
      rw [HT.out, ← HN.out, txtQ_all]

end Go.Proofs.YtoogpkcpheannabDoor
