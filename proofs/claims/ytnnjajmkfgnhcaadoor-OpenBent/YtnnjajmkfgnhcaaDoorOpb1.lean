/-
  A contract of the law OpenBent, for every input: it answers true and writes nothing that was there.
-/
import Derived.Test.YtnnjajmkfgnhcaaDoorOpK
namespace Go.Proofs.YtnnjajmkfgnhcaaDoor
open Go.RowKit
set_option linter.unusedVariables false
attribute [local go_sem ↓] Go.wp_at_zero Go.wp_at_succ

theorem add_none {v y : Int} (v0 : 0 ≤ v) (v1 : v ≤ 2305843009213693950) (h : nrm y = 0) : addQ v y = v := by
  unfold addQ; unfold nrm at h; rw [Q_eq] at h ⊢; omega
theorem sub_back {v y : Int} (v0 : 0 ≤ v) (v1 : v ≤ 2305843009213693950) : subQ (addQ v y) y = v := by
  unfold addQ subQ; rw [Q_eq]; omega
/-- The last root tells of the value. -/
theorem look_last {n : Nat} {root : Int} {F G : Nat → Int} {m : Nat} {pl : Nat → Nat} {v : Int} {o : OQ} (n1 : 1 ≤ n) (h : lookB n root G m pl (oR F G n) v o = true) : prQ v 0 = prQ (fdQ F G n n 0) 0 := by
  have e : oR F G n (n - 1) = prQ (fdQ F G n n 0) 0 := by
    rw [oR, show n - 1 - (n - 1) = 0 from by omega, show n - 1 + 1 = n from by omega]; rfl
  unfold lookB at h
  rw [e, nrm_in (prQ_rng _ _).1 (prQ_rng _ _).2, Bool.and_eq_true] at h
  exact eq_of_beq h.1
/-- Look of the right opening with another value. -/
theorem look_other (n m cp cpl lb rb : Nat) (ap apl : Option Addr) (root v : Int) (f g : Nat → Int) (pl : Nat → Nat) (mm : OM) (w : World) (n1 : 1 ≤ n) (n8 : n ≤ 8) (hm : m ≤ 32) (hpl : ∀ j, j < m → pl j < hfQ n 0) (hroot : root = rootQ n f) (v0 : 0 ≤ v) (v1 : v ≤ 18446744073709551615) (hg : PRow w ap n g) (hgv : Nums g) (hp : IRowP w apl m fun j => (pl j : Int)) (hR : Row w rb 0 n (oR f g n)) (ho : OpRow w (some ⟨lb, 0, none⟩) (rightO f g n m pl) mm) :
    Calls Tryd.prog 30 #[.int .u64 root, .slice ap n cp, .slice apl m cpl, .agg #[.slice (some ⟨rb, 0, none⟩) n n, .int .u64 v, .slice (some ⟨lb, 0, none⟩) m m]] w fun e w' => ∃ r : Bool, e = .returned (.tuple #[.bool r, .int .i64 0]) ∧ (v = fdQ f g n n 0 → r = true) ∧ (r = true → prQ v 0 = prQ (fdQ f g n n 0) 0) ∧ Below w.heap.size w w' := by
  have hr := rootQ_rng n f
  refine (look_any n m cp cpl n n m m ap apl (some ⟨rb, 0, none⟩) (some ⟨lb, 0, none⟩) root v g (fun j => (pl j : Int)) (oR f g n) (rightO f g n m pl) mm w (by unfold maxLen; omega) (by unfold maxLen; omega) rfl (by omega) (by omega) v0 v1 hg hgv hp (PRow.of hR) (fun j => by have := rootQ_rng (n - 1 - j) (fdQ f g n (j + 1)); unfold oR; omega) ho (rightO_nums _ _ _ _ _)).mono ?_
  rintro e w' ⟨r, x, rfl, hout, hb⟩
  have hA : argOk n m (fun j => (pl j : Int)) := ⟨n1, n8, plOk_of hm hpl⟩
  have hF : ofmQ n n m (rightO f g n m pl) := ⟨rfl, rfl, rightO_form _ _ _ _ _⟩
  rcases hout with ⟨h, _⟩ | ⟨_, h, _⟩ | ⟨_, _, hr1, hx⟩
  · exact absurd hA h
  · exact absurd hF h
  · have e : (fun j => ((fun j => ((pl j : Nat) : Int)) j).toNat) = pl := by funext j; simp
    rw [e] at hr1
    refine ⟨r, by rw [hx], fun hv => ?_, fun hr2 => ?_, hb⟩
    · rw [hr1, hroot, hv, right_looks f g n m pl n1]
    · rw [hr2] at hr1
      exact look_last n1 hr1.symm

set_option maxHeartbeats 4000000 in
set_option maxRecDepth 100000 in
theorem obent_any (ao bo : Option Addr) (la ca lb cb : Nat) (k y : Int) (f g : Nat → Int) (w : World) (ht : Tab w) (hp : PRow w ao la f) (hf : Nums f) (hq : PRow w bo lb g) (hg : Nums g) (k0 : -9223372036854775808 ≤ k) (k1 : k ≤ 9223372036854775807) (y0 : 0 ≤ y) (y1 : y ≤ 18446744073709551615) :
    Calls Tryd.prog 7 #[.slice ao la ca, .slice bo lb cb, .int .i64 k, .int .u64 y] w fun e w' => e = .returned (.bool true) ∧ Below w.heap.size w w' := by
  obtain ⟨r, hr⟩ : ∃ r : Nat, k % 3 = (r : Int) := ⟨(k % 3).toNat, by omega⟩
  have r3 : r ≤ 2 := by omega
  obtain ⟨n, hn⟩ : ∃ n, n = 1 + r := ⟨_, rfl⟩
  have n1 : 1 ≤ n := by omega
  have n4 : n ≤ 3 := by omega
  obtain ⟨H, hH⟩ : ∃ H, hfQ n 0 = H := ⟨_, rfl⟩
  have hN : 2 * H = 2 ^ n := by rw [← hH]; exact hfQ_all (by omega)
  have hH1 : 1 ≤ H := by rw [← hH]; exact hfQ_pos n 0
  have hH2 : H ≤ 4 := by rw [← hH]; unfold hfQ; exact Nat.pow_le_pow_right (j := 2) (by omega) (by omega)
  have HOD := hid (opened_any w ht)
  have HR4 := hid (fun W => (by have := rest_any k 3 W k0 k1 (by omega) (by omega); rw [hr] at this; exact this : Calls Tryd.prog 14 #[.int .i64 k, .int .i64 3] W fun e w' => e = .returned (.int .i64 (r : Int)) ∧ w' = W))
  have HTA := hid (fun W (h : PRow W ao la f) => table_any ao la ca (1 + (r : Int)) n (2 * H) f W (by omega) (by omega) (by omega) hN h)
  have HVA := hid (fun b W => rvars_ok (some ⟨b, 0, none⟩) n (2 * H) (2 * H) W (by omega) hN)
  have HPO := hid (fun W (h : PRow W bo lb g) => point_any bo lb cb n g W (by omega) h)
  have hvf := Nums_pad hf la
  have hvg := Nums_pad hg lb
  obtain ⟨F, hF⟩ : ∃ F, padF la f = F := ⟨_, rfl⟩
  obtain ⟨G, hG⟩ : ∃ G, padF lb g = G := ⟨_, rfl⟩
  rw [hF] at hvf HTA
  rw [hG] at hvg HPO
  have HRO := hid (fun b W (h : Row W b 0 (2 * H) F) (hT : Tab W) => troot_any n (2 * H) b 0 (2 * H) F W (by omega) hN hT h hvf)
  have HOP := hid (fun tb qb (apl : Option Addr) (cpl : Nat) W (h : Row W tb 0 (2 * H) F) (hT : Tab W) (hpq : PRow W (some ⟨qb, 0, none⟩) n G) (hii : IRowP W apl H fun j => ((id j : Nat) : Int)) => open_ok n (2 * H) tb 0 (2 * H) n H cpl (some ⟨qb, 0, none⟩) apl F G id W n1 (by omega) hN hT h hvf hpq hvg hii (plOk_of (by omega) (fun j hj => by rw [hH]; exact hj)))
  have HLK := hid (fun v (v0 : 0 ≤ v) (v1 : v ≤ 18446744073709551615) qb (apl : Option Addr) (cpl lb rb : Nat) mm W (hpq : PRow W (some ⟨qb, 0, none⟩) n G) (hii : IRowP W apl H fun j => ((id j : Nat) : Int)) (hR : Row W rb 0 n (oR F G n)) (ho : OpRow W (some ⟨lb, 0, none⟩) (rightO F G n H id) mm) => look_other n H n cpl lb rb (some ⟨qb, 0, none⟩) apl (rootQ n F) v F G id mm W n1 (by omega) (by omega) (fun j hj => by rw [hH]; exact hj) rfl v0 v1 hpq hvg hii hR ho)
  have hrt := rootQ_rng n F
  obtain ⟨root, hroot⟩ : ∃ x, rootQ n F = x := ⟨_, rfl⟩
  rw [hroot] at HRO HLK hrt
  have hvr : 0 ≤ fdQ F G n n 0 ∧ fdQ F G n n 0 ≤ 2305843009213693950 := by obtain ⟨q, rfl⟩ : ∃ q, n = q + 1 := ⟨n - 1, by omega⟩; exact fdQ_rng F G (q + 1) q 0
  obtain ⟨vv, hvv⟩ : ∃ x, fdQ F G n n 0 = x := ⟨_, rfl⟩
  rw [hvv] at HOP HLK hvr
  obtain ⟨vv0, vv1⟩ := hvr
  have HAD := hid (fun W => add_any vv y W vv0 (by omega) y0 y1)
  have HNO := hid (fun W => norm_any y W y0 y1)
  have hzr := addQ_rng vv y
  have HSU := hid (fun W => (by have := sub_any (addQ vv y) y W (by omega) (by omega) y0 y1; rw [sub_back vv0 vv1] at this; exact this : Calls Tryd.prog 31 #[.int .u64 (addQ vv y), .int .u64 y] W fun e w' => e = .returned (.int .u64 vv) ∧ w' = W))
  have HP1 := hid (fun W => pair_any vv 0 W vv0 (by omega) (by omega) (by omega))
  have HP2 := hid (fun W => pair_any (addQ vv y) 0 W (by omega) (by omega) (by omega) (by omega))
  have HZE : Hid (nrm y = 0 → addQ vv y = vv) := hid (add_none vv0 vv1)
  have hny := nrm_rng y
  obtain ⟨zz, hzz⟩ : ∃ x, addQ vv y = x := ⟨_, rfl⟩
  rw [hzz] at HAD HSU HP2 HZE hzr
  obtain ⟨ny, hny'⟩ : ∃ x, nrm y = x := ⟨_, rfl⟩
  rw [hny'] at HNO HZE hny
  have HT := hid ht
  have HP := hid hp
  have HQ := hid hq
  obtain ⟨i0, hi0, hz0, hz1, hz2⟩ := info_parts Tryd.infoJ
  have HIN := hid (And.intro hi0 (And.intro hz0 (And.intro hz1 hz2)))
  clear hN hn hr hH hroot hvv hF hG hp hq hf hg hvf hvg hi0 hz0 hz1 hz2 ht k0 k1 hzz hny'
  go_enter Tryd.func7, Tryd.ntmps7
  go_wp2_with fail
  refine (HOD.out).mono ?_
  rintro e w1 ⟨rfl, hb⟩
  have HB := hid hb
  clear hb HOD
  go_wp2_with fail
  refine (HR4.out _).mono ?_
  rintro e w2 ⟨rfl, hw⟩
  obtain rfl := hw.symm
  go_wp2_with fail
  refine (HTA.out _ (HP.out.kept HB.out)).mono ?_
  rintro e w3 ⟨rfl, hm⟩
  have HM : Hid (Row w3 w1.heap.size 0 (2 * H) F) := hid hm.row
  replace HB := hid (HB.out.trans (hm.below.mono HB.out.size))
  obtain ⟨tb, htb⟩ : ∃ x, w1.heap.size = x := ⟨_, rfl⟩
  rw [htb] at HM ⊢
  clear hm htb
  go_wp2_with fail
  refine (HVA.out _ _).mono ?_
  rintro e w4 ⟨rfl, hw⟩
  obtain rfl := hw.symm
  go_wp2_with fail
  refine (HPO.out _ (HQ.out.kept HB.out)).mono ?_
  rintro e w5 ⟨rfl, hm⟩
  replace HM := hid (HM.out.kept hm.below (HM.out.lt (by omega)))
  have HG : Hid (Row w5 w3.heap.size 0 n G) := hid hm.row
  replace HB := hid (HB.out.trans (hm.below.mono HB.out.size))
  obtain ⟨qb, hqb⟩ : ∃ x, w3.heap.size = x := ⟨_, rfl⟩
  rw [hqb] at HG ⊢
  clear hm hqb
  go_wp2_with fail
  obtain ⟨E, hE⟩ : ∃ E, w5.heap.size = E := ⟨_, rfl⟩
  have HE := hid hE
  clear hE
  go_loopg [12, 35] H (fun q x12 x41 wr => ∃ (t : Nat) (v : Value), t ≤ H ∧ q = H - t ∧ x12 = v ∧ x41 = .int .i64 (t : Int) ∧ Hid (wr.ownsRow E 3 1 v t (plV id t)) ∧ Hid (Below E w5 wr))
  case atStart => exact ⟨0, _, by omega, rfl, rfl, rfl, hid (World.ownsRow_nil w5 E 3 1), hid (Below.refl _ _)⟩
  case round =>
    obtain ⟨t, v, htm, rfl, rfl, rfl, HO, HW⟩ := hrel
    by_cases hlt : t < H
    · have hs := HW.out.size
      rw [HE.out] at hs
      have t0 : (0 : Int) ≤ (t : Int) := by omega
      have t1 : (t : Int) < (H : Int) := by omega
      go_wp2_with ((at_builtin; refine wpList_append_lies _ rfl _ _ 23 rfl E 3 i0 (.int .i64 0) 1 8 Tryd.underlying23 HIN.out.1 HIN.out.2.1 HIN.out.2.2.1 HIN.out.2.2.2 rfl (by decide) _ t (plV id t) rfl (World.ownsRow.alloc HO.out _) ⟨wr.heap.size, 0, none⟩ 1 1 [.int .i64 ((id t : Nat) : Int)] rfl rfl (inews wr _ _) (ione _) (by omega) (by unfold maxLen; omega) (by omega) (by simp; omega) (wr.heap.size + 1) (by simp) ?_))
      intro g6 c6 w6 hown6 hgrow6 hat6 hlt6
      have HN6 := hid (pl_next HW.out (by rw [HE.out]; exact Nat.le_refl _) HO.out rfl hown6 hgrow6)
      clear hown6 hgrow6 hat6 hlt6
      go_wp2_with fail
      go_roundg (H - (t + 1))
      case measure => go_light; omega
      case rel => exact ⟨t + 1, _, by omega, rfl, rfl, by go_num, hid HN6.out.1, hid HN6.out.2⟩
    · have e : H = t := by omega
      subst e
      obtain ⟨al, cl, rfl, hcl, hil⟩ := pl_own HO.out
      replace HB := hid (HB.out.trans (HW.out.mono (by have := HE.out; have := HB.out.size; omega)))
      have HM2 := hid (HM.out.kept HW.out (by rw [← HE.out]; exact HM.out.lt (by omega)))
      have HG2 := hid (HG.out.kept HW.out (by rw [← HE.out]; exact HG.out.lt (by omega)))
      have HI2 := hid hil
      clear HO hil HM HG HW
      go_wp2_with fail
      refine (HRO.out _ _ HM2.out (HT.out.kept HB.out HT.out.1)).mono ?_
      rintro e w6 ⟨rfl, hb⟩
      replace HM2 := hid (HM2.out.kept hb (HM2.out.lt (by omega)))
      replace HG2 := hid (HG2.out.kept hb (HG2.out.lt (by omega)))
      replace HI2 := hid (HI2.out.kept hb)
      replace HB := hid (HB.out.trans (hb.mono HB.out.size))
      clear hb
      go_wp2_with fail
      refine (HOP.out _ _ _ _ _ HM2.out (HT.out.kept HB.out HT.out.1) (PRow.of HG2.out) HI2.out).mono ?_
      rintro e w7 ⟨rb, lb', mm, rfl, hrow, hop, hb⟩
      replace HG2 := hid (HG2.out.kept hb (HG2.out.lt (by omega)))
      replace HI2 := hid (HI2.out.kept hb)
      replace HB := hid (HB.out.trans (hb.mono HB.out.size))
      have HR3 := hid hrow
      have HO3 := hid hop
      clear hb hrow hop HM2
      go_wp2_with fail
      refine (HAD.out _).mono ?_
      rintro e w8 ⟨rfl, hw⟩
      obtain rfl := hw.symm
      go_wp2_with fail
      have b0 := bel_new w7 (.cells #[.slice (some ⟨rb, 0, none⟩) n n, .int .u64 zz, .slice (some ⟨lb', 0, none⟩) H H] 29)
      have HX := hid (Bx3.new w7 (.slice (some ⟨rb, 0, none⟩) n n) (.int .u64 zz) (.slice (some ⟨lb', 0, none⟩) H H) 29)
      refine (HLK.out zz hzr.1 (by omega) _ _ _ _ _ _ _ (PRow.of (HG2.out.kept b0 (HG2.out.lt (by omega)))) (HI2.out.kept b0) (HR3.out.kept b0 (HR3.out.lt (by omega))) (HO3.out.kept b0)).mono ?_
      rintro e w9 ⟨rr, rfl, hr1, hr2, hb9⟩
      have HB9 := hid (HB.out.trans ((b0.trans (hb9.mono b0.size)).mono HB.out.size))
      have HX9 := hid (HX.out.kept hb9)
      obtain ⟨XX, hXX⟩ : ∃ XX, w7.heap.size = XX := ⟨_, rfl⟩
      rw [hXX] at HX9 ⊢
      have HR1 : Hid (ny = 0 → rr = true) := hid (fun h => hr1 (HZE.out h))
      have HR2 : Hid (rr = true → ofK (pairK zz 0) = ofK (pairK vv 0)) := hid hr2
      clear hXX hb9 b0 HX hr1 hr2 HLK HOP HRO
      have x1 := HX9.out.c1
      by_cases hy : ny = 0
      · have e := HR1.out hy
        subst e
        subst hy
        go_wp2_with (go_at_call 16; refine (HNO.out _).mono ?_; rintro e w2 ⟨rfl, hw⟩; obtain rfl := hw.symm)
        go_ret
        exact ⟨by simp, HB9.out⟩
      · have hy2 : (ny == 0) = false := beq_eq_false_iff_ne.2 hy
        obtain ⟨SS, hSS⟩ : ∃ SS : World → Prop, SS = fun W => W.cell? ⟨XX, 1, none⟩ = some (.int .u64 zz) := ⟨_, rfl⟩
        have HSS : Hid (∀ W, W.cell? ⟨XX, 1, none⟩ = some (.int .u64 zz) → SS W) := hid (fun W h => by rw [hSS]; exact h)
        have HSU2 : Hid (∀ W, SS W → W.cell? ⟨XX, 1, none⟩ = some (.int .u64 zz)) := hid (fun W h => by rw [hSS] at h; exact h)
        clear hSS
        have hc0 : ∀ t : QT w9 SS, t.w.cell? ⟨XX, 1, none⟩ = some (.int .u64 zz) := fun t => HSU2.out _ t.s
        have HX1 := hid x1
        have HKS : Hid (∀ (t : QT w9 SS) w', Below t.w.heap.size t.w w' → SS w') := hid (fun t w' hb => HSS.out _ (keepC hb (HSU2.out _ t.s)))
        cases rr
        · go_wp2_with (first | (go_at_call 16; refine (HNO.out _).mono ?_; rintro e w2 ⟨rfl, hw⟩; obtain rfl := hw.symm) | (go_at_call 31; refine (HSU.out _).mono ?_; rintro e w2 ⟨rfl, hw⟩; obtain rfl := hw.symm))
          refine wp_region_grown SS (by kernel_rfl) (by kernel_rfl) (HSS.out _ HX1.out) ?_
          haveI : Nonempty (QT w9 SS) := QT.ne (HSS.out _ HX1.out)
          repeat (first | go_big_quiet_skip | (go_big_quiet_want; go_big_quiet_op; first | go_big_quiet_on | go_big_quiet_call (fail)))
          refine wpQuiet_nil ?_
          intro _ hw'
          obtain ⟨tq, hw''⟩ := hw'
          subst hw''
          have HB10 := hid (HB9.out.trans (tq.b.mono HB9.out.size))
          go_wp2_with fail
          go_ret
          exact ⟨by simp, HB10.out⟩
        · have heq := HR2.out rfl
          rw [heq] at HP2
          go_wp2_with (first | (go_at_call 16; refine (HNO.out _).mono ?_; rintro e w2 ⟨rfl, hw⟩; obtain rfl := hw.symm) | (go_at_call 31; refine (HSU.out _).mono ?_; rintro e w2 ⟨rfl, hw⟩; obtain rfl := hw.symm))
          generalize ofK (pairK vv 0) = pv at HP1 HP2
          refine wp_region_grown SS (by kernel_rfl) (by kernel_rfl) (HSS.out _ HX1.out) ?_
          haveI : Nonempty (QT w9 SS) := QT.ne (HSS.out _ HX1.out)
          repeat (first | go_big_quiet_skip | (go_big_quiet_want; go_big_quiet_op; first | go_big_quiet_on | go_big_quiet_call (first | (go_at_call_of 17 (Value.int .u64 vv); exact Calls.grown_of (HP1.out _) (HKS.out _)) | (go_at_call 17; exact Calls.grown_of (HP2.out _) (HKS.out _)))))
          refine wpQuiet_nil ?_
          intro _ hw'
          obtain ⟨tq, hw''⟩ := hw'
          subst hw''
          have HB10 := hid (HB9.out.trans (tq.b.mono HB9.out.size))
          go_wp2_with fail
          go_ret
          exact ⟨by simp, HB10.out⟩

end Go.Proofs.YtnnjajmkfgnhcaaDoor
