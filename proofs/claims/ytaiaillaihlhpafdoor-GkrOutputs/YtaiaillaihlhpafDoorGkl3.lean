/-
  A contract of the law GkrOutputs, for every circuit and all lists: it answers true.
-/
import Derived.Test.YtaiaillaihlhpafDoorGkl2
import Derived.Test.YtaiaillaihlhpafDoorRefVars
namespace Go.Proofs.YtaiaillaihlhpafDoor
open Go.RowKit
set_option linter.unusedVariables false
attribute [local go_sem ↓] Go.wp_at_zero Go.wp_at_succ

set_option maxHeartbeats 8000000 in
set_option maxRecDepth 100000 in
theorem gouts_any (c : CQ) (g : Int) (ao : Option Addr) (n cap : Nat) (A : Nat → Option Addr) (C : Nat → Nat) (ai ay ad : Option Addr) (ni ci ny cy nd cd : Nat) (fi fy fd : Nat → Int) (w : World) (ht : Tab w) (hn63 : n ≤ maxLen) (hg : c.log = g) (hn : c.layers.length = n) (hr : CRow w ao c.layers A C) (hi : PRow w ai ni fi) (vi : Nums fi) (hy : PRow w ay ny fy) (vy : Nums fy) (hd : PRow w ad nd fd) (vd : Nums fd) :
    Calls Tryd.prog 5 #[.agg #[.int .i64 g, .slice ao n cap], .slice ai ni ci, .slice ay ny cy, .slice ad nd cd] w fun e w' => e = .returned (.bool true) ∧ Below w.heap.size w w' := by
  have HS0 := hid (StW.start w g (.slice ao n cap) 24)
  have HHE := hid (fun W (h : Below w.heap.size w W) => held_any W (ht.kept h ht.1))
  have HSM := hid (fun W (h : Below w.heap.size w W) => small_any c g ao n cap A C W hn63 hg hn (hr.kept h))
  have HR := hid hr
  have HG := hid hg
  have HN := hid hn
  have HT := hid ht
  have HI := hid (And.intro hi vi)
  have HY := hid (And.intro hy vy)
  have HD := hid (And.intro hd vd)
  clear hr hg hn ht hi vi hy vy hd vd hn63
  go_enter Tryd.func5, Tryd.ntmps5
  go_wp2_with fail
  obtain ⟨X, hX⟩ : ∃ X, w.heap.size = X := ⟨_, rfl⟩
  rw [hX] at HS0
  rw [hX]
  clear hX
  generalize w.alloc (.cells #[.int .i64 g, .slice ao n cap] 24) = W0 at HS0 ⊢
  refine (HHE.out _ HS0.out.bel).mono ?_
  rintro e w1 ⟨rfl, hb⟩
  have HS1 := hid (HS0.out.next hb)
  clear hb HS0 HHE
  obtain ⟨z0, z1, zl⟩ := HS1.out.box
  go_wp2_with fail
  refine (HSM.out _ HS1.out.bel).mono ?_
  rintro e w2 ⟨r, rfl, hrt, hb⟩
  have HS2 := hid (HS1.out.next hb)
  clear hb HS1 z0 z1 zl HSM
  cases r with
  | false =>
    clear hrt
    go_wp2_with fail
    go_ret
    exact ⟨rfl, HS2.out.bel⟩
  | true =>
    have HC := hid (hrt rfl)
    clear hrt
    obtain ⟨b, off, rfl⟩ := right_addr HC.out HR.out
    obtain ⟨gn, N, rfl, gn4, sh, hN, N1, N16, hNk⟩ := right_nums HG.out HN.out HC.out
    have HNN := hid (And.intro hN hNk)
    have n4 : n ≤ 4 := by have := HC.out.few; have := HN.out; omega
    obtain ⟨q, hq⟩ : ∃ q, needQ c = q := ⟨_, rfl⟩
    have q40 : q ≤ 40 := by rw [← hq]; exact needQ_le HC.out
    have HQ := hid hq
    have HSH := hid sh
    clear hN hNk hq
    obtain ⟨z0, z1, zl⟩ := HS2.out.box
    have gn0 : (0 : Int) ≤ (gn : Int) := by omega
    go_wp2_with fail
    rw [HSH.out]
    refine (point_any ai ni ci N fi w2 (by omega) (HI.out.1.kept HS2.out.bel)).mono ?_
    rintro e w3 ⟨rfl, hm⟩
    have HS3 := hid (HS2.out.next hm.below)
    have HXR : Hid (Row w3 w2.heap.size 0 N (padF ni fi)) := hid hm.row
    obtain ⟨BX, hBX⟩ : ∃ x, w2.heap.size = x := ⟨_, rfl⟩
    rw [hBX] at HXR
    rw [hBX]
    clear hm hBX HS2 z0 z1 zl
    obtain ⟨z0, z1, zl⟩ := HS3.out.box
    go_wp2_with fail
    refine (draws_ok c gn b off n cap A C w3 HG.out HN.out (HR.out.kept HS3.out.bel) HC.out).mono ?_
    rintro e w4 ⟨rfl, hb⟩
    rw [HQ.out]
    have HS4 := hid (HS3.out.next hb)
    have HX4 := hid (HXR.out.kept hb (HXR.out.lt N1))
    clear hb HS3 HXR z0 z1 zl
    go_wp2_with fail
    refine (point_any ad nd cd q fd w4 (by omega) (HD.out.1.kept HS4.out.bel)).mono ?_
    rintro e w5 ⟨rfl, hm⟩
    have HS5 := hid (HS4.out.next hm.below)
    have HX5 := hid (HX4.out.kept hm.below (HX4.out.lt N1))
    have HD5 : Hid (Row w5 w4.heap.size 0 q (padF nd fd)) := hid hm.row
    obtain ⟨BD, hBD⟩ : ∃ x, w4.heap.size = x := ⟨_, rfl⟩
    rw [hBD] at HD5
    rw [hBD]
    clear hm hBD HS4 HX4
    have q1 : 0 < q := by
      have h := at_fits (c := c) (j := 0) (List.length_pos_iff.2 HC.out.some)
      rw [HQ.out] at h
      omega
    obtain ⟨z0, z1, zl⟩ := HS5.out.box
    go_wp2_with fail
    refine (run_ok c gn b off n cap A C BX 0 N N (padF ni fi) w5 HG.out HN.out (HR.out.kept HS5.out.bel) HC.out HSH.out HNN.out.1 N16 N1 HX5.out (Nums_pad HI.out.2 _)).mono ?_
    rintro e w6 ⟨V, Dv, rfl, hO⟩
    have HS6 := hid (HS5.out.next hO.below)
    have HX6 := hid (HX5.out.kept hO.below (HX5.out.lt N1))
    have HD6 := hid (HD5.out.kept hO.below (HD5.out.lt q1))
    have HO6 := hid hO
    clear hO HS5 HX5 HD5 z0 z1 zl
    have cv := HO6.out.cell n (by omega)
    have rv := HO6.out.row n (by omega)
    obtain ⟨M, hM⟩ : ∃ x, lenQ c n = x := ⟨_, rfl⟩
    obtain ⟨dk, hdk⟩ : ∃ x, Dv n = x := ⟨_, rfl⟩
    rw [hM, hdk] at cv rv
    have Mr := lenQ_rng HC.out n (by rw [HN.out]; omega)
    rw [hM] at Mr
    obtain ⟨M1, M16⟩ := Mr
    have HL6 := hid rv
    have HML : Hid (M = 2 ^ (partsQ c).lg 0) := hid (by rw [← hM]; exact top_len HN.out)
    have HEN : Hid (endsQ c N M) := hid ⟨by rw [HN.out]; exact HNN.out.2, HML.out⟩
    have n0 : (0 : Int) ≤ (n : Int) := by omega
    have n1 : (n : Int) < (n : Int) + 1 := by omega
    have n2 : IntKind.i64.wrap ((n : Int) + 1 - 1) = (n : Int) := by rw [show (n : Int) + 1 - 1 = (n : Int) from by omega]; exact IntWalk.i64_in _ (by omega)
    have n3 : IntKind.i64.wrap (n : Int) = (n : Int) := IntWalk.i64_in _ (by omega)
    have n5 : n < n + 1 := by omega
    clear hM hdk rv HO6
    go_wp2_with fail
    clear cv
    refine (point_any ay ny cy M fy w6 (by omega) (HY.out.1.kept HS6.out.bel)).mono ?_
    rintro e w7 ⟨rfl, hm⟩
    have HS7 := hid (HS6.out.next hm.below)
    have HX7 := hid (HX6.out.kept hm.below (HX6.out.lt N1))
    have HD7 := hid (HD6.out.kept hm.below (HD6.out.lt q1))
    have HL7 := hid (HL6.out.kept hm.below (HL6.out.lt M1))
    have HY7 : Hid (Row w7 w6.heap.size 0 M (padF ny fy)) := hid hm.row
    obtain ⟨BY, hBY⟩ : ∃ x, w6.heap.size = x := ⟨_, rfl⟩
    rw [hBY] at HY7
    rw [hBY]
    clear hm hBY HS6 HX6 HD6 HL6
    obtain ⟨z0, z1, zl⟩ := HS7.out.box
    go_wp2_with fail
    refine (pv_ok c gn b off n cap A C BX 0 N N (padF ni fi) BD 0 q q (padF nd fd) w7 HG.out HN.out (HR.out.kept HS7.out.bel) HC.out HSH.out HNN.out.1 HX7.out (Nums_pad HI.out.2 _) HD7.out (Nums_pad HD.out.2 _) HQ.out.symm (Nat.le_refl _) (Nat.le_trans q40 (by decide)) (HT.out.kept HS7.out.bel HT.out.1)).mono ?_
    rintro e w8 ⟨PB, m, rfl, hpf, hlow, hb⟩
    have hal := bel_alloc (.cells #[.slice (some ⟨PB, 0, none⟩) n n] 51) hb
    have hal8 := bel_alloc (.cells #[.slice (some ⟨PB, 0, none⟩) n n] 51) (Below.refl _ w8)
    have HS8 := hid (HS7.out.next hal)
    have HX8 := hid (HX7.out.kept hal (HX7.out.lt N1))
    have HD8 := hid (HD7.out.kept hal (HD7.out.lt q1))
    have HL8 := hid (HL7.out.kept hal (HL7.out.lt M1))
    have HY8 := hid (HY7.out.kept hal (HY7.out.lt M1))
    have HP8 := hid (hpf.kept hal8)
    have HQ8 : Hid ((w8.alloc (.cells #[.slice (some ⟨PB, 0, none⟩) n n] 51)).cell? ⟨w8.heap.size, 0, none⟩ = some (.slice (some ⟨PB, 0, none⟩) n n)) := hid (by rw [World.cell?_alloc_new]; rfl)
    obtain ⟨y0, y1, yl⟩ := HS8.out.box
    have yq := HQ8.out
    clear hal hal8 hpf hlow hb HS7 HX7 HD7 HL7 HY7 z0 z1 zl
    go_wp2_with fail
    clear y0 y1 yl yq HQ8
    generalize w8.alloc (.cells #[.slice (some ⟨PB, 0, none⟩) n n] 51) = W8 at HS8 HX8 HD8 HL8 HY8 HP8 ⊢
    refine (vf_ok c (gn : Int) b off n cap A C BX 0 N N BY 0 M M (padF ni fi) (padF ny fy) (some ⟨PB, 0, none⟩) n n (rightP c (padF ni fi) (padF nd fd)) m BD 0 q q (padF nd fd) W8 HG.out HN.out (HR.out.kept HS8.out.bel) HC.out HN.out HP8.out (rightP_nums _ _ _) (rightP_shaped _ _ _) HEN.out HX8.out (Nums_pad HI.out.2 _) HY8.out (Nums_pad HY.out.2 _) HD8.out (Nums_pad HD.out.2 _) HQ.out.symm (Nat.le_refl _) (Nat.le_trans q40 (by decide)) (HT.out.kept HS8.out.bel HT.out.1)).mono ?_
    rintro e w9 ⟨r, rfl, hrr, hb⟩
    rw [right_iff HC.out] at hrr
    have HRR := hid hrr
    have HS9 := hid (HS8.out.next hb)
    have HD9 := hid (HD8.out.kept hb (HD8.out.lt q1))
    have HL9 := hid (HL8.out.kept hb (HL8.out.lt M1))
    have HY9 := hid (HY8.out.kept hb (HY8.out.lt M1))
    clear hrr hb HS8 HX8 HD8 HL8 HY8 HP8 HEN
    rw [HN.out] at HRR
    obtain ⟨k, hk⟩ : ∃ k, (partsQ c).lg 0 = k := ⟨_, rfl⟩
    have k4 : k ≤ 4 := by rw [← hk]; exact parts_lg HC.out 0
    have kq : k ≤ q := by
      have h := at_mono (partsQ c) (Nat.zero_le c.layers.length)
      have h2 : needQ c = q := HQ.out
      have h3 : (partsQ c).at 0 = k := hk
      have h4 : (partsQ c).at c.layers.length = q := h2
      omega
    rw [hk] at HRR HML
    clear hk
    obtain ⟨u, hu⟩ : ∃ u, ofK (evS (fun j => kk (valsQ c (padF ni fi) n j)) (fun j => kk (padF nd fd j)) k) = u := ⟨_, rfl⟩
    obtain ⟨v, hv⟩ : ∃ v, ofK (evS (fun j => kk (padF ny fy j)) (fun j => kk (padF nd fd j)) k) = v := ⟨_, rfl⟩
    have HUV : Hid ((r == (u == v)) = true) := hid (by
      have h : r = true ↔ u = v := by
        rw [HRR.out, ← hu, ← hv]
        constructor
        · intro h; rw [h]
        · intro h
          have := congrArg kk h
          rw [kk_ofK, kk_ofK] at this
          exact this.symm
      by_cases e : u = v
      · rw [h.2 e, beq_iff_eq.2 e]; rfl
      · have e2 : r = false := by
          cases r with
          | false => rfl
          | true => exact absurd (h.1 rfl) e
        rw [e2, beq_eq_false_iff_ne.2 e]; rfl)
    have HEU : Hid (∀ W, Below w9.heap.size w9 W → Calls Tryd.prog 15 #[.slice (some ⟨dk, 0, none⟩) M M, .slice (some ⟨BD, 0, none⟩) k q] W fun e w' => e = .returned (.tuple #[.int .u64 u, .int .i64 0]) ∧ Below W.heap.size W w') := hid (fun W h => by
      rw [← hu]
      exact eval_ok dk 0 k M M q (some ⟨BD, 0, none⟩) (valsQ c (padF ni fi) n) (padF nd fd) W (by omega) HML.out (HT.out.kept (bel_trans h HS9.out.bel) HT.out.1) (HL9.out.kept h (HL9.out.lt M1)) (Nums_vals c _ n) (PRow.of (fun j hj => (HD9.out.kept h (HD9.out.lt q1)) j (by omega))) (Nums_pad HD.out.2 _))
    have HEV : Hid (∀ W, Below w9.heap.size w9 W → Calls Tryd.prog 15 #[.slice (some ⟨BY, 0, none⟩) M M, .slice (some ⟨BD, 0, none⟩) k q] W fun e w' => e = .returned (.tuple #[.int .u64 v, .int .i64 0]) ∧ Below W.heap.size W w') := hid (fun W h => by
      rw [← hv]
      exact eval_ok BY 0 k M M q (some ⟨BD, 0, none⟩) (padF ny fy) (padF nd fd) W (by omega) HML.out (HT.out.kept (bel_trans h HS9.out.bel) HT.out.1) (HY9.out.kept h (HY9.out.lt M1)) (Nums_pad HY.out.2 _) (PRow.of (fun j hj => (HD9.out.kept h (HD9.out.lt q1)) j (by omega))) (Nums_pad HD.out.2 _))
    clear hu hv HRR
    have HB9 := hid HS9.out.bel
    have huv := HUV.out
    have k0 : (0 : Int) ≤ (k : Int) := by omega
    have k1 : (k : Int) ≤ (q : Int) := by omega
    clear HS9 HL9 HY9 HD9
    go_wp2_with fail
    refine (rvars_ok (some ⟨dk, 0, none⟩) k M M w9 (by omega) HML.out).mono ?_
    rintro e w' ⟨rfl, hw⟩
    obtain rfl := hw.symm
    clear hw
    go_wp2_with fail
    refine (HEU.out w9 (Below.refl _ w9)).mono ?_
    rintro e wa ⟨rfl, hba⟩
    go_wp2_with fail
    refine (HEV.out wa hba).mono ?_
    rintro e wb ⟨rfl, hbb⟩
    have HBB := hid (bel_trans hbb (bel_trans hba HB9.out))
    clear hba hbb
    go_wp2_with fail
    go_ret
    exact ⟨rfl, HBB.out⟩

end Go.Proofs.YtaiaillaihlhpafDoor
