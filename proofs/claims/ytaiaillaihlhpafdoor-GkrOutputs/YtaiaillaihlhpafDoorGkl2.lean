/-
  A contract of the law GkrComplete, for every circuit and all lists: it answers true.
-/
import Derived.Test.YtaiaillaihlhpafDoorGkl1
namespace Go.Proofs.YtaiaillaihlhpafDoor
open Go.RowKit
set_option linter.unusedVariables false
attribute [local go_sem ↓] Go.wp_at_zero Go.wp_at_succ

/-- The four cells that the last call reads. -/
abbrev FourC (X V n Q : Nat) (u v d p : Value) (W : World) : Prop := W.cell? ⟨X, 0, none⟩ = some u ∧ W.cell? ⟨X, 1, none⟩ = some v ∧ W.cell? ⟨V, n, none⟩ = some d ∧ W.cell? ⟨Q, 0, none⟩ = some p
theorem FourC.kept {X V n Q : Nat} {u v d p : Value} {W W' : World} (h : FourC X V n Q u v d p W) (hb : Below W.heap.size W W') : FourC X V n Q u v d p W' := ⟨keep_cell h.1 hb, keep_cell h.2.1 hb, keep_cell h.2.2.1 hb, keep_cell h.2.2.2 hb⟩
/-- A right circuit's numbers, as the laws ask for them. -/
theorem right_nums {c : CQ} {g : Int} {n : Nat} (hg : c.log = g) (hn : c.layers.length = n) (hc : c.right) : ∃ gn N : Nat, g = (gn : Int) ∧ gn ≤ 4 ∧ wrap64 ((2 : Int) ^ gn) = (N : Int) ∧ lenQ c 0 = N ∧ 1 ≤ N ∧ N ≤ 16 ∧ N = 2 ^ (partsQ c).lg n := by
  obtain ⟨gn, h1⟩ : ∃ gn : Nat, g = (gn : Int) := ⟨g.toNat, by have := hc.log; omega⟩
  have g4 : gn ≤ 4 := by have := hc.log; omega
  have e : lenQ c 0 = 2 ^ gn := by
    show 2 ^ (c.log).toNat = 2 ^ gn
    rw [hg, h1, Int.toNat_natCast]
  have hr := lenQ_rng hc 0 (by omega)
  rw [e] at hr
  refine ⟨gn, 2 ^ gn, h1, g4, shl_pow (by omega), e, hr.1, hr.2, ?_⟩
  rw [lg_bot (k := gn) hn (by show c.log = _; rw [hg, h1])]
theorem top_len {c : CQ} {n : Nat} (hn : c.layers.length = n) : lenQ c n = 2 ^ (partsQ c).lg 0 := by
  show 2 ^ (belowQ c n).toNat = 2 ^ (belowQ c (c.layers.length - 0)).toNat
  rw [hn, Nat.sub_zero]

set_option maxHeartbeats 8000000 in
set_option maxRecDepth 100000 in
theorem gcomp_any (c : CQ) (g : Int) (ao : Option Addr) (n cap : Nat) (A : Nat → Option Addr) (C : Nat → Nat) (ai ad : Option Addr) (ni ci nd cd : Nat) (fi fd : Nat → Int) (w : World) (ht : Tab w) (hn63 : n ≤ maxLen) (hg : c.log = g) (hn : c.layers.length = n) (hr : CRow w ao c.layers A C) (hi : PRow w ai ni fi) (vi : Nums fi) (hd : PRow w ad nd fd) (vd : Nums fd) :
    Calls Tryd.prog 4 #[.agg #[.int .i64 g, .slice ao n cap], .slice ai ni ci, .slice ad nd cd] w fun e w' => e = .returned (.bool true) ∧ Below w.heap.size w w' := by
  have HS0 := hid (StW.start w g (.slice ao n cap) 24)
  have HHE := hid (fun W (h : Below w.heap.size w W) => held_any W (ht.kept h ht.1))
  have HSM := hid (fun W (h : Below w.heap.size w W) => small_any c g ao n cap A C W hn63 hg hn (hr.kept h))
  have HR := hid hr
  have HG := hid hg
  have HN := hid hn
  have HT := hid ht
  have HI := hid (And.intro hi vi)
  have HD := hid (And.intro hd vd)
  clear hr hg hn ht hi vi hd vd hn63
  go_enter Tryd.func4, Tryd.ntmps4
  go_wp2_with fail
  obtain ⟨X, hX⟩ : ∃ X, w.heap.size = X := ⟨_, rfl⟩
  rw [hX] at HS0
  rw [hX]
  clear hX
  generalize w.alloc (.cells #[.int .i64 g, .slice ao n cap] 24) = W0 at HS0 ⊢
  refine (HHE.out _ HS0.out.bel).mono ?_
  rintro e w1 ⟨rfl, hb⟩
  have HS1 := hid (HS0.out.next hb)
  clear hb HS0 HHE
  obtain ⟨z0, z1, zl⟩ := HS1.out.box
  go_wp2_with fail
  refine (HSM.out _ HS1.out.bel).mono ?_
  rintro e w2 ⟨r, rfl, hrt, hb⟩
  have HS2 := hid (HS1.out.next hb)
  clear hb HS1 z0 z1 zl HSM
  cases r with
  | false =>
    clear hrt
    go_wp2_with fail
    go_ret
    exact ⟨rfl, HS2.out.bel⟩
  | true =>
    have HC := hid (hrt rfl)
    clear hrt
    obtain ⟨b, off, rfl⟩ := right_addr HC.out HR.out
    obtain ⟨gn, N, rfl, gn4, sh, hN, N1, N16, hNk⟩ := right_nums HG.out HN.out HC.out
    have HNN := hid (And.intro hN hNk)
    have n4 : n ≤ 4 := by have := HC.out.few; have := HN.out; omega
    obtain ⟨q, hq⟩ : ∃ q, needQ c = q := ⟨_, rfl⟩
    have q40 : q ≤ 40 := by rw [← hq]; exact needQ_le HC.out
    have HQ := hid hq
    have HSH := hid sh
    clear hN hNk hq
    obtain ⟨z0, z1, zl⟩ := HS2.out.box
    have gn0 : (0 : Int) ≤ (gn : Int) := by omega
    go_wp2_with fail
    rw [HSH.out]
    refine (point_any ai ni ci N fi w2 (by omega) (HI.out.1.kept HS2.out.bel)).mono ?_
    rintro e w3 ⟨rfl, hm⟩
    have HS3 := hid (HS2.out.next hm.below)
    have HXR : Hid (Row w3 w2.heap.size 0 N (padF ni fi)) := hid hm.row
    obtain ⟨BX, hBX⟩ : ∃ x, w2.heap.size = x := ⟨_, rfl⟩
    rw [hBX] at HXR
    rw [hBX]
    clear hm hBX HS2 z0 z1 zl
    obtain ⟨z0, z1, zl⟩ := HS3.out.box
    go_wp2_with fail
    refine (draws_ok c gn b off n cap A C w3 HG.out HN.out (HR.out.kept HS3.out.bel) HC.out).mono ?_
    rintro e w4 ⟨rfl, hb⟩
    rw [HQ.out]
    have HS4 := hid (HS3.out.next hb)
    have HX4 := hid (HXR.out.kept hb (HXR.out.lt N1))
    clear hb HS3 HXR z0 z1 zl
    go_wp2_with fail
    refine (point_any ad nd cd q fd w4 (by omega) (HD.out.1.kept HS4.out.bel)).mono ?_
    rintro e w5 ⟨rfl, hm⟩
    have HS5 := hid (HS4.out.next hm.below)
    have HX5 := hid (HX4.out.kept hm.below (HX4.out.lt N1))
    have HD5 : Hid (Row w5 w4.heap.size 0 q (padF nd fd)) := hid hm.row
    obtain ⟨BD, hBD⟩ : ∃ x, w4.heap.size = x := ⟨_, rfl⟩
    rw [hBD] at HD5
    rw [hBD]
    clear hm hBD HS4 HX4
    have q1 : 0 < q := by
      have h := at_fits (c := c) (j := 0) (List.length_pos_iff.2 HC.out.some)
      rw [HQ.out] at h
      omega
    obtain ⟨z0, z1, zl⟩ := HS5.out.box
    go_wp2_with fail
    refine (run_ok c gn b off n cap A C BX 0 N N (padF ni fi) w5 HG.out HN.out (HR.out.kept HS5.out.bel) HC.out HSH.out HNN.out.1 N16 N1 HX5.out (Nums_pad HI.out.2 _)).mono ?_
    rintro e w6 ⟨V, Dv, rfl, hO⟩
    have HS6 := hid (HS5.out.next hO.below)
    have HX6 := hid (HX5.out.kept hO.below (HX5.out.lt N1))
    have HD6 := hid (HD5.out.kept hO.below (HD5.out.lt q1))
    have HO6 := hid hO
    clear hO HS5 HX5 HD5 z0 z1 zl
    obtain ⟨z0, z1, zl⟩ := HS6.out.box
    go_wp2_with fail
    refine (pv_ok c gn b off n cap A C BX 0 N N (padF ni fi) BD 0 q q (padF nd fd) w6 HG.out HN.out (HR.out.kept HS6.out.bel) HC.out HSH.out HNN.out.1 HX6.out (Nums_pad HI.out.2 _) HD6.out (Nums_pad HD.out.2 _) HQ.out.symm (Nat.le_refl _) (Nat.le_trans q40 (by decide)) (HT.out.kept HS6.out.bel HT.out.1)).mono ?_
    rintro e w7 ⟨PB, m, rfl, hpf, hlow, hb⟩
    have HS7 := hid (HS6.out.next hb)
    have HX7 := hid (HX6.out.kept hb (HX6.out.lt N1))
    have HD7 := hid (HD6.out.kept hb (HD6.out.lt q1))
    have HO7 := hid (HO6.out.kept hb)
    have HP7 := hid hpf
    clear hpf hlow hb HS6 HX6 HD6 HO6 z0 z1 zl
    have hal := (Below.refl w7.heap.size w7).alloc (Nat.le_refl _) (.cells #[.slice (some ⟨PB, 0, none⟩) n n] 51)
    have HS8 := hid (HS7.out.next hal)
    have HX8 := hid (HX7.out.kept hal (HX7.out.lt N1))
    have HD8 := hid (HD7.out.kept hal (HD7.out.lt q1))
    have HO8 := hid (HO7.out.kept hal)
    have HP8 := hid (HP7.out.kept hal)
    have HQ8 : Hid ((w7.alloc (.cells #[.slice (some ⟨PB, 0, none⟩) n n] 51)).cell? ⟨w7.heap.size, 0, none⟩ = some (.slice (some ⟨PB, 0, none⟩) n n)) := hid (by rw [World.cell?_alloc_new]; rfl)
    obtain ⟨y0, y1, yl⟩ := HS8.out.box
    have yq := HQ8.out
    clear hal HS7 HX7 HD7 HO7 HP7
    go_wp2_with fail
    obtain ⟨BQ, hBQ⟩ : ∃ x, w7.heap.size = x := ⟨_, rfl⟩
    rw [hBQ] at HQ8
    rw [hBQ]
    clear hBQ y0 y1 yl yq
    generalize w7.alloc (.cells #[.slice (some ⟨PB, 0, none⟩) n n] 51) = W8 at HS8 HX8 HD8 HO8 HP8 HQ8 ⊢
    refine (form_is (cap := cap) (cp := n) (x := 0) HG.out HN.out (HR.out.kept HS8.out.bel) HC.out HN.out HP8.out (.inr (.inl ⟨HC.out, rightP_shaped _ _ _, rfl⟩)) W8 (Below.refl _ W8)).mono ?_
    rintro e w9 ⟨rfl, hb⟩
    have HS9 := hid (HS8.out.next hb)
    have HX9 := hid (HX8.out.kept hb (HX8.out.lt N1))
    have HD9 := hid (HD8.out.kept hb (HD8.out.lt q1))
    have HO9 := hid (HO8.out.kept hb)
    have HP9 := hid (HP8.out.kept hb)
    have HQ9 := hid (keep_cell HQ8.out hb)
    clear hb HS8 HX8 HD8 HO8 HP8 HQ8
    have cv := HO9.out.cell n (by omega)
    have rv := HO9.out.row n (by omega)
    obtain ⟨M, hM⟩ : ∃ x, lenQ c n = x := ⟨_, rfl⟩
    obtain ⟨dk, hdk⟩ : ∃ x, Dv n = x := ⟨_, rfl⟩
    rw [hM, hdk] at cv rv
    have M1 : 1 ≤ M := by rw [← hM]; exact (lenQ_rng HC.out n (by rw [HN.out]; omega)).1
    have HEN : Hid (endsQ c N M) := hid ⟨by rw [HN.out]; exact HNN.out.2, by rw [← hM]; exact top_len HN.out⟩
    have HVF : Hid (∀ W, Below w9.heap.size w9 W → Calls Tryd.prog 21 #[.agg #[.int .i64 (gn : Int), .slice (some ⟨b, off, none⟩) n cap], .slice (some ⟨BX, 0, none⟩) N N, .slice (some ⟨dk, 0, none⟩) M M, .agg #[.slice (some ⟨PB, 0, none⟩) n n], .slice (some ⟨BD, 0, none⟩) q q] W fun e w' => e = .returned (.tuple #[.bool true, .int .i64 0]) ∧ Below W.heap.size W w') := hid (fun W h => by
      have hS := HS9.out.next h
      refine (vf_ok c (gn : Int) b off n cap A C BX 0 N N dk 0 M M (padF ni fi) (valsQ c (padF ni fi) n) (some ⟨PB, 0, none⟩) n n (rightP c (padF ni fi) (padF nd fd)) m BD 0 q q (padF nd fd) W HG.out HN.out (HR.out.kept hS.bel) HC.out HN.out (HP9.out.kept h) (rightP_nums _ _ _) (rightP_shaped _ _ _) HEN.out (HX9.out.kept h (HX9.out.lt N1)) (Nums_pad HI.out.2 _) (rv.kept h (rv.lt M1)) (Nums_vals c _ n) (HD9.out.kept h (HD9.out.lt q1)) (Nums_pad HD.out.2 _) HQ.out.symm (Nat.le_refl _) (Nat.le_trans q40 (by decide)) (HT.out.kept hS.bel HT.out.1)).mono ?_
      rintro e w' ⟨r, rfl, hr, hb⟩
      have hyes : r = true := hr.2 ((right_iff HC.out _ _ _).2 (by rw [HN.out]))
      exact ⟨by rw [hyes], hb⟩)
    have HFC : Hid (FourC X V n BQ (.int .i64 (gn : Int)) (.slice (some ⟨b, off, none⟩) n cap) (.slice (some ⟨dk, 0, none⟩) M M) (.slice (some ⟨PB, 0, none⟩) n n) w9) := hid ⟨HS9.out.box.c0, HS9.out.box.c1, cv, HQ9.out⟩
    have HB9 := hid HS9.out.bel
    have n0 : (0 : Int) ≤ (n : Int) := by omega
    have n1 : (n : Int) < (n : Int) + 1 := by omega
    have n2 : IntKind.i64.wrap ((n : Int) + 1 - 1) = (n : Int) := by rw [show (n : Int) + 1 - 1 = (n : Int) from by omega]; exact IntWalk.i64_in _ (by omega)
    have n3 : IntKind.i64.wrap (n : Int) = (n : Int) := IntWalk.i64_in _ (by omega)
    have n5 : n < n + 1 := by omega
    clear hM hdk cv rv HEN HS9 HX9 HD9 HO9 HP9 HQ9
    have nc := HFC.out
    go_wp2_with fail
    go_region_held3 (FourC X V n BQ (.int .i64 (gn : Int)) (.slice (some ⟨b, off, none⟩) n cap) (.slice (some ⟨dk, 0, none⟩) M M) (.slice (some ⟨PB, 0, none⟩) n n)) (first | assumption | exact nca) (first
      | (go_at_call 21; refine (HVF.out _ (Below.refl _ w9).drew).mono ?_; rintro e wa ⟨rfl, hb⟩; have hba : Below w9.heap.size w9 wa := (Below.refl _ w9).drew.trans hb; have nca := nc.kept hba; clear hb))
    have HBA := hid (bel_trans hba HB9.out)
    clear nc nca hba HFC HVF
    go_wp2_with fail
    go_ret
    exact ⟨rfl, HBA.out⟩

end Go.Proofs.YtaiaillaihlhpafDoor
