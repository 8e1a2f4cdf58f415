/-
  Several texts in one: Gkv1; each opens with what it holds.
-/
import Derived.Test.YtmhifjdgfhgajacDoorRefGk3
import Derived.Test.YtmhifjdgfhgajacDoorMGkB
import Derived.Test.YtmhifjdgfhgajacDoorMFiat
/-
  A contract of the law GkrVerifies, for every circuit, all lists and all proofs: it answers true.
-/
namespace Go.Proofs.YtmhifjdgfhgajacDoor
open Go.RowKit
set_option linter.unusedVariables false
attribute [local go_sem ↓] Go.wp_at_zero Go.wp_at_succ

theorem bool_iff {r s : Bool} {P : Prop} (h : r = true ↔ P) (g : s = true ↔ P) : r = s := by
  cases r with
  | true => exact (g.2 (h.1 rfl)).symm
  | false =>
    cases s with
    | false => rfl
    | true => exact h.2 (g.1 rfl)
theorem row_of {w : World} {ao : Option Addr} {n : Nat} {f : Nat → Int} (h : PRow w ao n f) (hn : 0 < n) : ∃ b off, ao = some ⟨b, off, none⟩ ∧ Row w b off n f := h hn
/-- The numbers that the law reckons: how many inputs and outputs there must be. -/
theorem top_nums {c : CQ} {n : Nat} (hn : c.layers.length = n) (hc : c.right) : ∃ (last lk M : Nat) (l : LQ), n = last + 1 ∧ c.layers[last]? = some l ∧ l.log = (lk : Int) ∧ lk ≤ 4 ∧ wrap64 ((2 : Int) ^ lk) = (M : Int) ∧ M = 2 ^ (partsQ c).lg 0 := by
  have n1 : 1 ≤ n := by have := List.length_pos_iff.2 hc.some; omega
  obtain ⟨l, hl, hz, _, _, _⟩ := parts_layer hc (j := 0) (by omega)
  have hr := (hc.layer _ l hl).1
  have h4 := parts_lg hc 0
  refine ⟨n - 1, (partsQ c).lg 0, 2 ^ (partsQ c).lg 0, l, by omega, by rw [← hn]; exact hl, by rw [hz]; omega, h4, shl_pow (by omega), rfl⟩

set_option maxHeartbeats 8000000 in
set_option maxRecDepth 100000 in
theorem gver_any (c : CQ) (g : Int) (ao : Option Addr) (n cap : Nat) (A : Nat → Option Addr) (C : Nat → Nat) (ai ay ad : Option Addr) (ni ci no co nd cd : Nat) (fi fo fd : Nat → Int) (ap : Option Addr) (np cp : Nat) (p : PQ) (m : PM) (w : World) (ht : Tab w) (hg : c.log = g) (hn : c.layers.length = n) (hr : CRow w ao c.layers A C) (hi : PRow w ai ni fi) (vi : Nums fi) (ho : PRow w ay no fo) (vo : Nums fo) (hd : PRow w ad nd fd) (vd : Nums fd) (hcd : nd ≤ cd) (hcm : cd ≤ maxLen) (hp : p.n = np) (hpr : PfRow w ap p m) (hpn : p.nums) (n63 : ni ≤ maxLen) (o63 : no ≤ maxLen) :
    Calls Tryd.prog 4 #[.agg #[.int .i64 g, .slice ao n cap], .slice ai ni ci, .slice ay no co, .agg #[.slice ap np cp], .slice ad nd cd] w fun e w' => e = .returned (.bool true) ∧ Below w.heap.size w w' := by
  have HS0 := hid (StQ.start w g (.slice ao n cap) (.slice ap np cp) 24 33)
  have HCI := hid (fun W (h : Below w.heap.size w W) => rcirc_any c g ao n cap A C W hg hn (hr.kept h))
  have HR := hid hr
  have HG := hid hg
  have HN := hid hn
  have HT := hid (fun W (h : Below w.heap.size w W) => ht.kept h ht.1)
  have HI := hid (And.intro hi vi)
  have HO := hid (And.intro ho vo)
  have HD := hid (And.intro hd vd)
  have HPP := hid (And.intro hp (And.intro hpr hpn))
  have HCD := hid (And.intro hcd hcm)
  have n63' : (ni : Int) ≤ 9223372036854775807 := by have : maxLen ≤ 9223372036854775807 := by decide
                                                     omega
  have o63' : (no : Int) ≤ 9223372036854775807 := by have : maxLen ≤ 9223372036854775807 := by decide
                                                     omega
  clear hr hg hn ht hi vi hd vd ho vo hp hpr hpn hcd hcm n63 o63
  obtain ⟨z0, z1, zl⟩ := HS0.out.box
  go_enter Tryd.func4, Tryd.ntmps4
  go_wp2_with fail
  obtain ⟨X, hX⟩ : ∃ X, w.heap.size = X := ⟨_, rfl⟩
  rw [hX] at HS0
  rw [hX]
  clear hX z0 z1 zl
  generalize (w.alloc (.cells #[.int .i64 g, .slice ao n cap] 24)).alloc (.cells #[.slice ap np cp] 33) = W0 at HS0 ⊢
  refine (HCI.out _ HS0.out.bel).mono ?_
  rintro e w1 ⟨y, rfl, hy, hb⟩
  have HS1 := hid (HS0.out.next hb)
  have HYE := hid hy
  clear hb hy HS0 HCI
  obtain ⟨z0, z1, zl⟩ := HS1.out.box
  have zp := HS1.out.pc
  by_cases hy0 : y = 0
  · subst hy0
    have HC := hid (checkE_zero.1 HYE.out)
    obtain ⟨b, off, rfl⟩ := right_addr HC.out HR.out
    obtain ⟨gn, N, rfl, gn4, sh, hN, N1, N16, hNk⟩ := right_nums HG.out HN.out HC.out
    obtain ⟨last, lk, M, l, hlast, hl, hlg, lk4, shM, hM⟩ := top_nums HN.out HC.out
    subst hlast
    have HNM := hid (And.intro hNk hM)
    have HX0 : Hid (∀ W, Below w.heap.size w W → W.cell? ⟨b, off + last * 2, none⟩ = some (.int .i64 (lk : Int))) := hid (fun W h => by
      obtain ⟨b', off', eb, hcc⟩ := HR.out.kept h HC.out.some
      cases eb
      have := (hcc last l hl).1
      rw [Nat.mul_comm 2 last, hlg] at this
      exact this)
    have M16 : M ≤ 16 := by rw [hM]; exact Nat.le_trans (Nat.pow_le_pow_right (by omega) (parts_lg HC.out 0)) (by decide)
    have HEN : Hid (endsQ c ni no ↔ ni = N ∧ no = M) := hid (by unfold endsQ; rw [HN.out, ← hNk, ← hM])
    have n4 : last + 1 ≤ 4 := by have := HC.out.few; have := HN.out; omega
    clear hN hNk hM hl hlg
    go_wp2_with fail
    refine (rshaped_any c (gn : Int) b off (last + 1) cap A C ap np cp p m w1 HG.out HN.out (HR.out.kept HS1.out.bel) HC.out HPP.out.1 (HPP.out.2.1.kept HS1.out.bel)).mono ?_
    rintro e w2 ⟨r, rfl, hrs, hb⟩
    have HS2 := hid (HS1.out.next hb)
    have HRS := hid hrs
    clear hb hrs HS1 z0 z1 zl zp
    obtain ⟨z0, z1, zl⟩ := HS2.out.box
    have zp := HS2.out.pc
    have gn0 : (0 : Int) ≤ (gn : Int) := by omega
    have lk0 : (0 : Int) ≤ (lk : Int) := by omega
    have s0 : (0 : Int) ≤ (last : Int) := by omega
    have s1 : (last : Int) < (last : Int) + 1 := by omega
    cases r with
    | false =>
      have HNS : Hid (¬ shapedQ c p) := hid (fun h => by have := HRS.out.2 h; revert this; simp)
      have HFO := hid (form_is (cap := cap) (cp := cp) (x := 4) HG.out HN.out HR.out HC.out HPP.out.1 HPP.out.2.1 (.inr (.inr ⟨HC.out, HNS.out, rfl⟩)))
      clear HRS
      go_wp2_with fail
      refine (HFO.out _ HS2.out.bel).mono ?_
      rintro e w3 ⟨rfl, hb⟩
      have HS3 := hid (HS2.out.next hb)
      clear hb HS2 z0 z1 zl zp
      obtain ⟨z0, z1, zl⟩ := HS3.out.box
      have zp := HS3.out.pc
      have zx := HX0.out _ HS3.out.bel
      have HVE := hid (vf_form c (gn : Int) (some ⟨b, off, none⟩) (last + 1) cap ap np cp ai ay ad ni ci no co nd cd 4 w3 (by omega) (fun W h => HFO.out W (HS3.out.next h).bel))
      by_cases hi : ni = N
      · by_cases ho : no = M
        · have k1 : ((ni : Int) != (N : Int)) = false := by simp; omega
          have k2 : ((no : Int) != (M : Int)) = false := by simp; omega
          clear hi ho
          go_wp2_with fail
          refine (HVE.out).mono ?_
          rintro e w4 ⟨rfl, hb⟩
          have HS4 := hid (HS3.out.next hb)
          clear hb HS3 z0 z1 zl zp zx
          go_wp2_with fail
          go_ret
          exact ⟨rfl, HS4.out.bel⟩
        · have k1 : ((ni : Int) != (N : Int)) = false := by simp; omega
          have k2 : ((no : Int) != (M : Int)) = true := by simp; omega
          clear hi ho
          go_wp2_with fail
          refine (HVE.out).mono ?_
          rintro e w4 ⟨rfl, hb⟩
          have HS4 := hid (HS3.out.next hb)
          clear hb HS3 z0 z1 zl zp zx
          go_wp2_with fail
          go_ret
          exact ⟨rfl, HS4.out.bel⟩
      · have k1 : ((ni : Int) != (N : Int)) = true := by simp; omega
        clear hi
        go_wp2_with fail
        refine (HVE.out).mono ?_
        rintro e w4 ⟨rfl, hb⟩
        have HS4 := hid (HS3.out.next hb)
        clear hb HS3 z0 z1 zl zp zx
        go_wp2_with fail
        go_ret
        exact ⟨rfl, HS4.out.bel⟩
    | true =>
      have HSP := hid (HRS.out.1 (by first | rfl | trivial))
      have HFO := hid (form_is (cap := cap) (cp := cp) (x := 0) HG.out HN.out HR.out HC.out HPP.out.1 HPP.out.2.1 (.inr (.inl ⟨HC.out, HSP.out, rfl⟩)))
      clear HRS
      go_wp2_with fail
      refine (HFO.out _ HS2.out.bel).mono ?_
      rintro e w3 ⟨rfl, hb⟩
      have HS3 := hid (HS2.out.next hb)
      clear hb HS2 z0 z1 zl zp
      obtain ⟨z0, z1, zl⟩ := HS3.out.box
      have zp := HS3.out.pc
      have zx := HX0.out _ HS3.out.bel
      by_cases hi : ni = N
      · by_cases ho : no = M
        · have k1 : ((ni : Int) != (N : Int)) = false := by simp; omega
          have k2 : ((no : Int) != (M : Int)) = false := by simp; omega
          have HEY := hid (HEN.out.2 ⟨hi, ho⟩)
          have i1 : 0 < ni := by omega
          have o1 : 0 < no := by have h := HEY.out.2; rw [h]; exact Nat.two_pow_pos _
          clear hi ho
          go_wp2_with fail
          refine (rneed_any c (gn : Int) b off (last + 1) cap A C w3 HG.out HN.out (HR.out.kept HS3.out.bel) HC.out).mono ?_
          rintro e w4 ⟨rfl, hb⟩
          have HS4 := hid (HS3.out.next hb)
          clear hb HS3 z0 z1 zl zp zx
          obtain ⟨z0, z1, zl⟩ := HS4.out.box
          have zp := HS4.out.pc
          obtain ⟨q, hq⟩ : ∃ x, needQ c = x := ⟨_, rfl⟩
          rw [hq]
          have HQ := hid hq
          have q1 : 1 ≤ q := by rw [← hq]; have h := at_fits (c := c) (j := 0) (List.length_pos_iff.2 HC.out.some); omega
          clear hq
          by_cases hdq : nd = q
          · have k3 : ((nd : Int) != (q : Int)) = false := by simp; omega
            obtain ⟨bi, oi, rfl, hri⟩ := row_of HI.out.1 i1
            obtain ⟨bo, oo, rfl, hro⟩ := row_of HO.out.1 o1
            obtain ⟨bd, od, rfl, hrd⟩ := row_of HD.out.1 (by omega)
            have HVF := hid (vf_ok c (gn : Int) b off (last + 1) cap A C bi oi ni ci bo oo no co fi fo ap np cp p m bd od nd cd fd w4 HG.out HN.out (HR.out.kept HS4.out.bel) HC.out HPP.out.1 (HPP.out.2.1.kept HS4.out.bel) HPP.out.2.2 HSP.out HEY.out (hri.kept HS4.out.bel (hri.lt i1)) HI.out.2 (hro.kept HS4.out.bel (hro.lt o1)) HO.out.2 (hrd.kept HS4.out.bel (hrd.lt (by omega))) HD.out.2 (by rw [HQ.out]; exact hdq) HCD.out.1 HCD.out.2 (HT.out _ HS4.out.bel))
            have HHO := hid (fun W (h : Below w.heap.size w W) => rholds_any c (gn : Int) b off (last + 1) cap A C bi oi ni ci bo oo no co fi fo ap np cp p m bd od nd cd fd W HG.out HN.out (HR.out.kept h) HC.out HPP.out.1 (HPP.out.2.1.kept h) HPP.out.2.2 HSP.out (hri.kept h (hri.lt i1)) HI.out.2 (by rw [← HN.out]; exact HEY.out.1) (hro.kept h (hro.lt o1)) HO.out.2 HEY.out.2 (hrd.kept h (hrd.lt (by omega))) HD.out.2 (by rw [HQ.out]; exact hdq) HCD.out.1 HCD.out.2)
            clear hri hro hrd hdq
            go_wp2_with fail
            refine (HVF.out).mono ?_
            rintro e w5 ⟨r, rfl, hrr, hb⟩
            have HS5 := hid (HS4.out.next hb)
            have HRR := hid hrr
            clear hb hrr HS4 z0 z1 zl zp
            obtain ⟨z0, z1, zl⟩ := HS5.out.box
            have zp := HS5.out.pc
            go_wp2_with fail
            refine (HHO.out _ HS5.out.bel).mono ?_
            rintro e w6 ⟨r2, rfl, hr2, hb⟩
            have HS6 := hid (HS5.out.next hb)
            have e9 : (r == r2) = true := by rw [bool_iff HRR.out hr2]; simp
            clear hb hr2 HS5 z0 z1 zl zp
            go_wp2_with fail
            go_ret
            exact ⟨rfl, HS6.out.bel⟩
          · have k3 : ((nd : Int) != (q : Int)) = true := by simp; omega
            have HVE := hid (vf_draws c (gn : Int) b off (last + 1) cap A C ap np cp p m ai ay ad ni ci no co nd cd w4 HG.out HN.out (HR.out.kept HS4.out.bel) HC.out HPP.out.1 (HPP.out.2.1.kept HS4.out.bel) HSP.out HEY.out (by rw [HQ.out]; exact hdq))
            clear hdq
            go_wp2_with fail
            refine (HVE.out).mono ?_
            rintro e w5 ⟨rfl, hb⟩
            have HS5 := hid (HS4.out.next hb)
            clear hb HS4 z0 z1 zl zp
            go_wp2_with fail
            go_ret
            exact ⟨rfl, HS5.out.bel⟩
        · have HVE := hid (vf_ends c (gn : Int) b off (last + 1) cap A C ap np cp p m ai ay ad ni ci no co nd cd w3 HG.out HN.out (HR.out.kept HS3.out.bel) HC.out HPP.out.1 (HPP.out.2.1.kept HS3.out.bel) HSP.out (fun h => by have := HEN.out.1 h; omega))
          have k1 : ((ni : Int) != (N : Int)) = false := by simp; omega
          have k2 : ((no : Int) != (M : Int)) = true := by simp; omega
          clear hi ho
          go_wp2_with fail
          refine (HVE.out).mono ?_
          rintro e w4 ⟨rfl, hb⟩
          have HS4 := hid (HS3.out.next hb)
          clear hb HS3 z0 z1 zl zp zx
          go_wp2_with fail
          go_ret
          exact ⟨rfl, HS4.out.bel⟩
      · have HVE := hid (vf_ends c (gn : Int) b off (last + 1) cap A C ap np cp p m ai ay ad ni ci no co nd cd w3 HG.out HN.out (HR.out.kept HS3.out.bel) HC.out HPP.out.1 (HPP.out.2.1.kept HS3.out.bel) HSP.out (fun h => by have := HEN.out.1 h; omega))
        have k1 : ((ni : Int) != (N : Int)) = true := by simp; omega
        clear hi
        go_wp2_with fail
        refine (HVE.out).mono ?_
        rintro e w4 ⟨rfl, hb⟩
        have HS4 := hid (HS3.out.next hb)
        clear hb HS3 z0 z1 zl zp zx
        go_wp2_with fail
        go_ret
        exact ⟨rfl, HS4.out.bel⟩
  · have e1 : (y == 0) = false := beq_eq_false_iff_ne.2 hy0
    have HFB := hid (fun W (h : Below w.heap.size w W) => form_bad c g ao n cap A C ap np cp y W HG.out HN.out (HR.out.kept h) HYE.out hy0)
    have HY0 := hid hy0
    clear hy0
    have e2 : (y != y) = false := by simp
    have e3 : (y == y) = true := by simp
    go_wp2_with fail
    refine (HFB.out _ HS1.out.bel).mono ?_
    rintro e w3 ⟨rfl, hb⟩
    have HS3 := hid (HS1.out.next hb)
    clear hb HS1 z0 z1 zl zp
    obtain ⟨z0, z1, zl⟩ := HS3.out.box
    have zp := HS3.out.pc
    have HVE := hid (vf_form c g ao n cap ap np cp ai ay ad ni ci no co nd cd y w3 HY0.out (fun W h => HFB.out W (HS3.out.next h).bel))
    go_wp2_with fail
    refine (HVE.out).mono ?_
    rintro e w4 ⟨rfl, hb⟩
    have HS4 := hid (HS3.out.next hb)
    clear hb HS3 z0 z1 zl zp
    go_wp2_with fail
    go_ret
    exact ⟨rfl, HS4.out.bel⟩

end Go.Proofs.YtmhifjdgfhgajacDoor
