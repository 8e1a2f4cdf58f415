/-
  A contract of the law OpenComplete, for every input: it answers true and writes nothing that was there.
-/
import Derived.Test.YtnnjajmkfgnhcaaDoorOpK
namespace Go.Proofs.YtnnjajmkfgnhcaaDoor
open Go.RowKit
set_option linter.unusedVariables false
attribute [local go_sem ↓] Go.wp_at_zero Go.wp_at_succ

set_option maxHeartbeats 4000000 in
set_option maxRecDepth 100000 in
theorem ocomplete_any (ao bo po : Option Addr) (la ca lb cb lp cp : Nat) (k : Int) (f g p : Nat → Int) (w : World) (ht : Tab w) (hp : PRow w ao la f) (hf : Nums f) (hq : PRow w bo lb g) (hg : Nums g) (k0 : -9223372036854775808 ≤ k) (k1 : k ≤ 9223372036854775807) (hi : IRowP w po lp p) (hpr : ∀ j, -9223372036854775808 ≤ p j ∧ p j ≤ 9223372036854775807) (hlc : lp ≤ cp) (hcm : lp ≤ maxLen) :
    Calls Tryd.prog 6 #[.slice ao la ca, .slice bo lb cb, .int .i64 k, .slice po lp cp] w fun e w' => e = .returned (.bool true) ∧ Below w.heap.size w w' := by
  obtain ⟨r, hr⟩ : ∃ r : Nat, k % 4 = (r : Int) := ⟨(k % 4).toNat, by omega⟩
  have r3 : r ≤ 3 := by omega
  obtain ⟨n, hn⟩ : ∃ n, n = 1 + r := ⟨_, rfl⟩
  have n1 : 1 ≤ n := by omega
  have n4 : n ≤ 4 := by omega
  obtain ⟨H, hH⟩ : ∃ H, hfQ n 0 = H := ⟨_, rfl⟩
  have hN : 2 * H = 2 ^ n := by rw [← hH]; exact hfQ_all (by omega)
  have hH1 : 1 ≤ H := by rw [← hH]; exact hfQ_pos n 0
  have hH2 : H ≤ 256 := by rw [← hH]; exact hfQ_le (by omega)
  obtain ⟨m, hm⟩ : ∃ m, min 8 lp = m := ⟨_, rfl⟩
  have m8 : m ≤ 8 := by omega
  have mlp : m ≤ lp := by omega
  have hmi : min (8 : Int) (lp : Int) = (m : Int) := by omega
  obtain ⟨pl, hpl⟩ : ∃ pl : Nat → Nat, pl = fun j => (p j % (H : Int)).toNat := ⟨_, rfl⟩
  have HPL : Hid (∀ j, p j % (H : Int) = ((pl j : Nat) : Int) ∧ pl j < H) := hid (fun j => by
    have h1 := Int.emod_nonneg (p j) (show (H : Int) ≠ 0 by omega)
    have h2 := Int.emod_lt_of_pos (p j) (show (0 : Int) < H by omega)
    rw [hpl]; dsimp only; omega)
  have HOD := hid (opened_any w ht)
  have HR4 := hid (fun W => (by have := rest_any k 4 W k0 k1 (by omega) (by omega); rw [hr] at this; exact this : Calls Tryd.prog 14 #[.int .i64 k, .int .i64 4] W fun e w' => e = .returned (.int .i64 (r : Int)) ∧ w' = W))
  have HTA := hid (fun W (h : PRow W ao la f) => table_any ao la ca (1 + (r : Int)) n (2 * H) f W (by omega) (by omega) (by omega) hN h)
  have HVA := hid (fun b W => rvars_ok (some ⟨b, 0, none⟩) n (2 * H) (2 * H) W (by omega) hN)
  have HPO := hid (fun W (h : PRow W bo lb g) => point_any bo lb cb n g W (by omega) h)
  have HRE := hid (fun j W => (by have := rest_any (p j) (H : Int) W (hpr j).1 (hpr j).2 (by omega) (by omega); rw [(HPL.out j).1] at this; exact this : Calls Tryd.prog 14 #[.int .i64 (p j), .int .i64 (H : Int)] W fun e w' => e = .returned (.int .i64 ((pl j : Nat) : Int)) ∧ w' = W))
  have hvf := Nums_pad hf la
  have hvg := Nums_pad hg lb
  obtain ⟨F, hF⟩ : ∃ F, padF la f = F := ⟨_, rfl⟩
  obtain ⟨G, hG⟩ : ∃ G, padF lb g = G := ⟨_, rfl⟩
  rw [hF] at hvf HTA
  rw [hG] at hvg HPO
  have HRO := hid (fun b W (h : Row W b 0 (2 * H) F) (hT : Tab W) => troot_any n (2 * H) b 0 (2 * H) F W (by omega) hN hT h hvf)
  have HOP := hid (fun tb qb (apl : Option Addr) (cpl : Nat) W (h : Row W tb 0 (2 * H) F) (hT : Tab W) (hpq : PRow W (some ⟨qb, 0, none⟩) n G) (hii : IRowP W apl m fun j => (pl j : Int)) => open_ok n (2 * H) tb 0 (2 * H) n m cpl (some ⟨qb, 0, none⟩) apl F G pl W n1 (by omega) hN hT h hvf hpq hvg hii (plOk_of (by omega) (fun j _ => by rw [hH]; exact (HPL.out j).2)))
  have HEV := hid (fun tb qb W (h : Row W tb 0 (2 * H) F) (hT : Tab W) (hpq : PRow W (some ⟨qb, 0, none⟩) n G) => eval_ok tb 0 n (2 * H) (2 * H) n (some ⟨qb, 0, none⟩) F G W (by omega) hN hT h hvf hpq hvg)
  have HLK := hid (fun qb (apl : Option Addr) (cpl lb rb : Nat) mm W (hpq : PRow W (some ⟨qb, 0, none⟩) n G) (hii : IRowP W apl m fun j => (pl j : Int)) (hR : Row W rb 0 n (oR F G n)) (ho : OpRow W (some ⟨lb, 0, none⟩) (rightO F G n m pl) mm) => look_right n m n cpl lb rb (some ⟨qb, 0, none⟩) apl (rootQ n F) F G pl mm W n1 (by omega) (by omega) (fun j _ => by rw [hH]; exact (HPL.out j).2) rfl hpq hvg hii hR ho)
  rw [← fdQ_value F G n hvf n1] at HEV
  have hrt := rootQ_rng n F
  obtain ⟨root, hroot⟩ : ∃ x, rootQ n F = x := ⟨_, rfl⟩
  rw [hroot] at HRO HLK hrt
  obtain ⟨vv, hvv⟩ : ∃ x, fdQ F G n n 0 = x := ⟨_, rfl⟩
  rw [hvv] at HOP HEV HLK
  have HT := hid ht
  have HP := hid hp
  have HQ := hid hq
  have HI := hid hi
  obtain ⟨i0, hi0, hz0, hz1, hz2⟩ := info_parts Tryd.infoJ
  have HIN := hid (And.intro hi0 (And.intro hz0 (And.intro hz1 hz2)))
  have HN := hid hN
  have u0 : (0 : Int) ≤ (m : Int) := by omega
  have u1 : (m : Int) ≤ (cp : Int) := by omega
  clear hN hn hr hm hpl hH hroot hvv hF hG hp hq hi hf hg hvf hvg hpr hi0 hz0 hz1 hz2 ht k0 k1
  go_enter Tryd.func6, Tryd.ntmps6
  go_wp2_with fail
  refine (HOD.out).mono ?_
  rintro e w1 ⟨rfl, hb⟩
  have HB := hid hb
  clear hb HOD
  go_wp2_with fail
  refine (HR4.out _).mono ?_
  rintro e w2 ⟨rfl, hw⟩
  obtain rfl := hw.symm
  go_wp2_with fail
  refine (HTA.out _ (HP.out.kept HB.out)).mono ?_
  rintro e w3 ⟨rfl, hm⟩
  have HM : Hid (Row w3 w1.heap.size 0 (2 * H) F) := hid hm.row
  replace HB := hid (HB.out.trans (hm.below.mono HB.out.size))
  obtain ⟨tb, htb⟩ : ∃ x, w1.heap.size = x := ⟨_, rfl⟩
  rw [htb] at HM ⊢
  clear hm htb
  go_wp2_with fail
  refine (HVA.out _ _).mono ?_
  rintro e w4 ⟨rfl, hw⟩
  obtain rfl := hw.symm
  go_wp2_with fail
  refine (HPO.out _ (HQ.out.kept HB.out)).mono ?_
  rintro e w5 ⟨rfl, hm⟩
  replace HM := hid (HM.out.kept hm.below (HM.out.lt (by omega)))
  have HG : Hid (Row w5 w3.heap.size 0 n G) := hid hm.row
  replace HB := hid (HB.out.trans (hm.below.mono HB.out.size))
  obtain ⟨qb, hqb⟩ : ∃ x, w3.heap.size = x := ⟨_, rfl⟩
  rw [hqb] at HG ⊢
  clear hm hqb
  go_wp2_with fail
  case inl hm8 =>
    have e : m = lp := by omega
    subst e
    obtain ⟨E, hE⟩ : ∃ E, w5.heap.size = E := ⟨_, rfl⟩
    have HE := hid hE
    clear hE
    go_loopg [12, 41] m (fun q x12 x41 wr => ∃ (t : Nat) (v : Value), t ≤ m ∧ q = m - t ∧ x12 = v ∧ x41 = .int .i64 (t : Int) ∧ Hid (wr.ownsRow E 3 1 v t (plV pl t)) ∧ Hid (Below E w5 wr))
    case atStart => exact ⟨0, _, by omega, rfl, rfl, rfl, hid (World.ownsRow_nil w5 E 3 1), hid (Below.refl _ _)⟩
    case round =>
      obtain ⟨t, v, htm, rfl, rfl, rfl, HO, HW⟩ := hrel
      by_cases hlt : t < m
      · have hWw : Below w.heap.size w wr := HB.out.trans (HW.out.mono (by have := HE.out; have := HB.out.size; omega))
        obtain ⟨bp, op, rfl, hpr⟩ := (HI.out.kept hWw) (by omega)
        have c1 := hpr t (by omega)
        have HRT := hid (HRE.out t)
        have hq := HPL.out t
        obtain ⟨q, hqq⟩ : ∃ q, pl t = q := ⟨_, rfl⟩
        have HQQ := hid hqq
        rw [hqq] at HRT hq
        generalize p t = pt at c1 HRT hq
        have hqH := hq.2
        have hs := HW.out.size
        rw [HE.out] at hs
        have t0 : (0 : Int) ≤ (t : Int) := by omega
        have t1 : (t : Int) < (m : Int) := by omega
        clear hpr hWw hqq hq
        go_wp2_with (first | (go_at_call 14; refine (HRT.out _).mono ?_; rintro e w2 ⟨rfl, hw⟩; obtain rfl := hw.symm) | (at_builtin; refine wpList_append_lies _ rfl _ _ 23 rfl E 3 i0 (.int .i64 0) 1 8 Tryd.underlying23 HIN.out.1 HIN.out.2.1 HIN.out.2.2.1 HIN.out.2.2.2 rfl (by decide) _ t (plV pl t) rfl (World.ownsRow.alloc HO.out _) ⟨wr.heap.size, 0, none⟩ 1 1 [.int .i64 (q : Int)] rfl rfl (inews wr _ _) (ione _) (by omega) (by unfold maxLen; omega) (by omega) (by simp; omega) (wr.heap.size + 1) (by simp) ?_))
        intro g6 c6 w6 hown6 hgrow6 hat6 hlt6
        have HN6 := hid (pl_next HW.out (by rw [HE.out]; exact Nat.le_refl _) HO.out HQQ.out hown6 hgrow6)
        clear hown6 hgrow6 hat6 hlt6
        go_wp2_with fail
        go_roundg (m - (t + 1))
        case measure => go_light; omega
        case rel => exact ⟨t + 1, _, by omega, rfl, rfl, by go_num, hid HN6.out.1, hid HN6.out.2⟩
      · have e : m = t := by omega
        subst e
        obtain ⟨al, cl, rfl, hcl, hil⟩ := pl_own HO.out
        replace HB := hid (HB.out.trans (HW.out.mono (by have := HE.out; have := HB.out.size; omega)))
        have HM2 := hid (HM.out.kept HW.out (by rw [← HE.out]; exact HM.out.lt (by omega)))
        have HG2 := hid (HG.out.kept HW.out (by rw [← HE.out]; exact HG.out.lt (by omega)))
        have HI2 := hid hil
        clear HO hil HM HG HW
        go_wp2_with fail
        refine (HRO.out _ _ HM2.out (HT.out.kept HB.out HT.out.1)).mono ?_
        rintro e w6 ⟨rfl, hb⟩
        replace HM2 := hid (HM2.out.kept hb (HM2.out.lt (by omega)))
        replace HG2 := hid (HG2.out.kept hb (HG2.out.lt (by omega)))
        replace HI2 := hid (HI2.out.kept hb)
        replace HB := hid (HB.out.trans (hb.mono HB.out.size))
        clear hb
        go_wp2_with fail
        refine (HOP.out _ _ _ _ _ HM2.out (HT.out.kept HB.out HT.out.1) (PRow.of HG2.out) HI2.out).mono ?_
        rintro e w7 ⟨rb, lb', mm, rfl, hrow, hop, hb⟩
        have b0 := bel_new w7 (.cells #[.slice (some ⟨rb, 0, none⟩) n n, .int .u64 vv, .slice (some ⟨lb', 0, none⟩) m m] 29)
        have HX := hid (Bx3.new w7 (.slice (some ⟨rb, 0, none⟩) n n) (.int .u64 vv) (.slice (some ⟨lb', 0, none⟩) m m) 29)
        have hbb := hb.trans (b0.mono hb.size)
        replace HM2 := hid (HM2.out.kept hbb (HM2.out.lt (by omega)))
        replace HG2 := hid (HG2.out.kept hbb (HG2.out.lt (by omega)))
        replace HI2 := hid (HI2.out.kept hbb)
        replace HB := hid (HB.out.trans (hbb.mono HB.out.size))
        have HR3 := hid (hrow.kept b0 (hrow.lt (by omega)))
        have HO3 := hid (hop.kept b0)
        clear b0 hbb hb hrow hop
        go_wp2_with fail
        obtain ⟨XX, hXX⟩ : ∃ XX, w7.heap.size = XX := ⟨_, rfl⟩
        rw [hXX] at HX ⊢
        generalize w7.alloc (.cells #[.slice (some ⟨rb, 0, none⟩) n n, .int .u64 vv, .slice (some ⟨lb', 0, none⟩) m m] 29) = W7 at HX HB HM2 HG2 HI2 HR3 HO3 ⊢
        clear hXX
        refine (HEV.out _ _ _ HM2.out (HT.out.kept HB.out HT.out.1) (PRow.of HG2.out)).mono ?_
        rintro e w8 ⟨rfl, hb⟩
        replace HG2 := hid (HG2.out.kept hb (HG2.out.lt (by omega)))
        replace HI2 := hid (HI2.out.kept hb)
        replace HB := hid (HB.out.trans (hb.mono HB.out.size))
        replace HR3 := hid (HR3.out.kept hb (HR3.out.lt (by omega)))
        replace HO3 := hid (HO3.out.kept hb)
        replace HX := hid (HX.out.kept hb)
        have x0 := HX.out.c0
        have x1 := HX.out.c1
        have x2 := HX.out.c2
        clear hb
        go_wp2_with fail
        refine (HLK.out _ _ _ _ _ _ _ (PRow.of HG2.out) HI2.out HR3.out HO3.out).mono ?_
        rintro e w9 ⟨rfl, hb⟩
        have HB9 := hid (HB.out.trans (hb.mono HB.out.size))
        have y1 := (HX.out.kept hb).c1
        clear hb x0 x1 x2
        go_wp2_with fail
        go_ret
        exact ⟨by simp, HB9.out⟩
  case inr hm8 =>
    have e : 8 = m := by omega
    subst e
    obtain ⟨E, hE⟩ : ∃ E, w5.heap.size = E := ⟨_, rfl⟩
    have HE := hid hE
    clear hE
    go_loopg [12, 41] 8 (fun q x12 x41 wr => ∃ (t : Nat) (v : Value), t ≤ 8 ∧ q = 8 - t ∧ x12 = v ∧ x41 = .int .i64 (t : Int) ∧ Hid (wr.ownsRow E 3 1 v t (plV pl t)) ∧ Hid (Below E w5 wr))
    case atStart => exact ⟨0, _, by omega, rfl, rfl, rfl, hid (World.ownsRow_nil w5 E 3 1), hid (Below.refl _ _)⟩
    case round =>
      obtain ⟨t, v, htm, rfl, rfl, rfl, HO, HW⟩ := hrel
      by_cases hlt : t < 8
      · have hWw : Below w.heap.size w wr := HB.out.trans (HW.out.mono (by have := HE.out; have := HB.out.size; omega))
        obtain ⟨bp, op, rfl, hpr⟩ := (HI.out.kept hWw) (by omega)
        have c1 := hpr t (by omega)
        have HRT := hid (HRE.out t)
        have hq := HPL.out t
        obtain ⟨q, hqq⟩ : ∃ q, pl t = q := ⟨_, rfl⟩
        have HQQ := hid hqq
        rw [hqq] at HRT hq
        generalize p t = pt at c1 HRT hq
        have hqH := hq.2
        have hs := HW.out.size
        rw [HE.out] at hs
        have t0 : (0 : Int) ≤ (t : Int) := by omega
        have t1 : (t : Int) < (8 : Int) := by omega
        clear hpr hWw hqq hq
        go_wp2_with (first | (go_at_call 14; refine (HRT.out _).mono ?_; rintro e w2 ⟨rfl, hw⟩; obtain rfl := hw.symm) | (at_builtin; refine wpList_append_lies _ rfl _ _ 23 rfl E 3 i0 (.int .i64 0) 1 8 Tryd.underlying23 HIN.out.1 HIN.out.2.1 HIN.out.2.2.1 HIN.out.2.2.2 rfl (by decide) _ t (plV pl t) rfl (World.ownsRow.alloc HO.out _) ⟨wr.heap.size, 0, none⟩ 1 1 [.int .i64 (q : Int)] rfl rfl (inews wr _ _) (ione _) (by omega) (by unfold maxLen; omega) (by omega) (by simp; omega) (wr.heap.size + 1) (by simp) ?_))
        intro g6 c6 w6 hown6 hgrow6 hat6 hlt6
        have HN6 := hid (pl_next HW.out (by rw [HE.out]; exact Nat.le_refl _) HO.out HQQ.out hown6 hgrow6)
        clear hown6 hgrow6 hat6 hlt6
        go_wp2_with fail
        go_roundg (8 - (t + 1))
        case measure => go_light; omega
        case rel => exact ⟨t + 1, _, by omega, rfl, rfl, by go_num, hid HN6.out.1, hid HN6.out.2⟩
      · have e : 8 = t := by omega
        subst e
        obtain ⟨al, cl, rfl, hcl, hil⟩ := pl_own HO.out
        replace HB := hid (HB.out.trans (HW.out.mono (by have := HE.out; have := HB.out.size; omega)))
        have HM2 := hid (HM.out.kept HW.out (by rw [← HE.out]; exact HM.out.lt (by omega)))
        have HG2 := hid (HG.out.kept HW.out (by rw [← HE.out]; exact HG.out.lt (by omega)))
        have HI2 := hid hil
        clear HO hil HM HG HW
        go_wp2_with fail
        refine (HRO.out _ _ HM2.out (HT.out.kept HB.out HT.out.1)).mono ?_
        rintro e w6 ⟨rfl, hb⟩
        replace HM2 := hid (HM2.out.kept hb (HM2.out.lt (by omega)))
        replace HG2 := hid (HG2.out.kept hb (HG2.out.lt (by omega)))
        replace HI2 := hid (HI2.out.kept hb)
        replace HB := hid (HB.out.trans (hb.mono HB.out.size))
        clear hb
        go_wp2_with fail
        refine (HOP.out _ _ _ _ _ HM2.out (HT.out.kept HB.out HT.out.1) (PRow.of HG2.out) HI2.out).mono ?_
        rintro e w7 ⟨rb, lb', mm, rfl, hrow, hop, hb⟩
        have b0 := bel_new w7 (.cells #[.slice (some ⟨rb, 0, none⟩) n n, .int .u64 vv, .slice (some ⟨lb', 0, none⟩) 8 8] 29)
        have HX := hid (Bx3.new w7 (.slice (some ⟨rb, 0, none⟩) n n) (.int .u64 vv) (.slice (some ⟨lb', 0, none⟩) 8 8) 29)
        have hbb := hb.trans (b0.mono hb.size)
        replace HM2 := hid (HM2.out.kept hbb (HM2.out.lt (by omega)))
        replace HG2 := hid (HG2.out.kept hbb (HG2.out.lt (by omega)))
        replace HI2 := hid (HI2.out.kept hbb)
        replace HB := hid (HB.out.trans (hbb.mono HB.out.size))
        have HR3 := hid (hrow.kept b0 (hrow.lt (by omega)))
        have HO3 := hid (hop.kept b0)
        clear b0 hbb hb hrow hop
        go_wp2_with fail
        obtain ⟨XX, hXX⟩ : ∃ XX, w7.heap.size = XX := ⟨_, rfl⟩
        rw [hXX] at HX ⊢
        generalize w7.alloc (.cells #[.slice (some ⟨rb, 0, none⟩) n n, .int .u64 vv, .slice (some ⟨lb', 0, none⟩) 8 8] 29) = W7 at HX HB HM2 HG2 HI2 HR3 HO3 ⊢
        clear hXX
        refine (HEV.out _ _ _ HM2.out (HT.out.kept HB.out HT.out.1) (PRow.of HG2.out)).mono ?_
        rintro e w8 ⟨rfl, hb⟩
        replace HG2 := hid (HG2.out.kept hb (HG2.out.lt (by omega)))
        replace HI2 := hid (HI2.out.kept hb)
        replace HB := hid (HB.out.trans (hb.mono HB.out.size))
        replace HR3 := hid (HR3.out.kept hb (HR3.out.lt (by omega)))
        replace HO3 := hid (HO3.out.kept hb)
        replace HX := hid (HX.out.kept hb)
        have x0 := HX.out.c0
        have x1 := HX.out.c1
        have x2 := HX.out.c2
        clear hb
        go_wp2_with fail
        refine (HLK.out _ _ _ _ _ _ _ (PRow.of HG2.out) HI2.out HR3.out HO3.out).mono ?_
        rintro e w9 ⟨rfl, hb⟩
        have HB9 := hid (HB.out.trans (hb.mono HB.out.size))
        have y1 := (HX.out.kept hb).c1
        clear hb x0 x1 x2
        go_wp2_with fail
        go_ret
        exact ⟨by simp, HB9.out⟩

end Go.Proofs.YtnnjajmkfgnhcaaDoor
