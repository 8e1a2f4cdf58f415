/-
  A contract of package open's Open, of right arguments: the right opening, in new blocks; it writes nothing that was there.
-/
import Derived.Test.YtnnjajmkfgnhcaaDoorOpI
namespace Go.Proofs.YtnnjajmkfgnhcaaDoor
open Go.RowKit
set_option linter.unusedVariables false
attribute [local go_sem ↓] Go.wp_at_zero Go.wp_at_succ

set_option maxHeartbeats 16000000 in
set_option maxRecDepth 100000 in
theorem open_own (n N b off cap cp m cpl : Nat) (ap apl : Option Addr) (f g : Nat → Int) (pl : Nat → Nat) (w : World) (n1 : 1 ≤ n) (n8 : n ≤ 8) (hN : N = 2 ^ n) (ht : Tab w) (hr : Row w b off N f) (hv : Nums f) (hp : PRow w ap n g) (hg : Nums g) (hi : IRowP w apl m fun j => (pl j : Int)) (hpl : plOk m n fun j => (pl j : Int)) :
    Calls Tryd.prog 11 #[.slice (some ⟨b, off, none⟩) N cap, .slice ap n cp, .slice apl m cpl] w fun e w' => ∃ rb lb mm, e = .returned (.tuple #[.agg #[.slice (some ⟨rb, 0, none⟩) n n, .int .u64 (fdQ f g n n 0), .slice (some ⟨lb, 0, none⟩) m m], .int .i64 0]) ∧ Row w' rb 0 n (oR f g n) ∧ OpRow w' (some ⟨lb, 0, none⟩) (rightO f g n m pl) mm ∧ Below w.heap.size w w' ∧ ownsO w w' n m rb lb := by
  have m32 : m ≤ 32 := hpl.1
  have hb0 := bel_new w (.cells #[.slice none 0 0, .int .u64 0, .slice none 0 0] 29)
  have HZ0 := hid (Zero3.new w (.slice none 0 0) (.int .u64 0) (.slice none 0 0) 29)
  have HVA := hid (fun W (h : Below w.heap.size w W) => vars_ok (some ⟨b, off, none⟩) n N cap W n8 hN (ht.kept h ht.1))
  have HAP := hid (fun W (h : Below w.heap.size w W) => arePlaces_any m cpl n apl (fun j => (pl j : Int)) W n1 n8 (by unfold maxLen; omega) (hi.kept h))
  have HPL := hid hpl
  have HFO := hid (fun W (h : Below w.heap.size w W) => folds_ok n N b off cap cp ap f g W n8 hN (ht.kept h ht.1) (hr.kept h (hr.lt (by rw [hN]; exact Nat.two_pow_pos n))) hv (hp.kept h) hg)
  have HN := hid hN
  have HT := hid ht
  have HR := hid (And.intro hr hv)
  have HP := hid (And.intro hp hg)
  have HI := hid hi
  have HB0 := hid hb0
  have hz : ((n : Int) == 0) = false := by rw [beq_eq_false_iff_ne]; omega
  have hnn : ((n : Int) != (n : Int)) = false := by simp
  clear hN ht hr hv hp hg hi hpl hb0
  go_enter Tryd.func11, Tryd.ntmps11
  go_wp2_with fail
  obtain ⟨X0, hX0⟩ : ∃ X0, w.heap.size = X0 := ⟨_, rfl⟩
  have HX0 := hid hX0
  rw [hX0] at HZ0 ⊢
  clear hX0
  generalize w.alloc (.cells #[.slice none 0 0, .int .u64 0, .slice none 0 0] 29) = W0 at HZ0 HB0 ⊢
  refine (HVA.out _ HB0.out).mono ?_
  rintro e w' ⟨rfl, hw⟩
  obtain rfl := hw.symm
  go_wp2_with fail
  refine (HAP.out _ HB0.out).mono ?_
  rintro e w' ⟨r, rfl, hrr, hw⟩
  obtain rfl := hw.symm
  have hr2 : r = true := hrr.2 HPL.out
  subst hr2
  clear hrr
  go_wp2_with fail
  refine (HFO.out _ HB0.out).mono ?_
  rintro e W1 ⟨ao, c, A, C, rfl, hc, hfd, hb1⟩
  have HFD := hid hfd
  have HZ1 := hid (HZ0.out.kept hb1)
  have HB1 := hid (HB0.out.trans (hb1.mono HB0.out.size))
  obtain ⟨ba, oa, rfl, hat⟩ := hfd.at
  obtain ⟨b2, o2, cl, rl⟩ := hat n (Nat.le_refl n)
  rw [Nat.sub_self, Nat.pow_zero] at cl rl
  have cl0 := rl 0 (by omega)
  rw [Nat.add_zero] at cl0
  obtain ⟨vv, hvv⟩ : ∃ vv, fdQ f g n n 0 = vv := ⟨_, rfl⟩
  rw [hvv] at cl0
  have HVV := hid hvv
  clear hfd hb1 hat rl HB0 HZ0 hvv HVA HAP HFO
  have n0 : (0 : Int) ≤ (n : Int) := by omega
  have n2 : (n : Int) < ((n + 1 : Nat) : Int) := by omega
  have n3 : (n : Int) < (n : Int) + 1 := by omega
  have hm1 := run_make_row' (P := Tryd.prog) 22 26 (.int .u64 0) 8 Tryd.underlying22 Tryd.infoM rfl .i64 .i64 n (by omega) (by omega)
  have hm2 := run_make_looks m (by omega)
  go_wp2_with fail
  go_cut [11] (fun a11 wx => ∃ X RB LB : Nat, a11 = .pointer (some ⟨X, 0, none⟩) ∧ Hid (OpM W1 wx X RB LB n m vv (fun _ => 0)))
  case first =>
    go_region_held3 (fun W => W.cell? ⟨ba, oa + n, none⟩ = some (.slice (some ⟨b2, o2, none⟩) 1 (C n)) ∧ W.cell? ⟨b2, o2, none⟩ = some (.int .u64 vv)) (first | assumption | exact ⟨cl, cl0⟩ | (refine ⟨?_, ?_⟩ <;> (try with_reducible refine cellD ?_) <;> first | with_reducible exact cl | with_reducible exact cl0 | (with_reducible refine keepC (bel_new _ _) ?_; first | with_reducible exact cl | with_reducible exact cl0 | (with_reducible refine keepC (bel_new _ _) ?_; first | with_reducible exact cl | with_reducible exact cl0 | (with_reducible refine keepC (bel_new _ _) ?_; first | with_reducible exact cl | with_reducible exact cl0))))) (fail)
    all_goals (go_wp2_with fail)
    all_goals go_meet
    all_goals first
      | exact ⟨_, _, _, rfl, hid (OpM.of3 (heap_2 _ _ _ _) (heap_0 _ _ _ _) (heap_1 _ _ _ _) (by omega) (by omega))⟩
      | exact ⟨_, _, _, rfl, hid (OpM.of3 (heap_2 _ _ _ _) (heap_1 _ _ _ _) (heap_0 _ _ _ _) (by omega) (by omega))⟩
      | exact ⟨_, _, _, rfl, hid (OpM.of3 (heap_1 _ _ _ _) (heap_0 _ _ _ _) (heap_2 _ _ _ _) (by omega) (by omega))⟩
      | exact ⟨_, _, _, rfl, hid (OpM.of3 (heap_1 _ _ _ _) (heap_2 _ _ _ _) (heap_0 _ _ _ _) (by omega) (by omega))⟩
      | exact ⟨_, _, _, rfl, hid (OpM.of3 (heap_0 _ _ _ _) (heap_1 _ _ _ _) (heap_2 _ _ _ _) (by omega) (by omega))⟩
      | exact ⟨_, _, _, rfl, hid (OpM.of3 (heap_0 _ _ _ _) (heap_2 _ _ _ _) (heap_1 _ _ _ _) (by omega) (by omega))⟩
  case rest =>
    obtain ⟨X, RB, LB, rfl, HM⟩ := hcut
    clear hm1 hm2 cl cl0 n2 n3
    have s1 : (1 : Int) ≤ (n : Int) + 1 := by omega
    have s2 : (1 : Int) ≤ ((n + 1 : Nat) : Int) := by omega
    have s3 : n + 1 - 1 = n := by omega
    have s4 : (n : Int) + 1 ≤ (c : Int) := by omega
    have s5 : ¬ c = 1 := by omega
    go_wp2_with fail
    go_loopg [58] n (fun q x58 ws => ∃ t : Nat, t ≤ n ∧ q = n - t ∧ x58 = .int .i64 (t : Int) ∧ Hid (OpM W1 ws X RB LB n m vv (fun j => if j < t then oR f g n j else 0)))
    case atStart => exact ⟨0, by omega, rfl, rfl, HM⟩
    case round =>
      clear HM
      obtain ⟨t, htn, rfl, rfl, HM⟩ := hrel
      by_cases hlt : t < n
      · obtain ⟨b', o', e', hat⟩ := (HFD.out.kept HM.out.bel).at
        injection e' with e'; injection e' with e1 e2
        subst e1; subst e2
        obtain ⟨bk, ok, ck, rk⟩ := hat (t + 1) (by omega)
        have HRT := hid (fun W (h : Below wr.heap.size wr W) => troot_any (n - (t + 1)) (2 ^ (n - (t + 1))) bk ok (C (t + 1)) (fdQ f g n (t + 1)) W (by omega) rfl (HT.out.kept (HB1.out.trans ((HM.out.bel.trans (h.mono HM.out.bel.size)).mono HB1.out.size)) HT.out.1) (rk.kept h (rk.lt (Nat.two_pow_pos _))) (fdQ_nums f g n (t + 1) HR.out.2))
        have hor : rootQ (n - (t + 1)) (fdQ f g n (t + 1)) = oR f g n t := by unfold oR; rw [show n - 1 - t = n - (t + 1) from by omega]
        rw [hor] at HRT
        obtain ⟨L, hL⟩ : ∃ L, 2 ^ (n - (t + 1)) = L := ⟨_, rfl⟩
        rw [hL] at ck HRT
        obtain ⟨y, hy⟩ : ∃ y, oR f g n t = y := ⟨_, rfl⟩
        rw [hy] at HRT
        have HY := hid hy
        rw [show oa + (t + 1) = oa + 1 + t from by omega] at ck
        generalize C (t + 1) = cc at ck HRT
        have x0 := HM.out.box.c.c0
        have r0 := HM.out.rr t hlt
        have r1 := HM.out.rf t hlt
        rw [Nat.zero_add] at r0 r1
        rw [if_neg (Nat.lt_irrefl t)] at r0
        have hXl : X < wr.heap.size := World.block_lt_of_cell? wr _ x0
        have hRl := HM.out.lt.1
        have hne := HM.out.ne.1
        have t0 : (0 : Int) ≤ (t : Int) := by omega
        have t1 : (t : Int) < (n : Int) := by omega
        clear hat rk hor hL hy
        have HXS : Hid (∀ W : World, W.cell? ⟨X, 0, none⟩ = some (.slice (some ⟨RB, 0, none⟩) n n) → ∀ v, (W.setCell ⟨RB, t, none⟩ v).cell? ⟨X, 0, none⟩ = some (.slice (some ⟨RB, 0, none⟩) n n)) := hid (fun W h v => by rw [World.cell?_setCell_other _ _ _ _ (by intro e; simp only [Addr.mk.injEq] at e; exact hne e.1.symm)]; exact h)
        clear hne
        go_wp2_with fail
        go_region_held3 (fun W => W.cell? ⟨X, 0, none⟩ = some (.slice (some ⟨RB, 0, none⟩) n n)) (first | assumption | exact x0 | exact HX1.out | exact HXS.out _ HX1.out _) (first | (go_at_call 29; refine (HRT.out _ (by first | exact Below.refl _ _ | exact (Below.refl _ wr).drew)).mono ?_; rintro e w1 ⟨rfl, hb⟩; have hb2 : Below wr.heap.size wr w1 := (by first | exact hb | exact (Below.refl _ wr).drew.trans hb); clear hb; have r2 := (hb2.cell (p := ⟨RB, t, none⟩) hRl).trans r0; have r3 := (hb2.frozen (p := ⟨RB, t, none⟩) hRl).trans r1; have HX1 := hid ((hb2.cell (p := ⟨X, 0, none⟩) hXl).trans x0); have HM1 := hid (HM.out.kept hb2); clear hb2))
        have HM2 : Hid (OpM W1 (w1.setCell ⟨RB, t, none⟩ (.int .u64 y)) X RB LB n m vv (fun j => if j < t + 1 then oR f g n j else 0)) := hid (HM1.out.putR hlt y _ (fun j _ => lev_step (oR f g n) t j y HY.out.symm))
        go_wp2_with fail
        go_roundg (n - (t + 1))
        case measure => go_light; omega
        case rel => exact ⟨t + 1, by omega, rfl, by go_num, (by first | exact HM2 | exact hid HM2.out.drew)⟩
      · have e : t = n := by omega
        subst e
        have x2 := HM.out.box.c.c2
        have HPM : Hid (Row wr RB 0 t (oR f g t)) := hid (HM.out.rr.congr fun j hj => by rw [if_pos hj])
        have HLT := hid (HM.out.looks (fun _ => 0) (fun _ => 0))
        go_wp2_with fail
        clear x2
        go_loopg [76] m (fun q x76 ws => ∃ (k : Nat) (pb tb : Nat → Nat), k ≤ m ∧ q = m - k ∧ x76 = .int .i64 (k : Int) ∧ Hid (LkT W1 ws X RB LB t m k vv (fun j => if j < t then oR f g t j else 0) pb tb))
        case atStart => exact ⟨0, _, _, by omega, rfl, rfl, HLT⟩
        case round =>
          clear HLT HM HPM
          obtain ⟨k, pb, tb, hkm, rfl, rfl, HK⟩ := hrel
          by_cases hkl : k < m
          · have x2 := HK.out.box.c2
            obtain ⟨l0, l1⟩ := HK.out.todo k (Nat.le_refl _) hkl
            have f0 := HK.out.fl (2 * k) (by omega)
            have f1 := HK.out.fl (2 * k + 1) (by omega)
            rw [Nat.mul_comm 2 k] at l0 l1 f0 f1
            have hXl := HK.out.lt.1
            have hLl := HK.out.lt.2.2
            have hm1 := run_make_prs t (by omega)
            have hm2 := run_make_pts t (by omega)
            have k0 : (0 : Int) ≤ (k : Int) := by omega
            have k1 : (k : Int) < (m : Int) := by omega
            have HXS : Hid (∀ W : World, W.cell? ⟨X, 2, none⟩ = some (.slice (some ⟨LB, 0, none⟩) m m) → ∀ u v, ((W.setCell ⟨LB, k * 2, none⟩ u).setCell ⟨LB, k * 2 + 1, none⟩ v).cell? ⟨X, 2, none⟩ = some (.slice (some ⟨LB, 0, none⟩) m m)) := hid (fun W h u v => by
              rw [World.cell?_setCell_other _ _ _ _ (by intro e; simp only [Addr.mk.injEq] at e; exact HK.out.ne.2.1 e.1.symm), World.cell?_setCell_other _ _ _ _ (by intro e; simp only [Addr.mk.injEq] at e; exact HK.out.ne.2.1 e.1.symm)]; exact h)
            have la : ∀ x y : Obj, ((wr.alloc x).alloc y).cell? ⟨LB, k * 2, none⟩ = some (.slice none 0 0) := fun x y => keepC (bel_new _ _) (keepC (bel_new _ _) l0)
            have lb : ∀ x y : Obj, ((wr.alloc x).alloc y).cell? ⟨LB, k * 2 + 1, none⟩ = some (.slice none 0 0) := fun x y => keepC (bel_new _ _) (keepC (bel_new _ _) l1)
            have fa : ∀ x y : Obj, ((wr.alloc x).alloc y).frozen? ⟨LB, k * 2, none⟩ = false := fun x y => ((bel_new _ y).frozen (p := ⟨LB, k * 2, none⟩) (by simp; omega)).trans (((bel_new _ x).frozen (p := ⟨LB, k * 2, none⟩) hLl).trans f0)
            have fb : ∀ x y : Obj, ((wr.alloc x).alloc y).frozen? ⟨LB, k * 2 + 1, none⟩ = false := fun x y => ((bel_new _ y).frozen (p := ⟨LB, k * 2 + 1, none⟩) (by simp; omega)).trans (((bel_new _ x).frozen (p := ⟨LB, k * 2 + 1, none⟩) hLl).trans f1)
            have HXA : Hid (∀ x y : Obj, ((wr.alloc x).alloc y).cell? ⟨X, 2, none⟩ = some (.slice (some ⟨LB, 0, none⟩) m m)) := hid (fun x y => keepC (bel_new _ _) (keepC (bel_new _ _) x2))
            go_wp2_with fail
            go_region_held3 (fun W => W.cell? ⟨X, 2, none⟩ = some (.slice (some ⟨LB, 0, none⟩) m m)) (first | assumption | exact x2 | (with_reducible refine cellD ?_; with_reducible refine keepC (bel_new _ _) ?_; with_reducible refine keepC (bel_new _ _) ?_; with_reducible exact HXS.out _ x2 _ _) | (with_reducible refine cellD ?_; first | with_reducible exact x2 | (with_reducible refine keepC (bel_new _ _) ?_; with_reducible exact x2) | with_reducible exact HXA.out _ _ | with_reducible exact HXS.out _ (HXA.out _ _) _ _) | (with_reducible refine keepC (bel_new _ _) ?_; with_reducible exact x2) | with_reducible exact HXA.out _ _ | with_reducible exact HXS.out _ (HXA.out _ _) _ _) (fail)
            all_goals (go_wp2_with fail)
            all_goals (go_roundg (m - (k + 1)))
            all_goals first | (go_light; omega) | skip
            all_goals first
              | exact ⟨k + 1, _, _, by omega, rfl, by go_num, hid ((HK.out.next2 hkl (heap2_0 _ _ _) (heap2_1 _ _ _) (Nat.le_refl _) (by omega) (by omega)).drew)⟩
              | exact ⟨k + 1, _, _, by omega, rfl, by go_num, hid ((HK.out.next2 hkl (heap2_1 _ _ _) (heap2_0 _ _ _) (by omega) (Nat.le_refl _) (by omega)).drew)⟩
          · have e : k = m := by omega
            subst e
            have HLM := hid HK.out.all
            have s6 : (0 : Int) ≤ (t : Int) := by omega
            have s7 : (t : Int) ≤ (c : Int) := by omega
            have HSL : Hid (∀ c, LkM.S k pb tb c → W1.heap.size ≤ c ∧ c < wr.heap.size) := hid (fun c ⟨q, hq, h⟩ => by rcases h with rfl | rfl; exact ⟨(HK.out.hi q hq).1, (HK.out.hi q hq).2.2.1⟩; exact ⟨(HK.out.hi q hq).2.1, (HK.out.hi q hq).2.2.2⟩)
            have HXS : Hid (¬ LkM.S k pb tb X ∧ ¬ LkM.S k pb tb RB) := hid ⟨fun ⟨q, hq, h⟩ => by have := HK.out.far q hq; rcases h with h | h <;> omega, fun ⟨q, hq, h⟩ => by have := HK.out.far q hq; rcases h with h | h <;> omega⟩
            have HT0 : Hid (Told3 W1.heap.size wr (LkM.S k pb tb) f g t k 0 pl (fun _ _ _ => 0) (fun _ _ _ => .slice none 0 0)) := hid (fun k' i' e' _ h => absurd h (by omega))
            go_wp2_with fail
            obtain ⟨wL, rfl⟩ : ∃ x, x = wr := ⟨wr, rfl⟩
            go_loopg [93] t (fun q x93 ws => ∃ (i : Nat) (pv : Nat → Nat → Nat → Int) (tv : Nat → Nat → Nat → Value), i ≤ t ∧ q = t - i ∧ x93 = .int .i64 (i : Int) ∧ Hid (LkM ws W1.heap.size LB t k pb tb pv tv) ∧ Hid (ButS (LkM.S k pb tb) wL ws) ∧ Hid (Told3 W1.heap.size ws (LkM.S k pb tb) f g t k i pl pv tv))
            case atStart => exact ⟨0, _, _, by omega, rfl, rfl, HLM, hid (ButS.refl _ _), HT0⟩
            case round =>
              clear HLM HT0
              obtain ⟨i, pv, tv, hit, rfl, rfl, HM, HS, HD⟩ := hrel
              have hE1 : Below W1.heap.size W1 wr := HK.out.bel.trans (HS.out.below (fun c hc => (HSL.out c hc).1) HK.out.bel.size)
              have hW : Below w.heap.size w wr := HB1.out.trans (hE1.mono HB1.out.size)
              have x0 := HS.out.cell HK.out.box.c0 HXS.out.1
              have x1 := HS.out.cell HK.out.box.c1 HXS.out.1
              have x2 := HS.out.cell HK.out.box.c2 HXS.out.1
              by_cases hlt2 : i < t
              · obtain ⟨b', o', e', hat⟩ := HFD.out.at
                injection e' with e'; injection e' with e1 e2
                subst e1; subst e2
                obtain ⟨bk, ok, ck, rk⟩ := hat i (by omega)
                have hbl := rk.lt (Nat.two_pow_pos _)
                have ck := (hE1.cell (p := ⟨ba, oa + i, none⟩) (World.block_lt_of_cell? W1 _ ck)).trans ck
                have rk := rk.kept hE1 hbl
                have HLI := hid (lookInto_ok W1.heap.size LB t k i (t - i) (hfQ t i) (2 ^ (t - i)) bk ok (C i) cpl apl pb tb pv tv (fdQ f g t i) pl wr hlt2 (by omega) (by omega) rfl (hfQ_all hlt2).symm m32 (HT.out.kept hW HT.out.1) rk (fdQ_nums f g t i HR.out.2) (HI.out.kept hW) (fun j hj => by have h1 := HPL.out.2 j hj; have h2 := hfQ_le (k := 0) n8; dsimp only at h1; omega) HM.out (fun h => by have := (HSL.out _ h).1; omega))
                obtain ⟨L, hL⟩ : ∃ L, 2 ^ (t - i) = L := ⟨_, rfl⟩
                rw [hL] at ck HLI
                generalize C i = cc at ck HLI
                have HSz : Hid (W1.heap.size ≤ wr.heap.size ∧ ∀ c, LkM.S k pb tb c → c < wr.heap.size) := hid ⟨hE1.size, fun c hc => Nat.lt_of_lt_of_le (HSL.out c hc).2 HS.out.size⟩
                have i0 : (0 : Int) ≤ (i : Int) := by omega
                have i1 : (i : Int) < (t : Int) := by omega
                clear hat rk hL hE1 hW hbl x0 x1
                go_wp2_with (go_at_call 40; refine (HLI.out).mono ?_; rintro e w9 ⟨rfl, a, hlm, hbs, hrow⟩; have HLM9 := hid hlm; have HBS9 := hid hbs; have HRW9 := hid hrow; clear hlm hbs hrow)
                go_roundg (t - (i + 1))
                case measure => go_light; omega
                case rel => exact ⟨i + 1, _, _, by omega, rfl, by go_num, HLM9, hid (HS.out.trans HBS9.out), hid (HD.out.next HSz.out.1 HBS9.out HSz.out.2 HRW9.out)⟩
              · have e : i = t := by omega
                subst e
                have hX0 : X0 < W1.heap.size := World.block_lt_of_cell? W1 _ HZ1.out.c.c0
                have HZ := hid ((hE1.cell (p := ⟨X0, 0, none⟩) hX0).trans HZ1.out.c.c0)
                have z0 := (hE1.cell (p := ⟨X0, 0, none⟩) hX0).trans HZ1.out.c.c0
                have z1 := (hE1.cell (p := ⟨X0, 1, none⟩) hX0).trans HZ1.out.c.c1
                have z2 := (hE1.cell (p := ⟨X0, 2, none⟩) hX0).trans HZ1.out.c.c2
                have y0 := (hE1.frozen (p := ⟨X0, 0, none⟩) hX0).trans (HZ1.out.f 0 (by omega))
                have y1 := (hE1.frozen (p := ⟨X0, 1, none⟩) hX0).trans (HZ1.out.f 1 (by omega))
                have y2 := (hE1.frozen (p := ⟨X0, 2, none⟩) hX0).trans (HZ1.out.f 2 (by omega))
                have HRR : Hid (Row wr RB 0 i (oR f g i)) := hid (fun j hj => HS.out.cell (by have := HK.out.rr j hj; rw [if_pos hj] at this; exact this) HXS.out.2)
                have HRF : Hid (Free wr RB 0 i) := hid (fun j hj => (World.frozen?_of_block (HS.out.block RB HK.out.lt.2.1 HXS.out.2)).trans (HK.out.rf j hj))
                have HHX := hid hX0
                have HHW := hid hW
                clear hE1 hW hX0
                go_wp2_with fail
                have hsb := setB3 (p := .slice (some ⟨RB, 0, none⟩) i i) (q := .int .u64 vv) (r := .slice (some ⟨LB, 0, none⟩) k k) z0 z1 z2
                have hbut : ButS (fun c => c = X0) wr (((wr.setCell ⟨X0, 0, none⟩ (.slice (some ⟨RB, 0, none⟩) i i)).setCell ⟨X0, 1, none⟩ (.int .u64 vv)).setCell ⟨X0, 2, none⟩ (.slice (some ⟨LB, 0, none⟩) k k)) := but_set3 wr X0 _ _ _
                refine bodyPost_ret (results_opn rfl rfl hsb.c0 hsb.c1 hsb.c2) rfl ?_
                refine ⟨RB, LB, _, by rw [HVV.out]; rfl, fun j hj => hbut.cell (HRR.out j hj) ?_, (HM.out.but hbut HHX.out).opened (HD.out.but hbut HHX.out), ?_, (HM.out.but hbut HHX.out).owns (HD.out.but hbut HHX.out) HB1.out.size (Nat.le_trans HB1.out.size HK.out.lo.2.1) (fun j hj => by rw [World.frozen?_setCell, World.frozen?_setCell, World.frozen?_setCell]; exact HRF.out j hj)⟩
                · have h1 := HK.out.lo.2.1
                  have h2 := HHX.out
                  show ¬ RB = X0
                  omega
                · have h1 := HX0.out
                  exact ((HHW.out.setCell (by show w.heap.size ≤ X0; omega) _).setCell (by show w.heap.size ≤ X0; omega) _).setCell (by show w.heap.size ≤ X0; omega) _

theorem open_ok (n N b off cap cp m cpl : Nat) (ap apl : Option Addr) (f g : Nat → Int) (pl : Nat → Nat) (w : World) (n1 : 1 ≤ n) (n8 : n ≤ 8) (hN : N = 2 ^ n) (ht : Tab w) (hr : Row w b off N f) (hv : Nums f) (hp : PRow w ap n g) (hg : Nums g) (hi : IRowP w apl m fun j => (pl j : Int)) (hpl : plOk m n fun j => (pl j : Int)) :
    Calls Tryd.prog 11 #[.slice (some ⟨b, off, none⟩) N cap, .slice ap n cp, .slice apl m cpl] w fun e w' => ∃ rb lb mm, e = .returned (.tuple #[.agg #[.slice (some ⟨rb, 0, none⟩) n n, .int .u64 (fdQ f g n n 0), .slice (some ⟨lb, 0, none⟩) m m], .int .i64 0]) ∧ Row w' rb 0 n (oR f g n) ∧ OpRow w' (some ⟨lb, 0, none⟩) (rightO f g n m pl) mm ∧ Below w.heap.size w w' :=
  (open_own n N b off cap cp m cpl ap apl f g pl w n1 n8 hN ht hr hv hp hg hi hpl).mono fun e w' ⟨rb, lb, mm, h1, h2, h3, h4, _⟩ => ⟨rb, lb, mm, h1, h2, h3, h4⟩

end Go.Proofs.YtnnjajmkfgnhcaaDoor
