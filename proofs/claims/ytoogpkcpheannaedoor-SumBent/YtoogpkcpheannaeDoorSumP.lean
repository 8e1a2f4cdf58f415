/-
  Contracts of package sum's Prove, for every list of lists and every list of draws: the right rounds, and what the tables have left; it makes new rows and writes nothing that was there.
-/
import Derived.Test.YtoogpkcpheannaeDoorSumB
namespace Go.Proofs.YtoogpkcpheannaeDoor
open Go.RowKit
set_option linter.unusedVariables false
attribute [local go_sem ↓] Go.wp_at_zero Go.wp_at_succ

set_option maxHeartbeats 1000000 in
theorem sprove_no (ao ad : Option Addr) (m cap nd cd : Nat) (A : Nat → Option Addr) (L C : Nat → Nat) (F : Nat → Nat → Int) (w : World) (ht : Tab w) (h : NoFacts w ao m A L C F) :
    Calls Tryd.prog 17 #[.slice ao m cap, .slice ad nd cd] w fun e w' => e = .returned (.tuple #[.slice none 0 0, .slice none 0 0, .int .i64 4]) ∧ w' = w := by
  have HC := hid (scheck_no ao m cap A L C F w ht h)
  clear ht h
  go_enter Tryd.func17, Tryd.ntmps17
  go_wp2_with (go_at_call 34; refine (HC.out).mono ?_; rintro e w' ⟨rfl, hw⟩; obtain rfl := hw.symm)
  go_ret3
  exact ⟨rfl, rfl⟩
set_option maxHeartbeats 1000000 in
theorem sprove_arg (B o m cap : Nat) (bv ov cv : Nat → Nat) (F : Nat → Nat → Int) (n N : Nat) (ad : Option Addr) (nd cd : Nat) (w : World) (hm1 : 1 ≤ m) (hm : m ≤ 3) (hn : n ≤ 8) (hN : N = 2 ^ n) (ht : Tab w) (hl : Tabs w B o m bv ov cv N F) (hd : nd ≠ n) :
    Calls Tryd.prog 17 #[.slice (some ⟨B, o, none⟩) m cap, .slice ad nd cd] w fun e w' => e = .returned (.tuple #[.slice none 0 0, .slice none 0 0, .int .i64 1]) ∧ w' = w := by
  have HC := hid (scheck_ok B o m cap bv ov cv F n N w hm1 hm hn hN ht hl)
  have hb : ((nd : Int) != (n : Int)) = true := bne_iff_ne.2 (by omega)
  clear ht hl hN hd
  go_enter Tryd.func17, Tryd.ntmps17
  go_wp2_with (go_at_call 34; refine (HC.out).mono ?_; rintro e w' ⟨rfl, hw⟩; obtain rfl := hw.symm)
  go_ret3
  exact ⟨rfl, rfl⟩

/-- The right rounds' values. -/
def rightF (F : Nat → Nat → Int) (m n : Nat) (D : Nat → Int) (i j : Nat) : Int := ofK (rightK (kF F) m n (fun j => kk (D j)) i (kn j))
theorem Nums_right (F : Nat → Nat → Int) (m n : Nat) (D : Nat → Int) (i : Nat) : Nums (rightF F m n D i) := fun j => ofK_u64 _
theorem half_is {n k H : Nat} (hk : k < n) (h : 2 * H = 2 ^ (n - k)) : H = 2 ^ (n - 1 - k) := by
  rw [show n - k = (n - 1 - k) + 1 from by omega, Nat.pow_succ] at h
  omega
theorem right_of {F G : Nat → Nat → Int} {D : Nat → Int} {m n k H : Nat} (hk : k < n) (hm1 : 1 ≤ m) (hf : ∀ i, i < m → Folded (F i) D n k (2 * H) (G i)) (j : Nat) : ofK (roundK (kF G) m H (kn j)) = rightF F m n D k j := by
  unfold rightF rightK
  rw [← half_is hk (hf 0 (by omega)).1]
  congr 1
  exact roundK_congr m H _ fun i b hi hb => (hf i hi).2.2 b (by omega)
/-- What holds behind one round's store. -/
theorem prove_store {w wr w1 : World} {n k m H Bk ok : Nat} {bk ovk ck2 a : Nat → Nat} {F G : Nat → Nat → Int} {D : Nat → Int} (hlt : k < n) (hm1 : 1 ≤ m) (hH : 1 ≤ H) (ht : Tab w) (hy : Lays w wr n k (m + 1) a (rightF F m n D)) (htb : Tabs wr Bk ok m bk ovk ck2 (2 * H) G) (hne : Bk ≠ w.heap.size ∧ ∀ i, i < m → bk i ≠ w.heap.size)
    (hf : ∀ i, i < m → Folded (F i) D n k (2 * H) (G i)) (hM : Made wr w1 (m + 1) (fun j => ofK (roundK (kF G) m H (kn j)))) :
    Lays w (w1.setCell ⟨w.heap.size, k, none⟩ (.slice (some ⟨wr.heap.size, 0, none⟩) (m + 1) (m + 1))) n (k + 1) (m + 1) (putA a k wr.heap.size) (rightF F m n D)
    ∧ Tab (w1.setCell ⟨w.heap.size, k, none⟩ (.slice (some ⟨wr.heap.size, 0, none⟩) (m + 1) (m + 1)))
    ∧ Tabs (w1.setCell ⟨w.heap.size, k, none⟩ (.slice (some ⟨wr.heap.size, 0, none⟩) (m + 1) (m + 1))) Bk ok m bk ovk ck2 (2 * H) G := by
  have hM2 : Made wr w1 (m + 1) (rightF F m n D k) := hM.congr fun j _ => right_of hlt hm1 hf j
  have h1 := (hy.next hlt (by omega) hM2.below (Nat.le_refl _) hM2.row hM2.free).congr (G := rightF F m n D) fun i j _ _ => putF_same _ k i j
  exact ⟨h1, ht.kept h1.below ht.1, (htb.kept hM.below (by omega)).wrote ((Wrote.refl w.heap.size k 1 w1).store (Nat.le_refl _) (by omega) _) hne.1 hne.2⟩
/-- What is left, as far as it is told. -/
def leftF (G : Nat → Nat → Int) (k : Nat) (j : Nat) : Int := if j < k then nrm (G j 0) else 0
theorem left_step (G : Nat → Nat → Int) (k j : Nat) (y : Int) (hy : G k 0 = y) : (if j = k then nrm y else leftF G k j) = leftF G (k + 1) j := by
  unfold leftF
  by_cases e : j = k
  · subst e
    rw [if_pos rfl, if_pos (by omega), hy]
  · rw [if_neg e]
    by_cases h2 : j < k
    · rw [if_pos h2, if_pos (by omega)]
    · rw [if_neg h2, if_neg (by omega)]

set_option maxHeartbeats 8000000 in
set_option maxRecDepth 100000 in
theorem sprove_own (B o m cap : Nat) (bv ov cv : Nat → Nat) (F : Nat → Nat → Int) (n N : Nat) (ad : Option Addr) (cd : Nat) (D : Nat → Int) (w : World) (hm1 : 1 ≤ m) (hm : m ≤ 3) (hn : n ≤ 8) (hN : N = 2 ^ n) (ht : Tab w) (hl : Tabs w B o m bv ov cv N F) (hv : ∀ i, i < m → Nums (F i)) (hd : PRow w ad n D) (hD : Nums D) :
    Calls Tryd.prog 17 #[.slice (some ⟨B, o, none⟩) m cap, .slice ad n cd] w fun e w' => ∃ (b2 : Nat) (a : Nat → Nat), e = .returned (.tuple #[.slice (some ⟨w.heap.size, 0, none⟩) n n, .slice (some ⟨b2, 0, none⟩) m m, .int .i64 0]) ∧ Lays w w' n n (m + 1) a (rightF F m n D) ∧ Row w' b2 0 m (fun i => ofK (evS (kF F i) (fun j => kk (D j)) n)) ∧ w.heap.size ≤ b2 ∧ Free w' b2 0 m := by
  have hN1 : 1 ≤ N := by rw [hN]; exact Nat.one_le_two_pow
  have hN2 : N ≤ 256 := by rw [hN]; exact pow_256 hn
  have HC := hid (scheck_ok B o m cap bv ov cv F n N w hm1 hm hn hN ht hl)
  have hmk := run_make_row' (P := Tryd.prog) 22 24 (.slice none 0 0) 24 Tryd.underlying22 Tryd.infoL rfl .i64 .i64 n (by omega) (by omega)
  have hst := Lays.start w n (m + 1) (fun _ => 0) (rightF F m n D) 24
  have HST := hid hst
  have HTB0 := hid (hl.kept hst.below hN1)
  have HNE0 : Hid (B ≠ w.heap.size ∧ ∀ i, i < m → bv i ≠ w.heap.size) := hid ⟨by have := hl.lt (by omega); omega, fun i hi => by have := (hl.row i hi).lt hN1; omega⟩
  have HF0 : Hid (∀ i, i < m → Folded (F i) D n 0 N (F i)) := hid (fun i hi => Folded.start hN (hv i hi))
  have HT := hid ht
  have HD := hid hd
  have HDD := hid hD
  clear ht hl hv hd hD hN hst
  go_enter Tryd.func17, Tryd.ntmps17
  go_wp2_with (go_at_call 34; refine (HC.out).mono ?_; rintro e w' ⟨rfl, hw⟩; obtain rfl := hw.symm)
  clear hmk HC
  go_loopg [0, 31] n (fun q l i wr => ∃ (k M Bk ok ck : Nat) (bk ovk ck2 a : Nat → Nat) (G : Nat → Nat → Int), k ≤ n ∧ q = n - k ∧ i = .int .i64 (k : Int) ∧ l = .slice (some ⟨Bk, ok, none⟩) m ck ∧ 1 ≤ M ∧ M ≤ 256 ∧ Hid (∀ i, i < m → Folded (F i) D n k M (G i)) ∧ Hid (Tabs wr Bk ok m bk ovk ck2 M G) ∧ Hid (Bk ≠ w.heap.size ∧ ∀ i, i < m → bk i ≠ w.heap.size) ∧ Hid (Lays w wr n k (m + 1) a (rightF F m n D)))
  case atStart => exact ⟨0, N, B, o, cap, bv, ov, cv, _, F, by omega, rfl, rfl, rfl, hN1, hN2, HF0, HTB0, HNE0, HST⟩
  case round =>
    clear HF0 HTB0 HNE0 HST
    obtain ⟨k, M, Bk, ok, ck, bk, ovk, ck2, a, G, hk, rfl, rfl, rfl, hM1, hM2, HF, HTB, HNE, HY⟩ := hrel
    by_cases hlt : k < n
    · obtain ⟨b2, off2, rfl, hr2⟩ := HD.out (by omega)
      obtain ⟨H, rfl, hH1⟩ := half_of hlt (HF.out 0 (by omega)).1
      have c1 := (hr2.kept HY.out.below (hr2.lt (by omega))) k hlt
      clear hr2
      obtain ⟨x, hx⟩ : ∃ x, D k = x := ⟨_, rfl⟩
      have bx := HDD.out k
      rw [hx] at c1 bx
      obtain ⟨x0, x1⟩ := bx
      have HX := hid hx
      clear hx
      have c2 := HY.out.todo k (Nat.le_refl _) hlt
      have f2 := HY.out.free k hlt
      have hHp := half_is hlt (HF.out 0 (by omega)).1
      have HHP := hid hHp
      have HR := hid (sround_any Bk ok m ck bk ovk ck2 G (n - 1 - k) H wr hm1 hm (by omega) hHp (HT.out.kept HY.out.below HT.out.1) HTB.out (fun i hi => (HF.out i hi).2.1))
      clear hHp
      have k0 : (0 : Int) ≤ (k : Int) := by omega
      have k1 : (k : Int) < (n : Int) := by omega
      go_wp2_with (go_at_call 39; refine (HR.out).mono ?_; rintro e w1 ⟨rfl, hm2⟩; have c3 := (hm2.below.cell HY.out.lt).trans c2; have f3 := (hm2.below.frozen HY.out.lt).trans f2; have hps := prove_store hlt hm1 hH1 HT.out HY.out HTB.out HNE.out HF.out hm2; have HPS := hid hps; clear hm2 hps)
      clear HR c2 f2 c3 f3 HTB
      generalize w1.setCell ⟨w.heap.size, k, none⟩ (.slice (some ⟨wr.heap.size, 0, none⟩) (m + 1) (m + 1)) = w2 at HPS ⊢
      refine (sfix_any Bk ok m ck bk ovk ck2 G (n - 1 - k) H x w2 hm1 hm (by omega) HHP.out HPS.out.2.1 HPS.out.2.2 (fun i hi => (HF.out i hi).2.1) x0 x1).mono ?_
      rintro e w3 ⟨rfl, a2, hy⟩
      have HY2 := hid hy
      clear hy
      go_wp2_with fail
      go_roundg (n - (k + 1))
      case measure => go_light; omega
      case rel =>
        have hlt2 := HPS.out.1.lt
        exact ⟨k + 1, H, w2.heap.size, 0, m, a2, _, _, _, _, by omega, rfl, by go_num, rfl, hH1, by omega, hid (fun i hi => (HF.out i hi).next hlt HX.out), hid HY2.out.tabs, hid ⟨by omega, fun i hi => by have := (HY2.out.high i hi).1; omega⟩, hid (HPS.out.1.kept HY2.out.below)⟩
    · have e : k = n := by omega
      subst e
      have hM : M = 1 := by have := (HF.out 0 (by omega)).1; rw [Nat.sub_self, Nat.pow_zero] at this; exact this
      subst hM
      have hmk := run_make_row' (P := Tryd.prog) 24 23 (.int .u64 0) 8 Tryd.underlying24 Tryd.infoM rfl .i64 .i64 m (by omega) (by omega)
      go_wp2_with fail
      clear hmk
      go_loopg [50] m (fun q i wq => ∃ t : Nat, t ≤ m ∧ q = m - t ∧ i = .int .i64 (t : Int) ∧ Hid (Made wr wq m (leftF G t)))
      case atStart => exact ⟨0, by omega, rfl, rfl, hid ((Made.start wr m 23).congr fun j _ => by rw [leftF, if_neg (by omega)])⟩
      case round =>
        obtain ⟨t, ht, rfl, rfl, HM⟩ := hrel
        by_cases hlt2 : t < m
        · have htb := HTB.out.kept HM.out.below (by omega)
          have c1 := htb.cell t hlt2
          have c2 := htb.row t hlt2 0 (by omega)
          rw [Nat.add_zero] at c2
          have c3 := HM.out.cell t hlt2
          have f3 := HM.out.frozen t hlt2
          obtain ⟨y, hy⟩ : ∃ y, G t 0 = y := ⟨_, rfl⟩
          obtain ⟨z, hz⟩ : ∃ z, leftF G t t = z := ⟨_, rfl⟩
          have by1 := (HF.out t hlt2).2.1 0
          rw [hy] at c2 by1
          rw [hz] at c3
          obtain ⟨y0, y1⟩ := by1
          have HYY := hid hy
          clear hy hz htb
          have t0 : (0 : Int) ≤ (t : Int) := by omega
          have t1 : (t : Int) < (m : Int) := by omega
          go_wp2_with (go_at_call 14; refine (norm_any _ _ (by omega) (by omega)).mono ?_; rintro e w' ⟨rfl, hw⟩; obtain rfl := hw.symm)
          go_roundg (m - (t + 1))
          case measure => go_light; omega
          case rel => exact ⟨t + 1, by omega, rfl, by go_num, hid ((HM.out.store t _ hlt2).congr fun j _ => left_step G t j y HYY.out)⟩
        · have e : t = m := by omega
          subst e
          go_wp2_with fail
          go_ret3
          exact ⟨_, _, rfl, HY.out.kept HM.out.below, HM.out.row.congr (fun j hj => by rw [leftF, if_pos hj]; exact (HF.out j hj).done), HY.out.below.size, HM.out.free⟩
theorem sprove_ok (B o m cap : Nat) (bv ov cv : Nat → Nat) (F : Nat → Nat → Int) (n N : Nat) (ad : Option Addr) (cd : Nat) (D : Nat → Int) (w : World) (hm1 : 1 ≤ m) (hm : m ≤ 3) (hn : n ≤ 8) (hN : N = 2 ^ n) (ht : Tab w) (hl : Tabs w B o m bv ov cv N F) (hv : ∀ i, i < m → Nums (F i)) (hd : PRow w ad n D) (hD : Nums D) :
    Calls Tryd.prog 17 #[.slice (some ⟨B, o, none⟩) m cap, .slice ad n cd] w fun e w' => ∃ (b2 : Nat) (a : Nat → Nat), e = .returned (.tuple #[.slice (some ⟨w.heap.size, 0, none⟩) n n, .slice (some ⟨b2, 0, none⟩) m m, .int .i64 0]) ∧ Lays w w' n n (m + 1) a (rightF F m n D) ∧ Row w' b2 0 m (fun i => ofK (evS (kF F i) (fun j => kk (D j)) n)) :=
  (sprove_own B o m cap bv ov cv F n N ad cd D w hm1 hm hn hN ht hl hv hd hD).mono fun e w' ⟨b2, a, h1, h2, h3, _⟩ => ⟨b2, a, h1, h2, h3⟩

end Go.Proofs.YtoogpkcpheannaeDoor
