/-
  Several texts in one: DkD, DkE, DkF; each opens with what it holds.
-/
import Derived.Test.YtiohbjnnfkadnaaGreatDoorMDkA
import Derived.Test.YtiohbjnnfkadnaaGreatDoorMTx
import Derived.Test.YtiohbjnnfkadnaaGreatDoorMSum
import Derived.Test.YtiohbjnnfkadnaaGreatDoorMFiat
/-
  Contracts of the functions that desk hands a circuit to: show's, run's, prove's; they make new blocks and write nothing that was there.
-/
namespace Go.Proofs.YtiohbjnnfkadnaaGreatDoor
open Go.RowKit Go.PlainAid
set_option linter.unusedVariables false
attribute [local go_sem ↓] Go.wp_at_zero Go.wp_at_succ

theorem dbel (w : World) (x : Obj) : Below w.heap.size w (w.alloc x) := (Below.refl _ w).alloc (Nat.le_refl _) _

set_option maxHeartbeats 2000000 in
set_option maxRecDepth 100000 in
theorem shw_any (c : CQ) (g : Int) (b off n cap : Nat) (A : Nat → Option Addr) (C : Nat → Nat) (w : World) (hg : c.log = g) (hn : c.layers.length = n) (hc : c.right) (hr : CRow w (some ⟨b, off, none⟩) c.layers A C) :
    Calls Tryz.prog 73 #[.agg #[.int .i64 g, .slice (some ⟨b, off, none⟩) n cap]] w fun e w' => e = .returned (.string (sB (printQ c ++ [111, 107]))) ∧ Below w.heap.size w w' := by
  have HP := hid (fun W (h : Below w.heap.size w W) => print_ok c g b off n cap A C W hg hn hc (hr.kept h))
  have HB := hid (dbel w (.cells #[.int .i64 g, .slice (some ⟨b, off, none⟩) n cap] 88))
  have HX := hid (Box2.new w (.int .i64 g) (.slice (some ⟨b, off, none⟩) n cap) 88)
  clear hg hn hc hr
  obtain ⟨y0, y1, yl⟩ := HX.out
  go_enter Tryz.func73, Tryz.ntmps73
  go_wp2_with fail
  generalize w.alloc (.cells #[.int .i64 g, .slice (some ⟨b, off, none⟩) n cap] 88) = W1 at HB HX y0 y1 yl ⊢
  refine (HP.out _ HB.out).mono ?_
  rintro e w2 ⟨t, rfl, htx, hts, hb⟩
  have HB2 := hid (HB.out.trans (hb.mono HB.out.size))
  have HT : Hid (t ++ (⟨#[111, 107]⟩ : ByteArray) = sB (printQ c ++ [111, 107])) := hid (by rw [← sB_add, ← htx, ← sB_of]; rfl)
  clear hb htx y0 y1 yl
  go_wp2_with fail
  go_ret
  exact ⟨by rw [← HT.out]; rfl, HB2.out⟩

/-- What run tells. -/
noncomputable def runD (c : CQ) (a : List Nat) : List UInt8 := open Classical in if a.length ≠ lenQ c 0 then wrongD 4 else saidD (outD c a)
set_option maxHeartbeats 4000000 in
set_option maxRecDepth 100000 in
theorem run1_any (c : CQ) (g : Int) (b off n cap : Nat) (A : Nat → Option Addr) (C : Nat → Nat) (P : Nat) (ai : Option Addr) (ni ci : Nat) (a : List Nat) (w : World) (hg : c.log = g) (hn : c.layers.length = n) (hc : c.right) (hr : CRow w (some ⟨b, off, none⟩) c.layers A C)
    (ha : NLst w ai ni ci a) (hp : w.cell? ⟨P, 0, none⟩ = some (.slice ai ni ci)) (ht : DW w) :
    Calls Tryz.prog 75 #[.agg #[.int .i64 g, .slice (some ⟨b, off, none⟩) n cap], .pointer (some ⟨P, 0, none⟩)] w fun e w' => e = .returned (.string (sB (runD c a))) ∧ Below w.heap.size w w' := by
  obtain ⟨gn, N, rfl, gn4, sh, hN, N1, N16, hNk⟩ := right_nums hg hn hc
  have HB := hid (dbel w (.cells #[.int .i64 (gn : Int), .slice (some ⟨b, off, none⟩) n cap] 88))
  have HX := hid (Box2.new w (.int .i64 (gn : Int)) (.slice (some ⟨b, off, none⟩) n cap) 88)
  have hp1 := dkeep HB.out hp
  have HG := hid hg
  have HN := hid hn
  have HC := hid hc
  have HR := hid hr
  have HA := hid ha
  have HT := hid ht
  have HSH := hid sh
  have HLN := hid hN
  have hn4 : n ≤ 4 := by have := hc.few; omega
  clear hg hn hc hr ha hp ht sh hN hNk
  obtain ⟨y0, y1, yl⟩ := HX.out
  by_cases hna : ni = N
  · subst hna
    obtain ⟨ba, oa, rfl, hra⟩ := HA.out.row (by omega)
    have HRU := hid (fun W (h : Below w.heap.size w W) => run_ok c gn b off n cap A C ba oa ni ci (fOf a) W HG.out HN.out (HR.out.kept h) HC.out HSH.out HLN.out N16 N1 (hra.kept h (hra.lt N1)) HA.out.nums)
    have hK := lenQ_rng HC.out n (by rw [HN.out]; exact Nat.le_refl _)
    obtain ⟨K, hKe⟩ : ∃ K, lenQ c n = K := ⟨_, rfl⟩
    rw [hKe] at hK
    have HA2 : Hid (sB (saidD (outD c a)) = sB (runD c a)) := hid (by
      unfold runD
      rw [if_neg (by rw [HA.out.len, HLN.out]; simp)])
    have HOL : Hid ((outD c a).length = K) := hid (by rw [outD_len, HN.out, hKe])
    have HKE := hid hKe
    have s9 : IntKind.i64.wrap ((n : Int) + 1 - 1) = (n : Int) := by rw [show (n : Int) + 1 - 1 = (n : Int) from by omega]; exact IntWalk.i64_in _ (by omega)
    have n0 : (0 : Int) ≤ (n : Int) := by omega
    have n1 : (n : Int) < (n : Int) + 1 := by omega
    clear hra hKe
    go_enter Tryz.func75, Tryz.ntmps75
    go_wp2_with fail
    generalize w.alloc (.cells #[.int .i64 (gn : Int), .slice (some ⟨b, off, none⟩) n cap] 88) = W1 at HB HX y0 y1 yl hp1 ⊢
    refine (HRU.out _ HB.out).mono ?_
    rintro e w2 ⟨V, D, rfl, ho⟩
    have HB2 := hid (HB.out.trans (ho.below.mono HB.out.size))
    have cl := ho.cell n (by omega)
    have hrow := ho.row n (by omega)
    rw [HKE.out] at cl hrow
    have HTN := hid (tellNs_any (outD c a) (D n) 0 K K w2 HOL.out hK.1 (by omega) (outD_rng c a) (hrow.congr fun j hj => by
      rw [outD_at c a (by rw [HN.out, HKE.out]; exact hj), HN.out]) (HT.out.kept HB2.out))
    rw [HA2.out] at HTN
    obtain ⟨dk, hdk⟩ : ∃ dk, D n = dk := ⟨_, rfl⟩
    rw [hdk] at cl HTN
    clear ho hrow hdk y0 y1 yl hp1 HRU
    go_wp2_with fail
    refine (HTN.out).mono ?_
    rintro e w3 ⟨rfl, hb⟩
    have HB3 := hid (HB2.out.trans (hb.mono HB2.out.size))
    clear hb cl
    go_wp2_with fail
    go_ret
    exact ⟨rfl, HB3.out⟩
  · have HRU := hid (fun W (h : Below w.heap.size w W) => run_form c gn (some ⟨b, off, none⟩) n cap A C ai ni ci N W HG.out HN.out (HR.out.kept h) HC.out HSH.out hna)
    have HA2 : Hid (sB (wrongD 4) = sB (runD c a)) := hid (by
      unfold runD
      rw [if_pos (by rw [HA.out.len, HLN.out]; exact hna)])
    clear hna
    go_enter Tryz.func75, Tryz.ntmps75
    go_wp2_with fail
    generalize w.alloc (.cells #[.int .i64 (gn : Int), .slice (some ⟨b, off, none⟩) n cap] 88) = W1 at HB HX y0 y1 yl hp1 ⊢
    refine (HRU.out _ HB.out).mono ?_
    rintro e w2 ⟨rfl, hb⟩
    have HB2 := hid (HB.out.trans (hb.mono HB.out.size))
    have HTE := hid (tellE_any 4 w2 (by omega) (HT.out.kept HB2.out))
    rw [HA2.out] at HTE
    clear hb y0 y1 yl hp1 HRU
    go_wp2_with fail
    refine (HTE.out).mono ?_
    rintro e w3 ⟨rfl, hb⟩
    have HB3 := hid (HB2.out.trans (hb.mono HB2.out.size))
    clear hb
    go_wp2_with fail
    go_ret
    exact ⟨rfl, HB3.out⟩

/-- What prove tells. -/
noncomputable def prvD (c : CQ) (a b : List Nat) : List UInt8 := open Classical in if a.length ≠ lenQ c 0 then wrongD 4 else if b.length ≠ lenQ c c.layers.length then wrongD 4 else if HoldD c a b then [104, 111, 108, 100, 115] else [102, 97, 105, 108, 115]
set_option maxHeartbeats 4000000 in
set_option maxRecDepth 100000 in
theorem prv1_any (c : CQ) (g : Int) (b off n cap : Nat) (A : Nat → Option Addr) (C : Nat → Nat) (P Q : Nat) (ai ay : Option Addr) (ni ci no co : Nat) (a y : List Nat) (w : World) (hg : c.log = g) (hn : c.layers.length = n) (hc : c.right) (hr : CRow w (some ⟨b, off, none⟩) c.layers A C)
    (ha : NLst w ai ni ci a) (hy : NLst w ay no co y) (hp : w.cell? ⟨P, 0, none⟩ = some (.slice ai ni ci)) (hq : w.cell? ⟨Q, 0, none⟩ = some (.slice ay no co)) (ht : DW w) :
    Calls Tryz.prog 78 #[.agg #[.int .i64 g, .slice (some ⟨b, off, none⟩) n cap], .pointer (some ⟨P, 0, none⟩), .pointer (some ⟨Q, 0, none⟩)] w fun e w' => e = .returned (.string (sB (prvD c a y))) ∧ Below w.heap.size w w' := by
  obtain ⟨gn, N, rfl, gn4, sh, hN, N1, N16, hNk⟩ := right_nums hg hn hc
  have HB := hid (dbel w (.cells #[.int .i64 (gn : Int), .slice (some ⟨b, off, none⟩) n cap] 88))
  have HX := hid (Box2.new w (.int .i64 (gn : Int)) (.slice (some ⟨b, off, none⟩) n cap) 88)
  have hp1 := dkeep HB.out hp
  have HQ := hid hq
  have HG := hid hg
  have HN := hid hn
  have HC := hid hc
  have HR := hid hr
  have HA := hid ha
  have HY := hid hy
  have HT := hid ht
  have HSH := hid sh
  have HLN := hid hN
  have HNK := hid hNk
  have hn4 : n ≤ 4 := by have := hc.few; omega
  clear hg hn hc hr ha hy hp hq ht sh hN hNk
  obtain ⟨y0, y1, yl⟩ := HX.out
  by_cases hna : ni = N
  · subst hna
    obtain ⟨ba, oa, rfl, hra⟩ := HA.out.row (by omega)
    have HRA := hid hra
    have hK := lenQ_rng HC.out n (by rw [HN.out]; exact Nat.le_refl _)
    obtain ⟨K, hKe⟩ : ∃ K, lenQ c n = K := ⟨_, rfl⟩
    rw [hKe] at hK
    have HKE := hid hKe
    have HPV := hid (fun W (h : Below w.heap.size w W) => fpv_ok c gn b off n cap A C ba oa ni ci K (fOf a) W HG.out HN.out (HR.out.kept h) HC.out HSH.out HLN.out HKE.out (hra.kept h (hra.lt N1)) HA.out.nums (HT.out.kept h).tab)
    obtain ⟨pq, hpq⟩ : ∃ pq, fiatP c ni K (fOf a) = pq := ⟨_, rfl⟩
    unfold fproveOut at HPV
    rw [hpq] at HPV
    have hfn : pq.n = n := by rw [← hpq, ← HN.out]; unfold fiatP lastP; rfl
    have hsp : shapedQ c pq := by rw [← hpq]; exact fiatP_shaped c ni K (fOf a)
    have hnu : pq.nums := by rw [← hpq]; exact fiatP_nums c ni K (fOf a)
    have HPP := hid (And.intro hfn (And.intro hsp hnu))
    have HTL : Hid (K = 2 ^ (partsQ c).lg 0) := hid (by rw [← hKe]; exact top_len HN.out)
    have HPQ := hid hpq
    clear hra hKe hfn hsp hnu hpq
    go_enter Tryz.func78, Tryz.ntmps78
    go_wp2_with fail
    obtain ⟨X, hX⟩ : ∃ X, w.heap.size = X := ⟨_, rfl⟩
    have HXE := hid hX
    rw [hX] at HX y0 y1 ⊢
    clear hX
    generalize w.alloc (.cells #[.int .i64 (gn : Int), .slice (some ⟨b, off, none⟩) n cap] 88) = W1 at HB HX y0 y1 yl hp1 ⊢
    refine (HPV.out _ HB.out).mono ?_
    rintro e w2 ⟨dk, PB, pm, rfl, hrow, hpf, hlo, hfr, hb⟩
    have hal := dbel w2 (.cells #[.slice (some ⟨PB, 0, none⟩) n n] 97)
    have hbb := hb.trans (hal.mono hb.size)
    have HB2 := hid (HB.out.trans (hbb.mono HB.out.size))
    have HPF := hid (hpf.kept hal)
    have x0 := dkeep hbb y0
    have x1 := dkeep hbb y1
    have p1 := dkeep hbb hp1
    have q1 : (w2.alloc (.cells #[.slice (some ⟨PB, 0, none⟩) n n] 97)).cell? ⟨w2.heap.size, 0, none⟩ = some (.slice (some ⟨PB, 0, none⟩) n n) := by rw [World.cell?_alloc_new]; rfl
    have z1 := dkeep HB2.out HQ.out
    clear hb hal hbb hpf hrow hlo hfr y0 y1 yl hp1 HPV
    by_cases hno : no = K
    · subst hno
      obtain ⟨bo, oo, rfl, hro⟩ := HY.out.row (by omega)
      have HVF : Hid (∀ W, Below w.heap.size w W → PfRow W (some ⟨PB, 0, none⟩) pq pm → Calls Tryz.prog 80 #[.agg #[.int .i64 (gn : Int), .slice (some ⟨b, off, none⟩) n cap], .slice (some ⟨ba, oa, none⟩) ni ci, .slice (some ⟨bo, oo, none⟩) no co, .agg #[.slice (some ⟨PB, 0, none⟩) n n]] W fun e w' => ∃ r x, e = .returned (.tuple #[.bool r, .int .i64 x]) ∧ (x = 0 ∧ (r = true ↔ HoldD c a y)) ∧ Below W.heap.size W w') := hid (fun W h hpf => by
        refine (fvf_ok c (gn : Int) b off n cap A C ba oa ni ci bo oo no co (fOf a) (fOf y) (some ⟨PB, 0, none⟩) n n pq pm W HG.out HN.out (HR.out.kept h) HC.out HPP.out.1 hpf HPP.out.2.2 HPP.out.2.1 ⟨by rw [HN.out]; exact HNK.out, HTL.out⟩ (HRA.out.kept h (HRA.out.lt N1)) HA.out.nums (hro.kept h (hro.lt (by omega))) HY.out.nums (HT.out.kept h).tab).mono ?_
        rintro e w' ⟨r, x, h1, ⟨h2, h3⟩, h4⟩
        refine ⟨r, x, h1, ⟨h2, ?_⟩, h4⟩
        rw [h3]
        unfold HoldD
        rw [HA.out.len, HY.out.len, HPQ.out])
      have HA1 : Hid (∀ r : Bool, (r = true ↔ HoldD c a y) → sB (if r then [104, 111, 108, 100, 115] else [102, 97, 105, 108, 115]) = sB (prvD c a y)) := hid (fun r hr => by
        cases r with
        | true =>
          show sB [104, 111, 108, 100, 115] = _
          unfold prvD
          rw [if_neg (by rw [HA.out.len, HLN.out]; simp), if_neg (by rw [HY.out.len, HN.out, HKE.out]; simp), if_pos (hr.1 rfl)]
        | false =>
          show sB [102, 97, 105, 108, 115] = _
          unfold prvD
          rw [if_neg (by rw [HA.out.len, HLN.out]; simp), if_neg (by rw [HY.out.len, HN.out, HKE.out]; simp), if_neg (fun h => by have := hr.2 h; cases this)])
      clear hro
      go_wp2_with fail
      generalize w2.alloc (.cells #[.slice (some ⟨PB, 0, none⟩) n n] 97) = W3 at HB2 HPF x0 x1 p1 q1 z1 ⊢
      refine (HVF.out _ HB2.out HPF.out).mono ?_
      rintro e w4 ⟨r, xx, rfl, ⟨rfl, hrr⟩, hb⟩
      have HB4 := hid (HB2.out.trans (hb.mono HB2.out.size))
      have HTH := hid (tellH_any r w4)
      rw [HA1.out r hrr] at HTH
      clear hb hrr x0 x1 p1 q1 z1 HVF
      go_wp2_with fail
      refine (HTH.out).mono ?_
      rintro e w5 ⟨rfl, hw⟩
      obtain rfl := hw.symm
      go_wp2_with fail
      go_ret
      exact ⟨rfl, HB4.out⟩
    · have HVF : Hid (∀ W, Below w.heap.size w W → PfRow W (some ⟨PB, 0, none⟩) pq pm → Calls Tryz.prog 80 #[.agg #[.int .i64 (gn : Int), .slice (some ⟨b, off, none⟩) n cap], .slice (some ⟨ba, oa, none⟩) ni ci, .slice ay no co, .agg #[.slice (some ⟨PB, 0, none⟩) n n]] W fun e w' => e = .returned (.tuple #[.bool false, .int .i64 4]) ∧ Below W.heap.size W w') := hid (fun W h hpf => by
        refine (fvf_run c (gn : Int) b off n cap A C (some ⟨ba, oa, none⟩) ay ni ci no co (fOf a) (fOf y) (some ⟨PB, 0, none⟩) n n pq pm W (fun r x => r = false ∧ x = 4) HG.out HN.out (HR.out.kept h) HC.out HPP.out.1 hpf HPP.out.2.2 HPP.out.2.1 (HA.out.row.kept h) HA.out.nums (HY.out.row.kept h) HY.out.nums (hid fun W' bd cd h' _ _ _ => ?_)).mono ?_
        · have h2 := h.trans (h'.mono h.size)
          refine (vf_ends c (gn : Int) b off n cap A C (some ⟨PB, 0, none⟩) n n pq pm (some ⟨ba, oa, none⟩) ay (some ⟨bd, 0, none⟩) ni ci no co (needQ c) cd W' HG.out HN.out (HR.out.kept h2) HC.out HPP.out.1 (hpf.kept h') HPP.out.2.1 (fun h3 => hno (by rw [h3.2, HTL.out]))).mono ?_
          rintro e w' ⟨rfl, hb⟩
          exact ⟨false, 4, rfl, ⟨rfl, rfl⟩, hb⟩
        · rintro e w' ⟨r, x, rfl, ⟨rfl, rfl⟩, hb⟩
          exact ⟨rfl, hb⟩)
      have HA1 : Hid (sB (wrongD 4) = sB (prvD c a y)) := hid (by
        unfold prvD
        rw [if_neg (by rw [HA.out.len, HLN.out]; simp), if_pos (by rw [HY.out.len, HN.out, HKE.out]; exact hno)])
      clear hno
      go_wp2_with fail
      generalize w2.alloc (.cells #[.slice (some ⟨PB, 0, none⟩) n n] 97) = W3 at HB2 HPF x0 x1 p1 q1 z1 ⊢
      refine (HVF.out _ HB2.out HPF.out).mono ?_
      rintro e w4 ⟨rfl, hb⟩
      have HB4 := hid (HB2.out.trans (hb.mono HB2.out.size))
      have HTE := hid (tellE_any 4 w4 (by omega) (HT.out.kept HB4.out))
      rw [HA1.out] at HTE
      clear hb x0 x1 p1 q1 z1 HVF
      go_wp2_with fail
      refine (HTE.out).mono ?_
      rintro e w5 ⟨rfl, hb⟩
      have HB5 := hid (HB4.out.trans (hb.mono HB4.out.size))
      clear hb
      go_wp2_with fail
      go_ret
      exact ⟨rfl, HB5.out⟩
  · have HRU := hid (fun W (h : Below w.heap.size w W) => fpv_run (gn : Int) (some ⟨b, off, none⟩) n cap ai ni ci 4 W (by omega) (hid fun W' h' => run_form c gn (some ⟨b, off, none⟩) n cap A C ai ni ci N W' HG.out HN.out (HR.out.kept (h.trans (h'.mono h.size))) HC.out HSH.out hna))
    have HA2 : Hid (sB (wrongD 4) = sB (prvD c a y)) := hid (by
      unfold prvD
      rw [if_pos (by rw [HA.out.len, HLN.out]; exact hna)])
    clear hna
    go_enter Tryz.func78, Tryz.ntmps78
    go_wp2_with fail
    generalize w.alloc (.cells #[.int .i64 (gn : Int), .slice (some ⟨b, off, none⟩) n cap] 88) = W1 at HB HX y0 y1 yl hp1 ⊢
    refine (HRU.out _ HB.out).mono ?_
    rintro e w2 ⟨rfl, hb⟩
    have hal := dbel w2 (.cells #[.slice none 0 0] 97)
    have hbb := hb.trans (hal.mono hb.size)
    have HB2 := hid (HB.out.trans (hbb.mono HB.out.size))
    have HTE := hid (tellE_any 4 _ (by omega) (HT.out.kept HB2.out))
    rw [HA2.out] at HTE
    clear hb hal hbb y0 y1 yl hp1 HRU
    go_wp2_with fail
    refine (HTE.out).mono ?_
    rintro e w3 ⟨rfl, hb⟩
    have HB3 := hid (HB2.out.trans (hb.mono HB2.out.size))
    clear hb
    go_wp2_with fail
    go_ret
    exact ⟨rfl, HB3.out⟩

end Go.Proofs.YtiohbjnnfkadnaaGreatDoor

/-
  Contracts of desk's onCircuit, show, run, prove; they make new blocks and write nothing that was there.
-/
namespace Go.Proofs.YtiohbjnnfkadnaaGreatDoor
open Go.RowKit Go.PlainAid
set_option linter.unusedVariables false
attribute [local go_sem ↓] Go.wp_at_zero Go.wp_at_succ

theorem ownc_read {w : World} {base : Nat} {v : Value} {ps : List (LQ × Value)} (h : OwnC w base v ps) : ∃ va vc A C, v = .slice va ps.length vc ∧ ps.length ≤ vc ∧ vc ≤ maxLen ∧ CRow w va (ps.map (·.1)) A C := ⟨_, _, _, _, h.row⟩
/-- What is told of a text that can't be read. -/
def BadD (s : ByteArray) (T : List UInt8) : Prop := ∀ (c : CQ) (a k : Nat), parseE s.data.toList c a (k : Int) → k ≠ 0 → T = wrongD k ++ 32 :: Lib.decDigits a

set_option maxHeartbeats 4000000 in
set_option maxRecDepth 100000 in
theorem onc_show (d : Nat) (s : ByteArray) (T : List UInt8) (w : World) (ht : DW w) (hd : w.cell? ⟨d, 0, none⟩ = some (.string s)) (hE : BadD s T)
    (hF : ∀ (c : CQ) (a : Nat), parseE s.data.toList c a 0 → ∀ (g : Int) (b off n cap : Nat) (A : Nat → Option Addr) (C : Nat → Nat) (W : World), c.log = g → c.layers.length = n → CRow W (some ⟨b, off, none⟩) c.layers A C → Below w.heap.size w W → Calls Tryz.prog 73 #[.agg #[.int .i64 g, .slice (some ⟨b, off, none⟩) n cap]] W fun e w' => e = .returned (.string (sB T)) ∧ Below W.heap.size W w') :
    Calls Tryz.prog 72 #[.pointer (some ⟨d, 0, none⟩), .func (.func 73) #[] #[]] w fun e w' => e = .returned (.string (sB T)) ∧ Below w.heap.size w w' := by
  obtain ⟨M, hM⟩ := ht.mx
  have HPA := hid (parse_any s M w hM)
  have HT := hid ht
  have HE := hid hE
  have HF := hid hF
  clear ht hE hF hM
  go_enter Tryz.func72, Tryz.ntmps72
  go_wp2_with fail
  refine (HPA.out).mono ?_
  rintro e w1 ⟨hb1, c, at', x, v, ps, hpe, hup, hat, rfl, hown, hly⟩
  have hx := parseE_rng hpe
  obtain ⟨k, rfl⟩ : ∃ k : Nat, x = (k : Int) := ⟨x.toNat, by omega⟩
  obtain ⟨va, vc, A, C, hv1, hcap, hmax, hcr⟩ := ownc_read hown
  rw [← hly] at hcr
  obtain ⟨nl, hnl⟩ : ∃ n, ps.length = n := ⟨_, rfl⟩
  have hcl : c.layers.length = nl := by rw [hly, List.length_map, hnl]
  rw [hnl] at hv1 hcap
  subst hv1
  obtain ⟨lg, hlg⟩ : ∃ x, c.log = x := ⟨_, rfl⟩
  rw [hlg]
  have hal := dbel w1 (.cells #[.int .i64 lg, .slice va nl vc] 88)
  have HB2 := hid (hb1.trans (hal.mono hb1.size))
  have HX2 := hid (Box2.new w1 (.int .i64 lg) (.slice va nl vc) 88)
  have HCR := hid (hcr.kept hal)
  have HPE := hid hpe
  have HCL := hid hcl
  have HLG := hid hlg
  clear hb1 hal hown hpe hly hup HPA hcr hcl hlg hnl hd
  by_cases hk : k = 0
  · subst hk
    obtain ⟨hrt, hpr, hsl⟩ := parseE_ok HPE.out
    obtain ⟨bc, oc, rfl⟩ := right_addr hrt HCR.out
    have hk1 : ((0 : Int) != 0) = false := by simp
    obtain ⟨y0, y1, yl⟩ := HX2.out
    clear hrt hpr hsl
    go_wp2_with fail
    generalize w1.alloc (.cells #[.int .i64 lg, .slice (some ⟨bc, oc, none⟩) nl vc] 88) = W2 at HB2 HX2 HCR y0 y1 yl ⊢
    refine (HF.out c at' HPE.out lg bc oc nl vc A C W2 HLG.out HCL.out HCR.out HB2.out).mono ?_
    rintro e w3 ⟨rfl, hb⟩
    have HB3 := hid (HB2.out.trans (hb.mono HB2.out.size))
    clear hb y0 y1 yl
    go_wp2_with fail
    go_ret
    exact ⟨rfl, HB3.out⟩
  · have hk1 : ((k : Int) != 0) = true := by simp; omega
    have HW := hid (fun W (h : Below w.heap.size w W) => tellE_any k W (by omega) (HT.out.kept h))
    have HI := hid (fun W (h : Below w.heap.size w W) => itoa_all at' W (by omega) (HT.out.kept h).ptab)
    have HND : Hid ((sB (wrongD k) ++ (⟨#[32]⟩ : ByteArray)) ++ sB (Lib.decDigits at') = sB T) := hid (by
      rw [HE.out c at' k HPE.out hk, show (⟨#[32]⟩ : ByteArray) = sB [32] from rfl, sB_add, sB_add]
      simp)
    have l1 : (sB (wrongD k)).size ≤ 30 := by rw [sB_size]; unfold wrongD; have := dec_len (m := k) (by omega); simp; omega
    have l2 : (sB (Lib.decDigits at')).size ≤ 20 := by rw [sB_size]; exact dec_len (by omega)
    change Hid (∀ W, Below w.heap.size w W → Calls Tryz.prog 25 #[.int .i64 (at' : Int)] W fun e w' => e = .returned (.string (sB (Lib.decDigits at'))) ∧ Below W.heap.size W w') at HI
    generalize sB (wrongD k) = T1 at HW HND l1
    generalize sB (Lib.decDigits at') = T2 at HI HND l2
    go_wp2_with fail
    generalize w1.alloc (.cells #[.int .i64 lg, .slice va nl vc] 88) = W2 at HB2 HX2 HCR ⊢
    refine (HW.out _ HB2.out).mono ?_
    rintro e w3 ⟨rfl, hb⟩
    have HB3 := hid (HB2.out.trans (hb.mono HB2.out.size))
    clear hb
    go_wp2_with fail
    refine (HI.out _ HB3.out).mono ?_
    rintro e w4 ⟨rfl, hb⟩
    have HB4 := hid (HB3.out.trans (hb.mono HB3.out.size))
    clear hb
    go_wp2_with fail
    go_ret
    exact ⟨by rw [← HND.out]; rfl, HB4.out⟩

set_option maxHeartbeats 4000000 in
set_option maxRecDepth 100000 in
theorem onc_run (d : Nat) (s : ByteArray) (P : Nat) (T : List UInt8) (w : World) (ht : DW w) (hd : w.cell? ⟨d, 0, none⟩ = some (.string s)) (hE : BadD s T)
    (hF : ∀ (c : CQ) (a : Nat), parseE s.data.toList c a 0 → ∀ (g : Int) (b off n cap : Nat) (A : Nat → Option Addr) (C : Nat → Nat) (W : World), c.log = g → c.layers.length = n → CRow W (some ⟨b, off, none⟩) c.layers A C → Below w.heap.size w W → Calls Tryz.prog 75 #[.agg #[.int .i64 g, .slice (some ⟨b, off, none⟩) n cap], .pointer (some ⟨P, 0, none⟩)] W fun e w' => e = .returned (.string (sB T)) ∧ Below W.heap.size W w') :
    Calls Tryz.prog 72 #[.pointer (some ⟨d, 0, none⟩), .func (.func 75) #[] #[.pointer (some ⟨P, 0, none⟩)]] w fun e w' => e = .returned (.string (sB T)) ∧ Below w.heap.size w w' := by
  obtain ⟨M, hM⟩ := ht.mx
  have HPA := hid (parse_any s M w hM)
  have HT := hid ht
  have HE := hid hE
  have HF := hid hF
  clear ht hE hF hM
  go_enter Tryz.func72, Tryz.ntmps72
  go_wp2_with fail
  refine (HPA.out).mono ?_
  rintro e w1 ⟨hb1, c, at', x, v, ps, hpe, hup, hat, rfl, hown, hly⟩
  have hx := parseE_rng hpe
  obtain ⟨k, rfl⟩ : ∃ k : Nat, x = (k : Int) := ⟨x.toNat, by omega⟩
  obtain ⟨va, vc, A, C, hv1, hcap, hmax, hcr⟩ := ownc_read hown
  rw [← hly] at hcr
  obtain ⟨nl, hnl⟩ : ∃ n, ps.length = n := ⟨_, rfl⟩
  have hcl : c.layers.length = nl := by rw [hly, List.length_map, hnl]
  rw [hnl] at hv1 hcap
  subst hv1
  obtain ⟨lg, hlg⟩ : ∃ x, c.log = x := ⟨_, rfl⟩
  rw [hlg]
  have hal := dbel w1 (.cells #[.int .i64 lg, .slice va nl vc] 88)
  have HB2 := hid (hb1.trans (hal.mono hb1.size))
  have HX2 := hid (Box2.new w1 (.int .i64 lg) (.slice va nl vc) 88)
  have HCR := hid (hcr.kept hal)
  have HPE := hid hpe
  have HCL := hid hcl
  have HLG := hid hlg
  clear hb1 hal hown hpe hly hup HPA hcr hcl hlg hnl hd
  by_cases hk : k = 0
  · subst hk
    obtain ⟨hrt, hpr, hsl⟩ := parseE_ok HPE.out
    obtain ⟨bc, oc, rfl⟩ := right_addr hrt HCR.out
    have hk1 : ((0 : Int) != 0) = false := by simp
    obtain ⟨y0, y1, yl⟩ := HX2.out
    clear hrt hpr hsl
    go_wp2_with fail
    generalize w1.alloc (.cells #[.int .i64 lg, .slice (some ⟨bc, oc, none⟩) nl vc] 88) = W2 at HB2 HX2 HCR y0 y1 yl ⊢
    refine (HF.out c at' HPE.out lg bc oc nl vc A C W2 HLG.out HCL.out HCR.out HB2.out).mono ?_
    rintro e w3 ⟨rfl, hb⟩
    have HB3 := hid (HB2.out.trans (hb.mono HB2.out.size))
    clear hb y0 y1 yl
    go_wp2_with fail
    go_ret
    exact ⟨rfl, HB3.out⟩
  · have hk1 : ((k : Int) != 0) = true := by simp; omega
    have HW := hid (fun W (h : Below w.heap.size w W) => tellE_any k W (by omega) (HT.out.kept h))
    have HI := hid (fun W (h : Below w.heap.size w W) => itoa_all at' W (by omega) (HT.out.kept h).ptab)
    have HND : Hid ((sB (wrongD k) ++ (⟨#[32]⟩ : ByteArray)) ++ sB (Lib.decDigits at') = sB T) := hid (by
      rw [HE.out c at' k HPE.out hk, show (⟨#[32]⟩ : ByteArray) = sB [32] from rfl, sB_add, sB_add]
      simp)
    have l1 : (sB (wrongD k)).size ≤ 30 := by rw [sB_size]; unfold wrongD; have := dec_len (m := k) (by omega); simp; omega
    have l2 : (sB (Lib.decDigits at')).size ≤ 20 := by rw [sB_size]; exact dec_len (by omega)
    change Hid (∀ W, Below w.heap.size w W → Calls Tryz.prog 25 #[.int .i64 (at' : Int)] W fun e w' => e = .returned (.string (sB (Lib.decDigits at'))) ∧ Below W.heap.size W w') at HI
    generalize sB (wrongD k) = T1 at HW HND l1
    generalize sB (Lib.decDigits at') = T2 at HI HND l2
    go_wp2_with fail
    generalize w1.alloc (.cells #[.int .i64 lg, .slice va nl vc] 88) = W2 at HB2 HX2 HCR ⊢
    refine (HW.out _ HB2.out).mono ?_
    rintro e w3 ⟨rfl, hb⟩
    have HB3 := hid (HB2.out.trans (hb.mono HB2.out.size))
    clear hb
    go_wp2_with fail
    refine (HI.out _ HB3.out).mono ?_
    rintro e w4 ⟨rfl, hb⟩
    have HB4 := hid (HB3.out.trans (hb.mono HB3.out.size))
    clear hb
    go_wp2_with fail
    go_ret
    exact ⟨by rw [← HND.out]; rfl, HB4.out⟩

set_option maxHeartbeats 4000000 in
set_option maxRecDepth 100000 in
theorem onc_prove (d : Nat) (s : ByteArray) (P Q : Nat) (T : List UInt8) (w : World) (ht : DW w) (hd : w.cell? ⟨d, 0, none⟩ = some (.string s)) (hE : BadD s T)
    (hF : ∀ (c : CQ) (a : Nat), parseE s.data.toList c a 0 → ∀ (g : Int) (b off n cap : Nat) (A : Nat → Option Addr) (C : Nat → Nat) (W : World), c.log = g → c.layers.length = n → CRow W (some ⟨b, off, none⟩) c.layers A C → Below w.heap.size w W → Calls Tryz.prog 78 #[.agg #[.int .i64 g, .slice (some ⟨b, off, none⟩) n cap], .pointer (some ⟨P, 0, none⟩), .pointer (some ⟨Q, 0, none⟩)] W fun e w' => e = .returned (.string (sB T)) ∧ Below W.heap.size W w') :
    Calls Tryz.prog 72 #[.pointer (some ⟨d, 0, none⟩), .func (.func 78) #[] #[.pointer (some ⟨P, 0, none⟩), .pointer (some ⟨Q, 0, none⟩)]] w fun e w' => e = .returned (.string (sB T)) ∧ Below w.heap.size w w' := by
  obtain ⟨M, hM⟩ := ht.mx
  have HPA := hid (parse_any s M w hM)
  have HT := hid ht
  have HE := hid hE
  have HF := hid hF
  clear ht hE hF hM
  go_enter Tryz.func72, Tryz.ntmps72
  go_wp2_with fail
  refine (HPA.out).mono ?_
  rintro e w1 ⟨hb1, c, at', x, v, ps, hpe, hup, hat, rfl, hown, hly⟩
  have hx := parseE_rng hpe
  obtain ⟨k, rfl⟩ : ∃ k : Nat, x = (k : Int) := ⟨x.toNat, by omega⟩
  obtain ⟨va, vc, A, C, hv1, hcap, hmax, hcr⟩ := ownc_read hown
  rw [← hly] at hcr
  obtain ⟨nl, hnl⟩ : ∃ n, ps.length = n := ⟨_, rfl⟩
  have hcl : c.layers.length = nl := by rw [hly, List.length_map, hnl]
  rw [hnl] at hv1 hcap
  subst hv1
  obtain ⟨lg, hlg⟩ : ∃ x, c.log = x := ⟨_, rfl⟩
  rw [hlg]
  have hal := dbel w1 (.cells #[.int .i64 lg, .slice va nl vc] 88)
  have HB2 := hid (hb1.trans (hal.mono hb1.size))
  have HX2 := hid (Box2.new w1 (.int .i64 lg) (.slice va nl vc) 88)
  have HCR := hid (hcr.kept hal)
  have HPE := hid hpe
  have HCL := hid hcl
  have HLG := hid hlg
  clear hb1 hal hown hpe hly hup HPA hcr hcl hlg hnl hd
  by_cases hk : k = 0
  · subst hk
    obtain ⟨hrt, hpr, hsl⟩ := parseE_ok HPE.out
    obtain ⟨bc, oc, rfl⟩ := right_addr hrt HCR.out
    have hk1 : ((0 : Int) != 0) = false := by simp
    obtain ⟨y0, y1, yl⟩ := HX2.out
    clear hrt hpr hsl
    go_wp2_with fail
    generalize w1.alloc (.cells #[.int .i64 lg, .slice (some ⟨bc, oc, none⟩) nl vc] 88) = W2 at HB2 HX2 HCR y0 y1 yl ⊢
    refine (HF.out c at' HPE.out lg bc oc nl vc A C W2 HLG.out HCL.out HCR.out HB2.out).mono ?_
    rintro e w3 ⟨rfl, hb⟩
    have HB3 := hid (HB2.out.trans (hb.mono HB2.out.size))
    clear hb y0 y1 yl
    go_wp2_with fail
    go_ret
    exact ⟨rfl, HB3.out⟩
  · have hk1 : ((k : Int) != 0) = true := by simp; omega
    have HW := hid (fun W (h : Below w.heap.size w W) => tellE_any k W (by omega) (HT.out.kept h))
    have HI := hid (fun W (h : Below w.heap.size w W) => itoa_all at' W (by omega) (HT.out.kept h).ptab)
    have HND : Hid ((sB (wrongD k) ++ (⟨#[32]⟩ : ByteArray)) ++ sB (Lib.decDigits at') = sB T) := hid (by
      rw [HE.out c at' k HPE.out hk, show (⟨#[32]⟩ : ByteArray) = sB [32] from rfl, sB_add, sB_add]
      simp)
    have l1 : (sB (wrongD k)).size ≤ 30 := by rw [sB_size]; unfold wrongD; have := dec_len (m := k) (by omega); simp; omega
    have l2 : (sB (Lib.decDigits at')).size ≤ 20 := by rw [sB_size]; exact dec_len (by omega)
    change Hid (∀ W, Below w.heap.size w W → Calls Tryz.prog 25 #[.int .i64 (at' : Int)] W fun e w' => e = .returned (.string (sB (Lib.decDigits at'))) ∧ Below W.heap.size W w') at HI
    generalize sB (wrongD k) = T1 at HW HND l1
    generalize sB (Lib.decDigits at') = T2 at HI HND l2
    go_wp2_with fail
    generalize w1.alloc (.cells #[.int .i64 lg, .slice va nl vc] 88) = W2 at HB2 HX2 HCR ⊢
    refine (HW.out _ HB2.out).mono ?_
    rintro e w3 ⟨rfl, hb⟩
    have HB3 := hid (HB2.out.trans (hb.mono HB2.out.size))
    clear hb
    go_wp2_with fail
    refine (HI.out _ HB3.out).mono ?_
    rintro e w4 ⟨rfl, hb⟩
    have HB4 := hid (HB3.out.trans (hb.mono HB3.out.size))
    clear hb
    go_wp2_with fail
    go_ret
    exact ⟨by rw [← HND.out]; rfl, HB4.out⟩

theorem netD_bad (s : ByteArray) (v : List UInt8) (a b : List Nat) : BadD s (netD s.data.toList v a b) := fun c at' k hp hk => by
  unfold netD
  rw [parseF_eq hp]
  dsimp only
  rw [if_pos (by omega), show ((k : Int)).toNat = k from by omega]
theorem netD_show {s : List UInt8} {c : CQ} {at' : Nat} (h : parseE s c at' 0) (a b : List Nat) : netD s [115, 104, 111, 119] a b = printQ c ++ [111, 107] := by
  unfold netD
  rw [parseF_eq h]
  dsimp only
  rw [if_neg (by simp), if_pos rfl, (parseE_ok h).2.1]
theorem netD_run {s : List UInt8} {c : CQ} {at' : Nat} (h : parseE s c at' 0) (a b : List Nat) : netD s [114, 117, 110] a b = runD c a := by
  unfold netD runD
  rw [parseF_eq h]
  dsimp only
  rw [if_neg (by simp), if_neg (by decide)]
  by_cases h1 : a.length ≠ lenQ c 0
  · rw [if_pos h1, if_pos h1]
  · rw [if_neg h1, if_neg h1, if_pos rfl]
theorem netD_prv {s : List UInt8} {c : CQ} {at' : Nat} (h : parseE s c at' 0) (a b : List Nat) : netD s [112, 114, 111, 118, 101] a b = prvD c a b := by
  unfold netD prvD
  rw [parseF_eq h]
  dsimp only
  rw [if_neg (by simp), if_neg (by decide)]
  by_cases h1 : a.length ≠ lenQ c 0
  · rw [if_pos h1, if_pos h1]
  · rw [if_neg h1, if_neg h1, if_neg (by decide)]

theorem ansN_show (t : List UInt8) (a b : List Nat) : ansN t [115, 104, 111, 119] a b = if a.length = 0 then netD t [115, 104, 111, 119] a b else wrongD 3 := by
  unfold ansN
  rw [if_neg (by decide), if_neg (by decide), if_neg (by decide), if_neg (by decide), if_neg (by decide), if_pos rfl]
theorem ansN_run (t : List UInt8) (a b : List Nat) : ansN t [114, 117, 110] a b = netD t [114, 117, 110] a b := by
  unfold ansN
  rw [if_neg (by decide), if_neg (by decide), if_neg (by decide), if_neg (by decide), if_neg (by decide), if_neg (by decide), if_neg (by decide), if_neg (by decide), if_neg (by decide), if_pos rfl]
theorem ansN_prv (t : List UInt8) (a b : List Nat) : ansN t [112, 114, 111, 118, 101] a b = netD t [112, 114, 111, 118, 101] a b := by
  unfold ansN
  rw [if_neg (by decide), if_neg (by decide), if_neg (by decide), if_neg (by decide), if_neg (by decide), if_neg (by decide), if_neg (by decide), if_neg (by decide), if_neg (by decide), if_neg (by decide), if_pos rfl]

set_option maxHeartbeats 2000000 in
set_option maxRecDepth 100000 in
theorem dshow_any (d : Nat) (s : ByteArray) (ps : List ByteArray) (ao : Option Addr) (n c : Nat) (w : World) (ht : DW w) (hd : w.cell? ⟨d, 0, none⟩ = some (.string s)) (hn : ps.length = n) (hn2 : n ≤ 2000000) :
    Calls Tryz.prog 40 #[.pointer (some ⟨d, 0, none⟩), .slice ao n c] w fun e w' => dansOut s.data.toList [115, 104, 111, 119] ps w e w' := by
  by_cases h0 : n = 0
  · subst h0
    obtain rfl := List.length_eq_zero_iff.1 hn
    have hA : ansD s.data.toList [115, 104, 111, 119] (([] : List ByteArray).map (·.data.toList)) = netD s.data.toList [115, 104, 111, 119] [] [] := by
      unfold ansD
      rw [argsP (by decide), List.map_nil, numsF_some IsNums.nil]
      show ansN s.data.toList [115, 104, 111, 119] [] [] = _
      rw [ansN_show]
      rfl
    have HO := hid (onc_show d s (netD s.data.toList [115, 104, 111, 119] [] []) w ht hd (netD_bad s _ _ _) (fun cc a hp g b off n cap A C W h1 h2 h3 h4 => by
      rw [netD_show hp]
      exact shw_any cc g b off n cap A C W h1 h2 (parseE_ok hp).1 h3))
    rw [← hA] at HO
    clear ht hd hn hA
    go_enter Tryz.func40, Tryz.ntmps40
    go_wp2_with fail
    refine (HO.out).mono ?_
    rintro e w1 ⟨rfl, hb⟩
    have HB := hid hb
    clear hb
    go_wp2_with fail
    go_ret
    exact ⟨rfl, HB.out⟩
  · have hA : sB (wrongD 3) = sB (ansD s.data.toList [115, 104, 111, 119] (ps.map (·.data.toList))) := by
      unfold ansD
      rw [argsP (by decide)]
      by_cases hx : ∃ l, IsNums (ps.map (·.data.toList)) l
      · obtain ⟨l, hl⟩ := hx
        rw [numsF_some hl]
        show _ = sB (ansN s.data.toList [115, 104, 111, 119] l [])
        rw [ansN_show, if_neg (by rw [hl.len, List.length_map]; omega)]
      · rw [numsF_none hx]; rfl
    have HW := hid (tellE_any 3 w (by omega) ht)
    rw [hA] at HW
    have k1 : ((n : Int) != 0) = true := by simp; omega
    clear ht hd hn hA h0
    go_enter Tryz.func40, Tryz.ntmps40
    go_wp2_with fail
    refine (HW.out).mono ?_
    rintro e w1 ⟨rfl, hb⟩
    have HB := hid hb
    clear hb
    go_wp2_with fail
    go_ret
    exact ⟨rfl, HB.out⟩

set_option maxHeartbeats 4000000 in
set_option maxRecDepth 100000 in
theorem drun_any (d : Nat) (s : ByteArray) (ps : List ByteArray) (ao : Option Addr) (n c : Nat) (w : World) (ht : DW w) (hd : w.cell? ⟨d, 0, none⟩ = some (.string s)) (hn : ps.length = n) (hn2 : n ≤ 2000000) (hz : ∀ p ∈ ps, p.size ≤ 2000000) (hr : SLst w ao ps) :
    Calls Tryz.prog 41 #[.pointer (some ⟨d, 0, none⟩), .slice ao n c] w fun e w' => dansOut s.data.toList [114, 117, 110] ps w e w' := by
  have HNU := hid (numbers_l ps ao n c w hn hn2 hz hr ht)
  have HW3 := hid (fun W (h : Below w.heap.size w W) => tellE_any 3 W (by omega) (ht.kept h))
  have HT := hid ht
  have HD := hid hd
  have HAR : Hid (argsF [114, 117, 110] (ps.map (·.data.toList)) = (numsF (ps.map (·.data.toList))).map fun a => (a, [])) := hid (argsP (by decide))
  clear ht hn hz hr hd
  go_enter Tryz.func41, Tryz.ntmps41
  go_wp2_with fail
  refine (HNU.out).mono ?_
  intro e w1 hh
  rcases hh with ⟨rfl, hf, hb⟩ | ⟨a1, m, cc, l, rfl, hf, hl, hle, hb⟩
  · have hal := dbel w1 (.cells #[.slice none 0 0] 55)
    have HB1 := hid (hb.trans (hal.mono hb.size))
    have HA : Hid (sB (wrongD 3) = sB (ansD s.data.toList [114, 117, 110] (ps.map (·.data.toList)))) := hid (by unfold ansD; rw [HAR.out, hf]; rfl)
    rw [HA.out] at HW3
    clear hb hal hf HNU
    go_wp2_with fail
    refine (HW3.out _ HB1.out).mono ?_
    rintro e w2 ⟨rfl, hb⟩
    have HB2 := hid (HB1.out.trans (hb.mono HB1.out.size))
    clear hb
    go_wp2_with fail
    go_ret
    exact ⟨rfl, HB2.out⟩
  · have hal := dbel w1 (.cells #[.slice a1 m cc] 55)
    have HB1 := hid (hb.trans (hal.mono hb.size))
    have HL := hid (hl.kept hal)
    have HAN : Hid (netD s.data.toList [114, 117, 110] l [] = ansD s.data.toList [114, 117, 110] (ps.map (·.data.toList))) := hid (by
      unfold ansD
      rw [HAR.out, hf]
      show _ = ansN s.data.toList [114, 117, 110] l []
      rw [ansN_run])
    have hp1 : (w1.alloc (.cells #[.slice a1 m cc] 55)).cell? ⟨w1.heap.size, 0, none⟩ = some (.slice a1 m cc) := by rw [World.cell?_alloc_new]; rfl
    obtain ⟨P, hP⟩ : ∃ P, w1.heap.size = P := ⟨_, rfl⟩
    rw [hP] at hp1
    have HO := hid (onc_run d s P (netD s.data.toList [114, 117, 110] l []) _ (HT.out.kept HB1.out) (dkeep HB1.out HD.out) (netD_bad s _ _ _) (fun c2 a hp g b off n cap A C W h1 h2 h3 h4 => by
      rw [netD_run hp]
      exact run1_any c2 g b off n cap A C P a1 m cc l W h1 h2 (parseE_ok hp).1 h3 (HL.out.kept h4) (dkeep h4 hp1) ((HT.out.kept HB1.out).kept h4)))
    rw [HAN.out] at HO
    clear hb hal hl hf HNU
    go_wp2_with fail
    generalize w1.alloc (.cells #[.slice a1 m cc] 55) = W2 at HB1 HL hp1 HO ⊢
    refine (HO.out).mono ?_
    rintro e w3 ⟨rfl, hb⟩
    have HB3 := hid (HB1.out.trans (hb.mono HB1.out.size))
    clear hb hp1
    go_wp2_with fail
    go_ret
    exact ⟨rfl, HB3.out⟩

set_option maxHeartbeats 4000000 in
set_option maxRecDepth 100000 in
theorem dprove_any (d : Nat) (s : ByteArray) (ps : List ByteArray) (ao : Option Addr) (n c : Nat) (w : World) (ht : DW w) (hd : w.cell? ⟨d, 0, none⟩ = some (.string s)) (hn : ps.length = n) (hn2 : n ≤ 2000000) (hc : n ≤ c) (hcm : c ≤ maxLen) (hz : ∀ p ∈ ps, p.size ≤ 2000000) (hr : SLst w ao ps) :
    Calls Tryz.prog 42 #[.pointer (some ⟨d, 0, none⟩), .slice ao n c] w fun e w' => dansOut s.data.toList [112, 114, 111, 118, 101] ps w e w' := by
  have HNU := hid (two_any ps ao n c w hn hn2 hc hcm hz hr ht)
  have HW3 := hid (fun W (h : Below w.heap.size w W) => tellE_any 3 W (by omega) (ht.kept h))
  have HT := hid ht
  have HD := hid hd
  have HAR : Hid (argsF [112, 114, 111, 118, 101] (ps.map (·.data.toList)) = twoA (ps.map (·.data.toList))) := hid (argsT (by decide))
  clear ht hn hz hr hd hcm
  go_enter Tryz.func42, Tryz.ntmps42
  go_wp2_with fail
  refine (HNU.out).mono ?_
  intro e w1 hh
  rcases hh with ⟨xa, xn, xc, ya, yn, yc, rfl, hf, hb⟩ | ⟨a1, m, cc, l, a2, m2, cc2, l2, rfl, hf, hl, hl2, hle, hle2, hb⟩
  · have HB1 : Hid (∀ o1 o2, Below w.heap.size w ((w1.alloc o1).alloc o2)) := hid (fun o1 o2 => (hb.alloc hb.size o1).alloc (by have := hb.size; simp; omega) o2)
    have HA : Hid (sB (wrongD 3) = sB (ansD s.data.toList [112, 114, 111, 118, 101] (ps.map (·.data.toList)))) := hid (by unfold ansD; rw [HAR.out, hf])
    rw [HA.out] at HW3
    clear hb hf HNU
    go_wp2_with fail
    refine (HW3.out _ (HB1.out _ _)).mono ?_
    rintro e w2 ⟨rfl, hb⟩
    have HB2 := hid ((HB1.out (.cells #[.slice xa xn xc] 55) (.cells #[.slice ya yn yc] 55)).trans (hb.mono (HB1.out _ _).size))
    clear hb
    go_wp2_with fail
    go_ret
    exact ⟨rfl, HB2.out⟩
  · have hal1 := dbel w1 (.cells #[.slice a1 m cc] 55)
    have hal2 := dbel (w1.alloc (.cells #[.slice a1 m cc] 55)) (.cells #[.slice a2 m2 cc2] 55)
    have hal := hal1.trans (hal2.mono hal1.size)
    have HB1 := hid (hb.trans (hal.mono hb.size))
    have HL := hid (hl.kept hal)
    have HL2 := hid (hl2.kept hal)
    have HAN : Hid (netD s.data.toList [112, 114, 111, 118, 101] l l2 = ansD s.data.toList [112, 114, 111, 118, 101] (ps.map (·.data.toList))) := hid (by
      unfold ansD
      rw [HAR.out, hf]
      show _ = ansN s.data.toList [112, 114, 111, 118, 101] l l2
      rw [ansN_prv])
    have hp1 : ((w1.alloc (.cells #[.slice a1 m cc] 55)).alloc (.cells #[.slice a2 m2 cc2] 55)).cell? ⟨w1.heap.size, 0, none⟩ = some (.slice a1 m cc) := dkeep hal2 (by rw [World.cell?_alloc_new]; rfl)
    have hq1 : ((w1.alloc (.cells #[.slice a1 m cc] 55)).alloc (.cells #[.slice a2 m2 cc2] 55)).cell? ⟨w1.heap.size + 1, 0, none⟩ = some (.slice a2 m2 cc2) := by
      have e1 : (w1.alloc (.cells #[.slice a1 m cc] 55)).heap.size = w1.heap.size + 1 := by simp
      rw [← e1, World.cell?_alloc_new]
      rfl
    obtain ⟨P, hP⟩ : ∃ P, w1.heap.size = P := ⟨_, rfl⟩
    rw [hP] at hp1 hq1
    have HO := hid (onc_prove d s P (P + 1) (netD s.data.toList [112, 114, 111, 118, 101] l l2) _ (HT.out.kept HB1.out) (dkeep HB1.out HD.out) (netD_bad s _ _ _) (fun c2 a hp g b off n cap A C W h1 h2 h3 h4 => by
      rw [netD_prv hp]
      exact prv1_any c2 g b off n cap A C P (P + 1) a1 a2 m cc m2 cc2 l l2 W h1 h2 (parseE_ok hp).1 h3 (HL.out.kept h4) (HL2.out.kept h4) (dkeep h4 hp1) (dkeep h4 hq1) ((HT.out.kept HB1.out).kept h4)))
    rw [HAN.out] at HO
    clear hb hal hal1 hal2 hl hl2 hf HNU
    go_wp2_with fail
    generalize (w1.alloc (.cells #[.slice a1 m cc] 55)).alloc (.cells #[.slice a2 m2 cc2] 55) = W2 at HB1 HL HL2 hp1 hq1 HO ⊢
    refine (HO.out).mono ?_
    rintro e w3 ⟨rfl, hb⟩
    have HB3 := hid (HB1.out.trans (hb.mono HB1.out.size))
    clear hb hp1 hq1
    go_wp2_with fail
    go_ret
    exact ⟨rfl, HB3.out⟩

end Go.Proofs.YtiohbjnnfkadnaaGreatDoor

/-
  A desk's step, plain, and contracts of desk's write, wipe, answer: they write the desk's own block alone.
-/
namespace Go.Proofs.YtiohbjnnfkadnaaGreatDoor
open Go.RowKit Go.PlainAid
set_option linter.unusedVariables false
attribute [local go_sem ↓] Go.wp_at_zero Go.wp_at_succ

/-! ### plain -/

/-- One line: the circuit's text behind it, and what is answered. -/
noncomputable def stepR (text : List UInt8) : List (List UInt8) → List UInt8 × List UInt8
  | [] => (text, [])
  | v :: r => if v.head? = some 35 then (text, [])
    else if v = [99, 105, 114, 99, 117, 105, 116] then (if text.length + (joinD r).length + 1 > 4096 then (text, wrongD 2 ++ [10]) else (text ++ (joinD r ++ [10]), [111, 107, 10]))
    else if v = [99, 108, 101, 97, 114] then (if r = [] then ([], [111, 107, 10]) else (text, wrongD 3 ++ [10]))
    else (text, ansD text v r ++ [10])
theorem stepR_ans {t v : List UInt8} {r : List (List UInt8)} (h1 : v.head? ≠ some 35) (h2 : v ≠ [99, 105, 114, 99, 117, 105, 116]) (h3 : v ≠ [99, 108, 101, 97, 114]) : stepR t (v :: r) = (t, ansD t v r ++ [10]) := by
  rw [stepR, if_neg h1, if_neg h2, if_neg h3]
theorem stepR_circ (t : List UInt8) (r : List (List UInt8)) : stepR t ([99, 105, 114, 99, 117, 105, 116] :: r) = if t.length + (joinD r).length + 1 > 4096 then (t, wrongD 2 ++ [10]) else (t ++ (joinD r ++ [10]), [111, 107, 10]) := by
  rw [stepR, if_neg (by decide), if_pos rfl]
theorem stepR_clear (t : List UInt8) (r : List (List UInt8)) : stepR t ([99, 108, 101, 97, 114] :: r) = if r = [] then ([], [111, 107, 10]) else (t, wrongD 3 ++ [10]) := by
  rw [stepR, if_neg (by decide), if_neg (by decide), if_pos rfl]
theorem ansD_other {t v : List UInt8} {r : List (List UInt8)} (h : ∀ x ∈ ([[97, 100, 100], [115, 117, 98], [109, 117, 108], [112, 111, 119], [105, 110, 118], [115, 104, 111, 119], [115, 117, 109], [114, 111, 111, 116], [101, 118, 97, 108], [114, 117, 110], [112, 114, 111, 118, 101]] : List (List UInt8)), v ≠ x) : ansD t v r = wrongD 3 := by
  unfold ansD
  cases argsF v r with
  | none => rfl
  | some p =>
    show ansN t v p.1 p.2 = wrongD 3
    unfold ansN
    rw [if_neg (h _ (by decide)), if_neg (h _ (by decide)), if_neg (h _ (by decide)), if_neg (h _ (by decide)), if_neg (h _ (by decide)), if_neg (h _ (by decide)), if_neg (h _ (by decide)), if_neg (h _ (by decide)), if_neg (h _ (by decide)), if_neg (h _ (by decide)), if_neg (h _ (by decide))]
theorem joinD_len (M : Nat) : ∀ (l : List (List UInt8)), (∀ x ∈ l, x.length ≤ M) → (joinD l).length ≤ l.length * (M + 1)
  | [], _ => by simp [joinD]
  | [x], h => by
    have := h x (List.mem_cons_self ..)
    simp [joinD]
    omega
  | x :: y :: r, h => by
    have h1 := h x (List.mem_cons_self ..)
    have ih := joinD_len M (y :: r) (fun z hz => h z (List.mem_cons_of_mem _ hz))
    simp only [joinD, List.length_append, List.length_cons] at ih ⊢
    rw [Nat.succ_mul]
    omega

/-! ### the desk's block -/

/-- The desk's text lies in its block. -/
def Dsk (w : World) (d : Nat) (s : ByteArray) : Prop := w.heap[d]? = some (.cells #[.string s] 31 (0, 0))
theorem Dsk.cell {w : World} {d : Nat} {s : ByteArray} (h : Dsk w d s) : w.cell? ⟨d, 0, none⟩ = some (.string s) := by rw [Lib.cell_of_heap h]; rfl
theorem Dsk.free {w : World} {d : Nat} {s : ByteArray} (h : Dsk w d s) : w.frozen? ⟨d, 0, none⟩ = false := Lib.frozen_of_heap h 0
theorem Dsk.lt {w : World} {d : Nat} {s : ByteArray} (h : Dsk w d s) : d < w.heap.size := World.block_lt_of_cell? w _ h.cell
theorem Dsk.kept {w w' : World} {d : Nat} {s : ByteArray} (h : Dsk w d s) (hb : Below w.heap.size w w') : Dsk w' d s := (hb.block d h.lt).trans h
theorem Dsk.set {w : World} {d : Nat} {s : ByteArray} (h : Dsk w d s) (x : ByteArray) : Dsk (w.setCell ⟨d, 0, none⟩ (.string x)) d x := by
  have h' : w.heap[d]? = some (.cells #[.string s] 31 (0, 0)) := h
  unfold Dsk
  simp [World.setCell, Array.getElem?_modify, h']
/-- All blocks but the desk's are kept. -/
structure DkK (d : Nat) (w w' : World) : Prop where
  below : Below d w w'
  rest : ∀ k, d < k → k < w.heap.size → w'.heap[k]? = w.heap[k]?
theorem DkK.of {d : Nat} {w w' : World} (hb : Below w.heap.size w w') (hd : d < w.heap.size) : DkK d w w' := ⟨hb.mono (Nat.le_of_lt hd), fun k _ h => hb.block k h⟩
theorem DkK.set {d : Nat} {w w' : World} (h : DkK d w w') (x : Value) : DkK d w (w'.setCell ⟨d, 0, none⟩ x) := ⟨h.below.setCell (Nat.le_refl _) _, fun k h1 h2 => (Below.heap_setCell _ _ _ _ (by show k ≠ d; omega)).trans (h.rest k h1 h2)⟩
/-- What a line's answer is, and what it leaves. -/
def aOut (d : Nat) (R : List UInt8 × List UInt8) (w : World) (e : Ending) (w' : World) : Prop := ∃ (s' : ByteArray) (o : List UInt8), e = .returned (.string (sB o)) ∧ R = (s'.data.toList, o ++ [10]) ∧ Dsk w' d s' ∧ DkK d w w'
theorem aOut.of {d : Nat} {s : ByteArray} {v : List UInt8} {ps : List ByteArray} {w w' : World} {e : Ending} (h : dansOut s.data.toList v ps w e w') (hd : Dsk w d s) (h1 : v.head? ≠ some 35) (h2 : v ≠ [99, 105, 114, 99, 117, 105, 116]) (h3 : v ≠ [99, 108, 101, 97, 114]) : aOut d (stepR s.data.toList (v :: ps.map (·.data.toList))) w e w' :=
  ⟨s, _, h.1, stepR_ans h1 h2 h3, hd.kept h.2, DkK.of h.2 hd.lt⟩

set_option maxHeartbeats 2000000 in
set_option maxRecDepth 100000 in
theorem dwrite_any (d : Nat) (s : ByteArray) (ps : List ByteArray) (ao : Option Addr) (n c : Nat) (w : World) (ht : DW w) (hd : Dsk w d s) (hs : s.size ≤ 4096) (hn : ps.length = n) (hn2 : n ≤ 2000000) (hc : n ≤ c) (hz : ∀ p ∈ ps, p.size ≤ 2000000) (hr : SLst w ao ps) :
    Calls Tryz.prog 38 #[.pointer (some ⟨d, 0, none⟩), .slice ao n c] w fun e w' => aOut d (stepR s.data.toList ([99, 105, 114, 99, 117, 105, 116] :: ps.map (·.data.toList))) w e w' := by
  have hjl : (joinD (ps.map (·.data.toList))).length ≤ 4000002000000 := by
    have h := joinD_len 2000000 (ps.map (·.data.toList)) (fun x hx => by
      obtain ⟨p, hp, rfl⟩ := List.mem_map.1 hx
      rw [← size_list]
      exact hz p hp)
    rw [List.length_map, hn] at h
    have : n * (2000000 + 1) ≤ 2000000 * (2000000 + 1) := Nat.mul_le_mul_right _ hn2
    omega
  have HJ := hid (fun W (h : Below w.heap.size w W) => join_any ps ao n c W hn hn2 hc (by omega) (hr.kept h))
  rw [stepR_circ]
  obtain ⟨J, hJ⟩ : ∃ J, joinD (ps.map (·.data.toList)) = J := ⟨_, rfl⟩
  rw [hJ] at hjl HJ ⊢
  obtain ⟨R, hR⟩ : ∃ R, (if s.data.toList.length + J.length + 1 > 4096 then (s.data.toList, wrongD 2 ++ [10]) else (s.data.toList ++ (J ++ [10]), [111, 107, 10])) = R := ⟨_, rfl⟩
  rw [hR]
  have HRR := hid hR.symm
  clear hR
  have HD := hid hd
  have hc0 := hd.cell
  have HW2 := hid (fun W (h : Below w.heap.size w W) => tellE_any 2 W (by omega) (ht.kept h))
  have hsz := sB_size J
  obtain ⟨TJ, hTJ⟩ : ∃ TJ, sB J = TJ := ⟨_, rfl⟩
  rw [hTJ] at hsz HJ
  have HTJ := hid hTJ
  have hsl : s.data.toList.length = s.size := (size_list s).symm
  have HSL := hid hsl
  clear hJ hTJ hsl ht hn hz hr hd
  have HK : Hid (∀ W, Below w.heap.size w W → W.cell? ⟨d, 0, none⟩ = some (.string s)) := hid (fun W hb => dkeep hb hc0)
  have l1 : TJ.size ≤ 4000002000000 := by omega
  have h1 : ∀ W, (Op.stringOp .add s TJ).run Tryz.prog W = .ok (.string (s ++ TJ)) W := fun W => run_string_add_sum W s TJ (by omega)
  have h2 : ∀ W, (Op.stringOp .add (s ++ TJ) ⟨#[10]⟩).run Tryz.prog W = .ok (.string (s ++ TJ ++ ⟨#[10]⟩)) W := fun W => run_string_add_sum W (s ++ TJ) ⟨#[10]⟩ (by rw [ByteArray.size_append]; have : (⟨#[10]⟩ : ByteArray).size = 1 := rfl; omega)
  go_enter Tryz.func38, Tryz.ntmps38
  go_wp2_with fail
  go_region_held3 (fun W => W.cell? ⟨d, 0, none⟩ = some (.string s)) (first | assumption | exact hz2) (first
    | (go_at_call 71; refine (HJ.out _ (by first | exact Below.refl _ _ | exact (Below.refl _ w).drew)).mono ?_; rintro e w2 ⟨rfl, hb⟩; have hbw : Below w.heap.size w w2 := (by first | exact hb | exact (Below.refl _ w).drew.trans hb); have HB := hid hbw; have hz2 : w2.cell? ⟨d, 0, none⟩ = some (.string s) := HK.out _ hbw; clear hb hbw))
  obtain ⟨L, hL⟩ : ∃ L, s ++ TJ ++ (⟨#[10]⟩ : ByteArray) = L := ⟨_, rfl⟩
  have hLs : L.size = s.size + TJ.size + 1 := by rw [← hL, ByteArray.size_append, ByteArray.size_append]; rfl
  have HLL : Hid (L.data.toList = s.data.toList ++ (J ++ [10])) := hid (by
    rw [← hL, ByteArray.data_append, Array.toList_append, ByteArray.data_append, Array.toList_append, ← HTJ.out, sB_list, List.append_assoc])
  rw [hL]
  have HD2 := hid (HD.out.kept HB.out)
  have f2 := HD2.out.free
  have HJS : Hid (J.length = TJ.size) := hid hsz.symm
  clear h1 h2 hL hz2 hsz hjl HJ HTJ
  by_cases hbig : 4096 < L.size
  · have HR : Hid (R = (s.data.toList, wrongD 2 ++ [10])) := hid (HRR.out.trans <| if_pos (by rw [HSL.out, HJS.out]; omega))
    have k1 : (4096 : Int) < (L.size : Int) := by omega
    have c2 := HD2.out.cell
    go_wp2_with fail
    refine (HW2.out _ HB.out).mono ?_
    rintro e w3 ⟨rfl, hb⟩
    have HB3 := hid (HB.out.trans (hb.mono HB.out.size))
    clear hb
    go_wp2_with fail
    go_ret
    exact ⟨s, _, rfl, HR.out, HD.out.kept HB3.out, DkK.of HB3.out HD.out.lt⟩
  · have HR : Hid (R = (L.data.toList, [111, 107] ++ [10])) := hid (by rw [HRR.out, if_neg (by rw [HSL.out, HJS.out]; omega), HLL.out]; rfl)
    have k1 : ¬ (4096 : Int) < (L.size : Int) := by omega
    have c2 := HD2.out.cell
    go_wp2_with fail
    go_ret
    exact ⟨L, [111, 107], rfl, HR.out, HD2.out.set L, (DkK.of HB.out HD.out.lt).set _⟩

set_option maxHeartbeats 2000000 in
set_option maxRecDepth 100000 in
theorem dwipe_any (d : Nat) (s : ByteArray) (ps : List ByteArray) (ao : Option Addr) (n c : Nat) (w : World) (ht : DW w) (hd : Dsk w d s) (hn : ps.length = n) (hn2 : n ≤ 2000000) :
    Calls Tryz.prog 39 #[.pointer (some ⟨d, 0, none⟩), .slice ao n c] w fun e w' => aOut d (stepR s.data.toList ([99, 108, 101, 97, 114] :: ps.map (·.data.toList))) w e w' := by
  have HD := hid hd
  have hc0 := hd.cell
  have hf0 := hd.free
  have HW := hid (tellE_any 3 w (by omega) ht)
  clear hd ht
  rw [stepR_clear]
  by_cases h0 : n = 0
  · subst h0
    obtain rfl := List.length_eq_zero_iff.1 hn
    rw [List.map_nil, if_pos rfl]
    clear hn HW
    go_enter Tryz.func39, Tryz.ntmps39
    go_wp2_with fail
    go_ret
    exact ⟨⟨#[]⟩, [111, 107], rfl, rfl, HD.out.set _, (DkK.of (Below.refl _ _) HD.out.lt).set _⟩
  · rw [if_neg (fun h => h0 (by rw [← hn, ← List.length_map (f := fun p : ByteArray => p.data.toList), h]; rfl))]
    have k1 : ((n : Int) != 0) = true := by simp; omega
    clear hn h0
    go_enter Tryz.func39, Tryz.ntmps39
    go_wp2_with fail
    refine (HW.out).mono ?_
    rintro e w1 ⟨rfl, hb⟩
    have HB := hid hb
    clear hb
    go_wp2_with fail
    go_ret
    exact ⟨s, _, rfl, rfl, HD.out.kept HB.out, DkK.of HB.out HD.out.lt⟩

/-! ### a line -/

set_option maxHeartbeats 2000000 in
set_option maxRecDepth 100000 in
theorem answ_add (d : Nat) (s : ByteArray) (ps : List ByteArray) (ao : Option Addr) (n c : Nat) (w : World) (ht : DW w) (hd : Dsk w d s) (hs : s.size ≤ 4096) (hn : ps.length = n) (hn2 : n ≤ 2000000) (hc : n ≤ c) (hcm : c ≤ maxLen) (hz : ∀ p ∈ ps, p.size ≤ 2000000) (hr : SLst w ao ps) :
    Calls Tryz.prog 16 #[.pointer (some ⟨d, 0, none⟩), .string ⟨#[97, 100, 100]⟩, .slice ao n c] w fun e w' => aOut d (stepR s.data.toList ([97, 100, 100] :: ps.map (·.data.toList))) w e w' := by
  have HC : Hid (Calls Tryz.prog 28 #[.slice ao n c, .func (.func 29) #[] #[]] w fun e w' => aOut d (stepR s.data.toList ([97, 100, 100] :: ps.map (·.data.toList))) w e w') := hid ((oft_add s.data.toList ps ao n c w ht hn hn2 hz hr).mono fun e w' h => aOut.of h hd (by decide) (by decide) (by decide))
  clear ht hd hn hz hr hs hc hcm
  go_enter Tryz.func16, Tryz.ntmps16
  go_wp2_with fail
  refine (HC.out).mono ?_
  rintro e w1 ⟨s', o, rfl, hR, hd1, hk1⟩
  have HO := hid (And.intro hR (And.intro hd1 hk1))
  clear hR hd1 hk1
  go_wp2_with fail
  go_ret
  exact ⟨s', o, rfl, HO.out.1, HO.out.2.1, HO.out.2.2⟩

set_option maxHeartbeats 2000000 in
set_option maxRecDepth 100000 in
theorem answ_sub (d : Nat) (s : ByteArray) (ps : List ByteArray) (ao : Option Addr) (n c : Nat) (w : World) (ht : DW w) (hd : Dsk w d s) (hs : s.size ≤ 4096) (hn : ps.length = n) (hn2 : n ≤ 2000000) (hc : n ≤ c) (hcm : c ≤ maxLen) (hz : ∀ p ∈ ps, p.size ≤ 2000000) (hr : SLst w ao ps) :
    Calls Tryz.prog 16 #[.pointer (some ⟨d, 0, none⟩), .string ⟨#[115, 117, 98]⟩, .slice ao n c] w fun e w' => aOut d (stepR s.data.toList ([115, 117, 98] :: ps.map (·.data.toList))) w e w' := by
  have HC : Hid (Calls Tryz.prog 28 #[.slice ao n c, .func (.func 30) #[] #[]] w fun e w' => aOut d (stepR s.data.toList ([115, 117, 98] :: ps.map (·.data.toList))) w e w') := hid ((oft_sub s.data.toList ps ao n c w ht hn hn2 hz hr).mono fun e w' h => aOut.of h hd (by decide) (by decide) (by decide))
  clear ht hd hn hz hr hs hc hcm
  go_enter Tryz.func16, Tryz.ntmps16
  go_wp2_with fail
  refine (HC.out).mono ?_
  rintro e w1 ⟨s', o, rfl, hR, hd1, hk1⟩
  have HO := hid (And.intro hR (And.intro hd1 hk1))
  clear hR hd1 hk1
  go_wp2_with fail
  go_ret
  exact ⟨s', o, rfl, HO.out.1, HO.out.2.1, HO.out.2.2⟩

set_option maxHeartbeats 2000000 in
set_option maxRecDepth 100000 in
theorem answ_mul (d : Nat) (s : ByteArray) (ps : List ByteArray) (ao : Option Addr) (n c : Nat) (w : World) (ht : DW w) (hd : Dsk w d s) (hs : s.size ≤ 4096) (hn : ps.length = n) (hn2 : n ≤ 2000000) (hc : n ≤ c) (hcm : c ≤ maxLen) (hz : ∀ p ∈ ps, p.size ≤ 2000000) (hr : SLst w ao ps) :
    Calls Tryz.prog 16 #[.pointer (some ⟨d, 0, none⟩), .string ⟨#[109, 117, 108]⟩, .slice ao n c] w fun e w' => aOut d (stepR s.data.toList ([109, 117, 108] :: ps.map (·.data.toList))) w e w' := by
  have HC : Hid (Calls Tryz.prog 28 #[.slice ao n c, .func (.func 31) #[] #[]] w fun e w' => aOut d (stepR s.data.toList ([109, 117, 108] :: ps.map (·.data.toList))) w e w') := hid ((oft_mul s.data.toList ps ao n c w ht hn hn2 hz hr).mono fun e w' h => aOut.of h hd (by decide) (by decide) (by decide))
  clear ht hd hn hz hr hs hc hcm
  go_enter Tryz.func16, Tryz.ntmps16
  go_wp2_with fail
  refine (HC.out).mono ?_
  rintro e w1 ⟨s', o, rfl, hR, hd1, hk1⟩
  have HO := hid (And.intro hR (And.intro hd1 hk1))
  clear hR hd1 hk1
  go_wp2_with fail
  go_ret
  exact ⟨s', o, rfl, HO.out.1, HO.out.2.1, HO.out.2.2⟩

set_option maxHeartbeats 2000000 in
set_option maxRecDepth 100000 in
theorem answ_pow (d : Nat) (s : ByteArray) (ps : List ByteArray) (ao : Option Addr) (n c : Nat) (w : World) (ht : DW w) (hd : Dsk w d s) (hs : s.size ≤ 4096) (hn : ps.length = n) (hn2 : n ≤ 2000000) (hc : n ≤ c) (hcm : c ≤ maxLen) (hz : ∀ p ∈ ps, p.size ≤ 2000000) (hr : SLst w ao ps) :
    Calls Tryz.prog 16 #[.pointer (some ⟨d, 0, none⟩), .string ⟨#[112, 111, 119]⟩, .slice ao n c] w fun e w' => aOut d (stepR s.data.toList ([112, 111, 119] :: ps.map (·.data.toList))) w e w' := by
  have HC : Hid (Calls Tryz.prog 28 #[.slice ao n c, .func (.func 32) #[] #[]] w fun e w' => aOut d (stepR s.data.toList ([112, 111, 119] :: ps.map (·.data.toList))) w e w') := hid ((oft_pow s.data.toList ps ao n c w ht hn hn2 hz hr).mono fun e w' h => aOut.of h hd (by decide) (by decide) (by decide))
  clear ht hd hn hz hr hs hc hcm
  go_enter Tryz.func16, Tryz.ntmps16
  go_wp2_with fail
  refine (HC.out).mono ?_
  rintro e w1 ⟨s', o, rfl, hR, hd1, hk1⟩
  have HO := hid (And.intro hR (And.intro hd1 hk1))
  clear hR hd1 hk1
  go_wp2_with fail
  go_ret
  exact ⟨s', o, rfl, HO.out.1, HO.out.2.1, HO.out.2.2⟩

set_option maxHeartbeats 2000000 in
set_option maxRecDepth 100000 in
theorem answ_inv (d : Nat) (s : ByteArray) (ps : List ByteArray) (ao : Option Addr) (n c : Nat) (w : World) (ht : DW w) (hd : Dsk w d s) (hs : s.size ≤ 4096) (hn : ps.length = n) (hn2 : n ≤ 2000000) (hc : n ≤ c) (hcm : c ≤ maxLen) (hz : ∀ p ∈ ps, p.size ≤ 2000000) (hr : SLst w ao ps) :
    Calls Tryz.prog 16 #[.pointer (some ⟨d, 0, none⟩), .string ⟨#[105, 110, 118]⟩, .slice ao n c] w fun e w' => aOut d (stepR s.data.toList ([105, 110, 118] :: ps.map (·.data.toList))) w e w' := by
  have HC : Hid (Calls Tryz.prog 33 #[.slice ao n c] w fun e w' => aOut d (stepR s.data.toList ([105, 110, 118] :: ps.map (·.data.toList))) w e w') := hid ((dinv_any s.data.toList ps ao n c w ht hn hn2 hz hr).mono fun e w' h => aOut.of h hd (by decide) (by decide) (by decide))
  clear ht hd hn hz hr hs hc hcm
  go_enter Tryz.func16, Tryz.ntmps16
  go_wp2_with fail
  refine (HC.out).mono ?_
  rintro e w1 ⟨s', o, rfl, hR, hd1, hk1⟩
  have HO := hid (And.intro hR (And.intro hd1 hk1))
  clear hR hd1 hk1
  go_wp2_with fail
  go_ret
  exact ⟨s', o, rfl, HO.out.1, HO.out.2.1, HO.out.2.2⟩

set_option maxHeartbeats 2000000 in
set_option maxRecDepth 100000 in
theorem answ_sum (d : Nat) (s : ByteArray) (ps : List ByteArray) (ao : Option Addr) (n c : Nat) (w : World) (ht : DW w) (hd : Dsk w d s) (hs : s.size ≤ 4096) (hn : ps.length = n) (hn2 : n ≤ 2000000) (hc : n ≤ c) (hcm : c ≤ maxLen) (hz : ∀ p ∈ ps, p.size ≤ 2000000) (hr : SLst w ao ps) :
    Calls Tryz.prog 16 #[.pointer (some ⟨d, 0, none⟩), .string ⟨#[115, 117, 109]⟩, .slice ao n c] w fun e w' => aOut d (stepR s.data.toList ([115, 117, 109] :: ps.map (·.data.toList))) w e w' := by
  have HC : Hid (Calls Tryz.prog 34 #[.slice ao n c, .func (.func 35) #[] #[]] w fun e w' => aOut d (stepR s.data.toList ([115, 117, 109] :: ps.map (·.data.toList))) w e w') := hid ((oftab_sum s.data.toList ps ao n c w ht hn hn2 hz hr).mono fun e w' h => aOut.of h hd (by decide) (by decide) (by decide))
  clear ht hd hn hz hr hs hc hcm
  go_enter Tryz.func16, Tryz.ntmps16
  go_wp2_with fail
  refine (HC.out).mono ?_
  rintro e w1 ⟨s', o, rfl, hR, hd1, hk1⟩
  have HO := hid (And.intro hR (And.intro hd1 hk1))
  clear hR hd1 hk1
  go_wp2_with fail
  go_ret
  exact ⟨s', o, rfl, HO.out.1, HO.out.2.1, HO.out.2.2⟩

set_option maxHeartbeats 2000000 in
set_option maxRecDepth 100000 in
theorem answ_root (d : Nat) (s : ByteArray) (ps : List ByteArray) (ao : Option Addr) (n c : Nat) (w : World) (ht : DW w) (hd : Dsk w d s) (hs : s.size ≤ 4096) (hn : ps.length = n) (hn2 : n ≤ 2000000) (hc : n ≤ c) (hcm : c ≤ maxLen) (hz : ∀ p ∈ ps, p.size ≤ 2000000) (hr : SLst w ao ps) :
    Calls Tryz.prog 16 #[.pointer (some ⟨d, 0, none⟩), .string ⟨#[114, 111, 111, 116]⟩, .slice ao n c] w fun e w' => aOut d (stepR s.data.toList ([114, 111, 111, 116] :: ps.map (·.data.toList))) w e w' := by
  have HC : Hid (Calls Tryz.prog 34 #[.slice ao n c, .func (.func 36) #[] #[]] w fun e w' => aOut d (stepR s.data.toList ([114, 111, 111, 116] :: ps.map (·.data.toList))) w e w') := hid ((oftab_root s.data.toList ps ao n c w ht hn hn2 hz hr).mono fun e w' h => aOut.of h hd (by decide) (by decide) (by decide))
  clear ht hd hn hz hr hs hc hcm
  go_enter Tryz.func16, Tryz.ntmps16
  go_wp2_with fail
  refine (HC.out).mono ?_
  rintro e w1 ⟨s', o, rfl, hR, hd1, hk1⟩
  have HO := hid (And.intro hR (And.intro hd1 hk1))
  clear hR hd1 hk1
  go_wp2_with fail
  go_ret
  exact ⟨s', o, rfl, HO.out.1, HO.out.2.1, HO.out.2.2⟩

set_option maxHeartbeats 2000000 in
set_option maxRecDepth 100000 in
theorem answ_eval (d : Nat) (s : ByteArray) (ps : List ByteArray) (ao : Option Addr) (n c : Nat) (w : World) (ht : DW w) (hd : Dsk w d s) (hs : s.size ≤ 4096) (hn : ps.length = n) (hn2 : n ≤ 2000000) (hc : n ≤ c) (hcm : c ≤ maxLen) (hz : ∀ p ∈ ps, p.size ≤ 2000000) (hr : SLst w ao ps) :
    Calls Tryz.prog 16 #[.pointer (some ⟨d, 0, none⟩), .string ⟨#[101, 118, 97, 108]⟩, .slice ao n c] w fun e w' => aOut d (stepR s.data.toList ([101, 118, 97, 108] :: ps.map (·.data.toList))) w e w' := by
  have HC : Hid (Calls Tryz.prog 37 #[.slice ao n c] w fun e w' => aOut d (stepR s.data.toList ([101, 118, 97, 108] :: ps.map (·.data.toList))) w e w') := hid ((deval_any s.data.toList ps ao n c w ht hn hn2 hc hcm hz hr).mono fun e w' h => aOut.of h hd (by decide) (by decide) (by decide))
  clear ht hd hn hz hr hs hc hcm
  go_enter Tryz.func16, Tryz.ntmps16
  go_wp2_with fail
  refine (HC.out).mono ?_
  rintro e w1 ⟨s', o, rfl, hR, hd1, hk1⟩
  have HO := hid (And.intro hR (And.intro hd1 hk1))
  clear hR hd1 hk1
  go_wp2_with fail
  go_ret
  exact ⟨s', o, rfl, HO.out.1, HO.out.2.1, HO.out.2.2⟩

set_option maxHeartbeats 2000000 in
set_option maxRecDepth 100000 in
theorem answ_circuit (d : Nat) (s : ByteArray) (ps : List ByteArray) (ao : Option Addr) (n c : Nat) (w : World) (ht : DW w) (hd : Dsk w d s) (hs : s.size ≤ 4096) (hn : ps.length = n) (hn2 : n ≤ 2000000) (hc : n ≤ c) (hcm : c ≤ maxLen) (hz : ∀ p ∈ ps, p.size ≤ 2000000) (hr : SLst w ao ps) :
    Calls Tryz.prog 16 #[.pointer (some ⟨d, 0, none⟩), .string ⟨#[99, 105, 114, 99, 117, 105, 116]⟩, .slice ao n c] w fun e w' => aOut d (stepR s.data.toList ([99, 105, 114, 99, 117, 105, 116] :: ps.map (·.data.toList))) w e w' := by
  have HC : Hid (Calls Tryz.prog 38 #[.pointer (some ⟨d, 0, none⟩), .slice ao n c] w fun e w' => aOut d (stepR s.data.toList ([99, 105, 114, 99, 117, 105, 116] :: ps.map (·.data.toList))) w e w') := hid (dwrite_any d s ps ao n c w ht hd hs hn hn2 hc hz hr)
  clear ht hd hn hz hr hs hc hcm
  go_enter Tryz.func16, Tryz.ntmps16
  go_wp2_with fail
  refine (HC.out).mono ?_
  rintro e w1 ⟨s', o, rfl, hR, hd1, hk1⟩
  have HO := hid (And.intro hR (And.intro hd1 hk1))
  clear hR hd1 hk1
  go_wp2_with fail
  go_ret
  exact ⟨s', o, rfl, HO.out.1, HO.out.2.1, HO.out.2.2⟩

set_option maxHeartbeats 2000000 in
set_option maxRecDepth 100000 in
theorem answ_clear (d : Nat) (s : ByteArray) (ps : List ByteArray) (ao : Option Addr) (n c : Nat) (w : World) (ht : DW w) (hd : Dsk w d s) (hs : s.size ≤ 4096) (hn : ps.length = n) (hn2 : n ≤ 2000000) (hc : n ≤ c) (hcm : c ≤ maxLen) (hz : ∀ p ∈ ps, p.size ≤ 2000000) (hr : SLst w ao ps) :
    Calls Tryz.prog 16 #[.pointer (some ⟨d, 0, none⟩), .string ⟨#[99, 108, 101, 97, 114]⟩, .slice ao n c] w fun e w' => aOut d (stepR s.data.toList ([99, 108, 101, 97, 114] :: ps.map (·.data.toList))) w e w' := by
  have HC : Hid (Calls Tryz.prog 39 #[.pointer (some ⟨d, 0, none⟩), .slice ao n c] w fun e w' => aOut d (stepR s.data.toList ([99, 108, 101, 97, 114] :: ps.map (·.data.toList))) w e w') := hid (dwipe_any d s ps ao n c w ht hd hn hn2)
  clear ht hd hn hz hr hs hc hcm
  go_enter Tryz.func16, Tryz.ntmps16
  go_wp2_with fail
  refine (HC.out).mono ?_
  rintro e w1 ⟨s', o, rfl, hR, hd1, hk1⟩
  have HO := hid (And.intro hR (And.intro hd1 hk1))
  clear hR hd1 hk1
  go_wp2_with fail
  go_ret
  exact ⟨s', o, rfl, HO.out.1, HO.out.2.1, HO.out.2.2⟩

set_option maxHeartbeats 2000000 in
set_option maxRecDepth 100000 in
theorem answ_show (d : Nat) (s : ByteArray) (ps : List ByteArray) (ao : Option Addr) (n c : Nat) (w : World) (ht : DW w) (hd : Dsk w d s) (hs : s.size ≤ 4096) (hn : ps.length = n) (hn2 : n ≤ 2000000) (hc : n ≤ c) (hcm : c ≤ maxLen) (hz : ∀ p ∈ ps, p.size ≤ 2000000) (hr : SLst w ao ps) :
    Calls Tryz.prog 16 #[.pointer (some ⟨d, 0, none⟩), .string ⟨#[115, 104, 111, 119]⟩, .slice ao n c] w fun e w' => aOut d (stepR s.data.toList ([115, 104, 111, 119] :: ps.map (·.data.toList))) w e w' := by
  have HC : Hid (Calls Tryz.prog 40 #[.pointer (some ⟨d, 0, none⟩), .slice ao n c] w fun e w' => aOut d (stepR s.data.toList ([115, 104, 111, 119] :: ps.map (·.data.toList))) w e w') := hid ((dshow_any d s ps ao n c w ht hd.cell hn hn2).mono fun e w' h => aOut.of h hd (by decide) (by decide) (by decide))
  clear ht hd hn hz hr hs hc hcm
  go_enter Tryz.func16, Tryz.ntmps16
  go_wp2_with fail
  refine (HC.out).mono ?_
  rintro e w1 ⟨s', o, rfl, hR, hd1, hk1⟩
  have HO := hid (And.intro hR (And.intro hd1 hk1))
  clear hR hd1 hk1
  go_wp2_with fail
  go_ret
  exact ⟨s', o, rfl, HO.out.1, HO.out.2.1, HO.out.2.2⟩

set_option maxHeartbeats 2000000 in
set_option maxRecDepth 100000 in
theorem answ_run (d : Nat) (s : ByteArray) (ps : List ByteArray) (ao : Option Addr) (n c : Nat) (w : World) (ht : DW w) (hd : Dsk w d s) (hs : s.size ≤ 4096) (hn : ps.length = n) (hn2 : n ≤ 2000000) (hc : n ≤ c) (hcm : c ≤ maxLen) (hz : ∀ p ∈ ps, p.size ≤ 2000000) (hr : SLst w ao ps) :
    Calls Tryz.prog 16 #[.pointer (some ⟨d, 0, none⟩), .string ⟨#[114, 117, 110]⟩, .slice ao n c] w fun e w' => aOut d (stepR s.data.toList ([114, 117, 110] :: ps.map (·.data.toList))) w e w' := by
  have HC : Hid (Calls Tryz.prog 41 #[.pointer (some ⟨d, 0, none⟩), .slice ao n c] w fun e w' => aOut d (stepR s.data.toList ([114, 117, 110] :: ps.map (·.data.toList))) w e w') := hid ((drun_any d s ps ao n c w ht hd.cell hn hn2 hz hr).mono fun e w' h => aOut.of h hd (by decide) (by decide) (by decide))
  clear ht hd hn hz hr hs hc hcm
  go_enter Tryz.func16, Tryz.ntmps16
  go_wp2_with fail
  refine (HC.out).mono ?_
  rintro e w1 ⟨s', o, rfl, hR, hd1, hk1⟩
  have HO := hid (And.intro hR (And.intro hd1 hk1))
  clear hR hd1 hk1
  go_wp2_with fail
  go_ret
  exact ⟨s', o, rfl, HO.out.1, HO.out.2.1, HO.out.2.2⟩

set_option maxHeartbeats 2000000 in
set_option maxRecDepth 100000 in
theorem answ_prove (d : Nat) (s : ByteArray) (ps : List ByteArray) (ao : Option Addr) (n c : Nat) (w : World) (ht : DW w) (hd : Dsk w d s) (hs : s.size ≤ 4096) (hn : ps.length = n) (hn2 : n ≤ 2000000) (hc : n ≤ c) (hcm : c ≤ maxLen) (hz : ∀ p ∈ ps, p.size ≤ 2000000) (hr : SLst w ao ps) :
    Calls Tryz.prog 16 #[.pointer (some ⟨d, 0, none⟩), .string ⟨#[112, 114, 111, 118, 101]⟩, .slice ao n c] w fun e w' => aOut d (stepR s.data.toList ([112, 114, 111, 118, 101] :: ps.map (·.data.toList))) w e w' := by
  have HC : Hid (Calls Tryz.prog 42 #[.pointer (some ⟨d, 0, none⟩), .slice ao n c] w fun e w' => aOut d (stepR s.data.toList ([112, 114, 111, 118, 101] :: ps.map (·.data.toList))) w e w') := hid ((dprove_any d s ps ao n c w ht hd.cell hn hn2 hc hcm hz hr).mono fun e w' h => aOut.of h hd (by decide) (by decide) (by decide))
  clear ht hd hn hz hr hs hc hcm
  go_enter Tryz.func16, Tryz.ntmps16
  go_wp2_with fail
  refine (HC.out).mono ?_
  rintro e w1 ⟨s', o, rfl, hR, hd1, hk1⟩
  have HO := hid (And.intro hR (And.intro hd1 hk1))
  clear hR hd1 hk1
  go_wp2_with fail
  go_ret
  exact ⟨s', o, rfl, HO.out.1, HO.out.2.1, HO.out.2.2⟩

set_option maxHeartbeats 2000000 in
set_option maxRecDepth 100000 in
theorem answ_other (d : Nat) (s v : ByteArray) (ps : List ByteArray) (ao : Option Addr) (n c : Nat) (w : World) (ht : DW w) (hd : Dsk w d s) (h35 : v.data.toList.head? ≠ some 35) (hv_add : v.data.toList ≠ [97, 100, 100]) (hv_sub : v.data.toList ≠ [115, 117, 98]) (hv_mul : v.data.toList ≠ [109, 117, 108]) (hv_pow : v.data.toList ≠ [112, 111, 119]) (hv_inv : v.data.toList ≠ [105, 110, 118]) (hv_sum : v.data.toList ≠ [115, 117, 109]) (hv_root : v.data.toList ≠ [114, 111, 111, 116]) (hv_eval : v.data.toList ≠ [101, 118, 97, 108]) (hv_circuit : v.data.toList ≠ [99, 105, 114, 99, 117, 105, 116]) (hv_clear : v.data.toList ≠ [99, 108, 101, 97, 114]) (hv_show : v.data.toList ≠ [115, 104, 111, 119]) (hv_run : v.data.toList ≠ [114, 117, 110]) (hv_prove : v.data.toList ≠ [112, 114, 111, 118, 101]) :
    Calls Tryz.prog 16 #[.pointer (some ⟨d, 0, none⟩), .string v, .slice ao n c] w fun e w' => aOut d (stepR s.data.toList (v.data.toList :: ps.map (·.data.toList))) w e w' := by
  have HA : Hid (stepR s.data.toList (v.data.toList :: ps.map (·.data.toList)) = (s.data.toList, wrongD 3 ++ [10])) := hid (by
    rw [stepR_ans h35 hv_circuit hv_clear, ansD_other (fun x hx => by
      simp only [List.mem_cons, List.not_mem_nil, or_false] at hx
      rcases hx with rfl | rfl | rfl | rfl | rfl | rfl | rfl | rfl | rfl | rfl | rfl
      · exact hv_add
      · exact hv_sub
      · exact hv_mul
      · exact hv_pow
      · exact hv_inv
      · exact hv_show
      · exact hv_sum
      · exact hv_root
      · exact hv_eval
      · exact hv_run
      · exact hv_prove)])
  rw [HA.out]
  have HW := hid (tellE_any 3 w (by omega) ht)
  have HD := hid hd
  have e_add : (v.toList == [97, 100, 100]) = false := beq_eq_false_iff_ne.2 (by rw [Lib.toList_data]; exact hv_add)
  have e_sub : (v.toList == [115, 117, 98]) = false := beq_eq_false_iff_ne.2 (by rw [Lib.toList_data]; exact hv_sub)
  have e_mul : (v.toList == [109, 117, 108]) = false := beq_eq_false_iff_ne.2 (by rw [Lib.toList_data]; exact hv_mul)
  have e_pow : (v.toList == [112, 111, 119]) = false := beq_eq_false_iff_ne.2 (by rw [Lib.toList_data]; exact hv_pow)
  have e_inv : (v.toList == [105, 110, 118]) = false := beq_eq_false_iff_ne.2 (by rw [Lib.toList_data]; exact hv_inv)
  have e_sum : (v.toList == [115, 117, 109]) = false := beq_eq_false_iff_ne.2 (by rw [Lib.toList_data]; exact hv_sum)
  have e_root : (v.toList == [114, 111, 111, 116]) = false := beq_eq_false_iff_ne.2 (by rw [Lib.toList_data]; exact hv_root)
  have e_eval : (v.toList == [101, 118, 97, 108]) = false := beq_eq_false_iff_ne.2 (by rw [Lib.toList_data]; exact hv_eval)
  have e_circuit : (v.toList == [99, 105, 114, 99, 117, 105, 116]) = false := beq_eq_false_iff_ne.2 (by rw [Lib.toList_data]; exact hv_circuit)
  have e_clear : (v.toList == [99, 108, 101, 97, 114]) = false := beq_eq_false_iff_ne.2 (by rw [Lib.toList_data]; exact hv_clear)
  have e_show : (v.toList == [115, 104, 111, 119]) = false := beq_eq_false_iff_ne.2 (by rw [Lib.toList_data]; exact hv_show)
  have e_run : (v.toList == [114, 117, 110]) = false := beq_eq_false_iff_ne.2 (by rw [Lib.toList_data]; exact hv_run)
  have e_prove : (v.toList == [112, 114, 111, 118, 101]) = false := beq_eq_false_iff_ne.2 (by rw [Lib.toList_data]; exact hv_prove)
  clear ht hd h35 hv_add hv_sub hv_mul hv_pow hv_inv hv_sum hv_root hv_eval hv_circuit hv_clear hv_show hv_run hv_prove
  go_enter Tryz.func16, Tryz.ntmps16
  go_wp2_with fail
  refine (HW.out).mono ?_
  rintro e w1 ⟨rfl, hb⟩
  have HB := hid hb
  clear hb
  go_wp2_with fail
  go_ret
  exact ⟨s, _, rfl, rfl, HD.out.kept HB.out, DkK.of HB.out HD.out.lt⟩

theorem lit_of {v : ByteArray} {l : List UInt8} (h : v.data.toList = l) : v = ⟨l.toArray⟩ := list_inj (by rw [h])
/-- answer, at every line. -/
theorem answ_any (d : Nat) (s v : ByteArray) (ps : List ByteArray) (ao : Option Addr) (n c : Nat) (w : World) (ht : DW w) (hd : Dsk w d s) (hs : s.size ≤ 4096) (hn : ps.length = n) (hn2 : n ≤ 2000000) (hc : n ≤ c) (hcm : c ≤ maxLen) (hz : ∀ p ∈ ps, p.size ≤ 2000000) (hr : SLst w ao ps) (h35 : v.data.toList.head? ≠ some 35) :
    Calls Tryz.prog 16 #[.pointer (some ⟨d, 0, none⟩), .string v, .slice ao n c] w fun e w' => aOut d (stepR s.data.toList (v.data.toList :: ps.map (·.data.toList))) w e w' := by
  by_cases hv_add : v.data.toList = [97, 100, 100]
  · rw [hv_add, lit_of hv_add]
    exact answ_add d s ps ao n c w ht hd hs hn hn2 hc hcm hz hr
  by_cases hv_sub : v.data.toList = [115, 117, 98]
  · rw [hv_sub, lit_of hv_sub]
    exact answ_sub d s ps ao n c w ht hd hs hn hn2 hc hcm hz hr
  by_cases hv_mul : v.data.toList = [109, 117, 108]
  · rw [hv_mul, lit_of hv_mul]
    exact answ_mul d s ps ao n c w ht hd hs hn hn2 hc hcm hz hr
  by_cases hv_pow : v.data.toList = [112, 111, 119]
  · rw [hv_pow, lit_of hv_pow]
    exact answ_pow d s ps ao n c w ht hd hs hn hn2 hc hcm hz hr
  by_cases hv_inv : v.data.toList = [105, 110, 118]
  · rw [hv_inv, lit_of hv_inv]
    exact answ_inv d s ps ao n c w ht hd hs hn hn2 hc hcm hz hr
  by_cases hv_sum : v.data.toList = [115, 117, 109]
  · rw [hv_sum, lit_of hv_sum]
    exact answ_sum d s ps ao n c w ht hd hs hn hn2 hc hcm hz hr
  by_cases hv_root : v.data.toList = [114, 111, 111, 116]
  · rw [hv_root, lit_of hv_root]
    exact answ_root d s ps ao n c w ht hd hs hn hn2 hc hcm hz hr
  by_cases hv_eval : v.data.toList = [101, 118, 97, 108]
  · rw [hv_eval, lit_of hv_eval]
    exact answ_eval d s ps ao n c w ht hd hs hn hn2 hc hcm hz hr
  by_cases hv_circuit : v.data.toList = [99, 105, 114, 99, 117, 105, 116]
  · rw [hv_circuit, lit_of hv_circuit]
    exact answ_circuit d s ps ao n c w ht hd hs hn hn2 hc hcm hz hr
  by_cases hv_clear : v.data.toList = [99, 108, 101, 97, 114]
  · rw [hv_clear, lit_of hv_clear]
    exact answ_clear d s ps ao n c w ht hd hs hn hn2 hc hcm hz hr
  by_cases hv_show : v.data.toList = [115, 104, 111, 119]
  · rw [hv_show, lit_of hv_show]
    exact answ_show d s ps ao n c w ht hd hs hn hn2 hc hcm hz hr
  by_cases hv_run : v.data.toList = [114, 117, 110]
  · rw [hv_run, lit_of hv_run]
    exact answ_run d s ps ao n c w ht hd hs hn hn2 hc hcm hz hr
  by_cases hv_prove : v.data.toList = [112, 114, 111, 118, 101]
  · rw [hv_prove, lit_of hv_prove]
    exact answ_prove d s ps ao n c w ht hd hs hn hn2 hc hcm hz hr
  exact answ_other d s v ps ao n c w ht hd h35 hv_add hv_sub hv_mul hv_pow hv_inv hv_sum hv_root hv_eval hv_circuit hv_clear hv_show hv_run hv_prove
end Go.Proofs.YtiohbjnnfkadnaaGreatDoor
