/-
  A contract of tallyref's Looked, for every input: it answers what Look answers; it makes new blocks and writes nothing that was there.
-/
import Derived.Test.YtoogpkcpheannacRefLk
import Derived.Test.YtoogpkcpheannacRefTree3
namespace Go.Proofs.Ytoogpkcpheannac
open Go.RowKit
set_option linter.unusedVariables false
attribute [local go_sem ↓] Go.wp_at_zero Go.wp_at_succ

set_option maxHeartbeats 2000000 in
set_option maxRecDepth 100000 in
theorem looked_arg (n m cp cpl nr cr N cl : Nat) (ap apl ar al : Option Addr) (root v : Int) (p : Nat → Int) (w : World) (hn : n ≤ maxLen) (hm : m ≤ maxLen) (hp : IRowP w apl m p) (h : ¬ argOk n m p) :
    Calls Try.prog 5 #[.int .u64 root, .slice ap n cp, .slice apl m cpl, .agg #[.slice ar nr cr, .int .u64 v, .slice al N cl]] w fun e w' => e = .returned (.tuple #[.bool false, .int .i64 1]) ∧ Below w.heap.size w w' := by
  have hm2 : n ≤ 9223372036854775807 := hn
  have HB := hid (bel_new w (.cells #[.slice ar nr cr, .int .u64 v, .slice al N cl] 27))
  have HI := hid (fun W => rin_any (n : Int) 1 8 W)
  by_cases h1 : 1 ≤ n ∧ n ≤ 8
  · have hb : (decide ((1 : Int) ≤ (n : Int)) && decide ((n : Int) ≤ 8)) = true := by simp; omega
    rw [hb] at HI
    have HA := hid (rplaces_any m cpl n apl p (w.alloc (.cells #[.slice ar nr cr, .int .u64 v, .slice al N cl] 27)) h1.1 h1.2 hm (hp.kept HB.out))
    have HNO : Hid (¬ plOk m n p) := hid (fun h2 => h ⟨h1.1, h1.2, h2⟩)
    clear h hp hb
    go_enter Try.func5, Try.ntmps5
    go_wp2_with (go_at_call 10; refine (HI.out _).mono ?_; rintro e w' ⟨rfl, hw⟩; obtain rfl := hw.symm)
    refine (HA.out).mono ?_
    rintro e w1 ⟨r, rfl, hr, hb1⟩
    have hr2 : r = false := by
      cases r
      · rfl
      · exact absurd (hr.1 rfl) HNO.out
    subst hr2
    have HB1 := hid (HB.out.trans (hb1.mono HB.out.size))
    clear hr hb1
    go_wp2_with fail
    go_ret2
    exact ⟨rfl, HB1.out⟩
  · have hb : (decide ((1 : Int) ≤ (n : Int)) && decide ((n : Int) ≤ 8)) = false := by simp; omega
    rw [hb] at HI
    clear h hp hb
    go_enter Try.func5, Try.ntmps5
    go_wp2_with (go_at_call 10; refine (HI.out _).mono ?_; rintro e w' ⟨rfl, hw⟩; obtain rfl := hw.symm)
    go_ret2
    exact ⟨rfl, HB.out⟩
set_option maxHeartbeats 4000000 in
set_option maxRecDepth 100000 in
theorem looked_roots (n m cp cpl nr cr N cl : Nat) (ap apl ar al : Option Addr) (root v : Int) (g p R : Nat → Int) (o : OQ) (mm : OM) (w : World) (n1 : 1 ≤ n) (n8 : n ≤ 8) (m32 : m ≤ 32) (HPL : Hid (plOk m n p)) (hNm : N ≤ 9223372036854775807) (h1 : nr ≠ n) (hp : IRowP w apl m p) (ho : OpRow w al o mm) :
    Calls Try.prog 5 #[.int .u64 root, .slice ap n cp, .slice apl m cpl, .agg #[.slice ar nr cr, .int .u64 v, .slice al N cl]] w fun e w' => e = .returned (.tuple #[.bool false, .int .i64 4]) ∧ Below w.heap.size w w' := by
  have hb0 := bel_new w (.cells #[.slice ar nr cr, .int .u64 v, .slice al N cl] 27)
  have HAP := hid (rplaces_any m cpl n apl p (w.alloc (.cells #[.slice ar nr cr, .int .u64 v, .slice al N cl] 27)) n1 n8 (by unfold maxLen; omega) (hp.kept hb0))
  have HS0 : Hid (StO w (w.alloc (.cells #[.slice ar nr cr, .int .u64 v, .slice al N cl] 27)) w.heap.size (.slice ar nr cr) (.int .u64 v) (.slice al N cl) al o mm) := hid ⟨hb0, Bx3.new w _ _ _ _, ho.kept hb0⟩
  have hb : (decide ((1 : Int) ≤ (n : Int)) && decide ((n : Int) ≤ 8)) = true := by simp; omega
  have HI := hid (fun W => rin_any (n : Int) 1 8 W)
  rw [hb] at HI
  have HP := hid hp
  have e1 : ((nr : Int) == (n : Int)) = false := by rw [beq_eq_false_iff_ne]; omega
  have e1b : ¬ (nr : Int) = (n : Int) := by omega
  clear hb0 hp ho hb
  go_enter Try.func5, Try.ntmps5
  go_wp2_with (go_at_call 10; refine (HI.out _).mono ?_; rintro e w' ⟨rfl, hw⟩; obtain rfl := hw.symm)
  obtain ⟨B, hB⟩ : ∃ B, w.heap.size = B := ⟨_, rfl⟩
  rw [hB] at HS0
  rw [hB]
  clear hB HI hw
  generalize w.alloc (.cells #[.slice ar nr cr, .int .u64 v, .slice al N cl] 27) = W0 at HS0 HAP ⊢
  refine (HAP.out).mono ?_
  rintro e W1 ⟨r, rfl, hr, hb1⟩
  have hr2 : r = true := hr.2 HPL.out
  subst hr2
  have HS1 := hid (HS0.out.next hb1)
  clear hr HAP hb1 HS0
  obtain ⟨z0, z1, z2⟩ := HS1.out.box
  go_wp2_with fail
  clear z0 z1 z2
  go_loopg [11, 12] N (fun q x11 x12 wr => q = N ∧ x11 = .bool false ∧ x12 = .int .i64 0 ∧ Hid (StO w wr B (.slice ar nr cr) (.int .u64 v) (.slice al N cl) al o mm))
  case atStart => exact ⟨rfl, rfl, rfl, HS1⟩
  case round =>
    clear HS1
    obtain ⟨hgN, rfl, rfl, HS⟩ := hrel
    clear hgN
    obtain ⟨z0, z1, z2⟩ := HS.out.box
    by_cases h0 : 0 < N
    · have d0 : decide ((0 : Int) < (N : Int)) = true := decide_eq_true (by omega)
      have d1 : (0 : Int) < (N : Int) := by omega
      go_wp2_with fail
      go_ret2
      exact ⟨rfl, HS.out.bel⟩
    · have d0 : decide ((0 : Int) < (N : Int)) = false := decide_eq_false (by omega)
      have d1 : ¬ (0 : Int) < (N : Int) := by omega
      go_wp2_with fail
      go_ret2
      exact ⟨rfl, HS.out.bel⟩
set_option maxHeartbeats 4000000 in
set_option maxRecDepth 100000 in
theorem looked_looks (n m cp cpl nr cr N cl : Nat) (ap apl ar al : Option Addr) (root v : Int) (g p R : Nat → Int) (o : OQ) (mm : OM) (w : World) (n1 : 1 ≤ n) (n8 : n ≤ 8) (m32 : m ≤ 32) (HPL : Hid (plOk m n p)) (hNm : N ≤ 9223372036854775807) (h1 : nr = n) (h2 : N ≠ m) (hp : IRowP w apl m p) (ho : OpRow w al o mm) :
    Calls Try.prog 5 #[.int .u64 root, .slice ap n cp, .slice apl m cpl, .agg #[.slice ar nr cr, .int .u64 v, .slice al N cl]] w fun e w' => e = .returned (.tuple #[.bool false, .int .i64 4]) ∧ Below w.heap.size w w' := by
  have hb0 := bel_new w (.cells #[.slice ar nr cr, .int .u64 v, .slice al N cl] 27)
  have HAP := hid (rplaces_any m cpl n apl p (w.alloc (.cells #[.slice ar nr cr, .int .u64 v, .slice al N cl] 27)) n1 n8 (by unfold maxLen; omega) (hp.kept hb0))
  have HS0 : Hid (StO w (w.alloc (.cells #[.slice ar nr cr, .int .u64 v, .slice al N cl] 27)) w.heap.size (.slice ar nr cr) (.int .u64 v) (.slice al N cl) al o mm) := hid ⟨hb0, Bx3.new w _ _ _ _, ho.kept hb0⟩
  have hb : (decide ((1 : Int) ≤ (n : Int)) && decide ((n : Int) ≤ 8)) = true := by simp; omega
  have HI := hid (fun W => rin_any (n : Int) 1 8 W)
  rw [hb] at HI
  have HP := hid hp
  have e1 : ((nr : Int) == (n : Int)) = true := by rw [beq_iff_eq]; omega
  have e2 : ((N : Int) == (m : Int)) = false := by rw [beq_eq_false_iff_ne]; omega
  have e2b : ¬ (N : Int) = (m : Int) := by omega
  clear h1 h2
  clear hb0 hp ho hb
  go_enter Try.func5, Try.ntmps5
  go_wp2_with (go_at_call 10; refine (HI.out _).mono ?_; rintro e w' ⟨rfl, hw⟩; obtain rfl := hw.symm)
  obtain ⟨B, hB⟩ : ∃ B, w.heap.size = B := ⟨_, rfl⟩
  rw [hB] at HS0
  rw [hB]
  clear hB HI hw
  generalize w.alloc (.cells #[.slice ar nr cr, .int .u64 v, .slice al N cl] 27) = W0 at HS0 HAP ⊢
  refine (HAP.out).mono ?_
  rintro e W1 ⟨r, rfl, hr, hb1⟩
  have hr2 : r = true := hr.2 HPL.out
  subst hr2
  have HS1 := hid (HS0.out.next hb1)
  clear hr HAP hb1 HS0
  obtain ⟨z0, z1, z2⟩ := HS1.out.box
  go_wp2_with fail
  clear z0 z1 z2
  go_loopg [11, 12] N (fun q x11 x12 wr => q = N ∧ x11 = .bool false ∧ x12 = .int .i64 0 ∧ Hid (StO w wr B (.slice ar nr cr) (.int .u64 v) (.slice al N cl) al o mm))
  case atStart => exact ⟨rfl, rfl, rfl, HS1⟩
  case round =>
    clear HS1
    obtain ⟨hgN, rfl, rfl, HS⟩ := hrel
    clear hgN
    obtain ⟨z0, z1, z2⟩ := HS.out.box
    by_cases h0 : 0 < N
    · have d0 : decide ((0 : Int) < (N : Int)) = true := decide_eq_true (by omega)
      have d1 : (0 : Int) < (N : Int) := by omega
      go_wp2_with fail
      go_ret2
      exact ⟨rfl, HS.out.bel⟩
    · have d0 : decide ((0 : Int) < (N : Int)) = false := decide_eq_false (by omega)
      have d1 : ¬ (0 : Int) < (N : Int) := by omega
      go_wp2_with fail
      go_ret2
      exact ⟨rfl, HS.out.bel⟩
theorem fm_next {o : OQ} {n i : Nat} {b : Bool} (h : ∀ j, j < i → lkOk o n j) (hb : b = true ↔ lkOk o n i) : (b = true ↔ ∀ j, j < i + 1 → lkOk o n j) := by
  rw [hb]
  constructor
  · intro h3
    intro j hj
    by_cases e : j = i
    · rw [e]; exact h3
    · exact h j (by omega)
  · exact fun h3 => h3 i (by omega)
theorem tl_next2 {o : OQ} {n i k : Nat} {c : Bool} (h : ∀ j, j < k → o.tl i j 0 = n - j ∧ o.tl i j 1 = n - j) (hc : c = true ↔ o.tl i k 0 = n - k ∧ o.tl i k 1 = n - k) : (c = true ↔ ∀ j, j < k + 1 → o.tl i j 0 = n - j ∧ o.tl i j 1 = n - j) := by
  rw [hc]
  constructor
  · intro h3 j hj
    by_cases e : j = k
    · rw [e]; exact h3
    · exact h j (by omega)
  · exact fun h3 => h3 k (by omega)
theorem lk_end {o : OQ} {n i np nt k : Nat} {b : Bool} (h1 : o.np i = np) (h2 : o.nt i = nt) (hb : b = true ↔ np = n ∧ nt = n ∧ ∀ j, j < k → o.tl i j 0 = n - j ∧ o.tl i j 1 = n - j) (hk : b = true → k = n) (hn : k ≤ n) : (b = true ↔ lkOk o n i) := by
  unfold lkOk
  rw [h1, h2]
  constructor
  · intro h
    have e := hk h
    subst e
    exact hb.1 h
  · exact fun h => hb.2 ⟨h.1, h.2.1, fun j hj => h.2.2 j (by omega)⟩
theorem tl_next {o : OQ} {n i np nt k : Nat} {c : Bool} (h : np = n ∧ nt = n ∧ ∀ j, j < k → o.tl i j 0 = n - j ∧ o.tl i j 1 = n - j) (hc : c = true ↔ o.tl i k 0 = n - k ∧ o.tl i k 1 = n - k) : (c = true ↔ np = n ∧ nt = n ∧ ∀ j, j < k + 1 → o.tl i j 0 = n - j ∧ o.tl i j 1 = n - j) := by
  rw [hc]
  constructor
  · intro h3
    refine ⟨h.1, h.2.1, fun j hj => ?_⟩
    by_cases e : j = k
    · rw [e]; exact h3
    · exact h.2.2 j (by omega)
  · exact fun h3 => h3.2.2 k (by omega)

set_option maxHeartbeats 16000000 in
set_option maxRecDepth 100000 in
theorem looked_main (n m cp cpl nr cr N cl : Nat) (ap apl ar al : Option Addr) (root v : Int) (g p R : Nat → Int) (o : OQ) (mm : OM) (w : World) (n1 : 1 ≤ n) (n8 : n ≤ 8) (m32 : m ≤ 32) (HPL : Hid (plOk m n p)) (h1 : nr = n) (h2 : N = m) (hN : o.n = N) (hcp : ∀ i, i < o.n → ∀ k e, o.tl i k e ≤ mm.C i k e) (r0 : 0 ≤ root) (r1 : root ≤ 18446744073709551615) (v0 : 0 ≤ v) (v1 : v ≤ 18446744073709551615) (hg : PRow w ap n g) (hgv : Nums g) (hp : IRowP w apl m p) (hR : PRow w ar nr R) (hRv : Nums R) (ho : OpRow w al o mm) (hov : o.nums) :
    Calls Try.prog 5 #[.int .u64 root, .slice ap n cp, .slice apl m cpl, .agg #[.slice ar nr cr, .int .u64 v, .slice al N cl]] w (lookPost w n root g m p nr R v o) := by
  have hb0 := bel_new w (.cells #[.slice ar nr cr, .int .u64 v, .slice al N cl] 27)
  have HAP := hid (rplaces_any m cpl n apl p (w.alloc (.cells #[.slice ar nr cr, .int .u64 v, .slice al N cl] 27)) n1 n8 (by unfold maxLen; omega) (hp.kept hb0))
  have HS0 : Hid (StO w (w.alloc (.cells #[.slice ar nr cr, .int .u64 v, .slice al N cl] 27)) w.heap.size (.slice ar nr cr) (.int .u64 v) (.slice al N cl) al o mm) := hid ⟨hb0, Bx3.new w _ _ _ _, ho.kept hb0⟩
  have hb : (decide ((1 : Int) ≤ (n : Int)) && decide ((n : Int) ≤ 8)) = true := by simp; omega
  have HI := hid (fun W => rin_any (n : Int) 1 8 W)
  rw [hb] at HI
  have HP := hid hp
  have e1 : ((nr : Int) == (n : Int)) = true := by rw [beq_iff_eq]; omega
  have e2 : ((N : Int) == (m : Int)) = true := by rw [beq_iff_eq]; omega
  have HN := hid hN
  have HG := hid (And.intro hg hgv)
  have HR := hid (And.intro hR hRv)
  have HO := hid (And.intro ho hov)
  have HCP := hid hcp
  have HNR := hid h1
  have HNM := hid h2
  have N32 : N ≤ 32 := by omega
  clear h1 h2 hN hg hgv hR hRv hov hcp
  clear hb0 hp ho hb
  go_enter Try.func5, Try.ntmps5
  go_wp2_with (go_at_call 10; refine (HI.out _).mono ?_; rintro e w' ⟨rfl, hw⟩; obtain rfl := hw.symm)
  obtain ⟨B, hB⟩ : ∃ B, w.heap.size = B := ⟨_, rfl⟩
  rw [hB] at HS0
  rw [hB]
  clear hB HI hw
  generalize w.alloc (.cells #[.slice ar nr cr, .int .u64 v, .slice al N cl] 27) = W0 at HS0 HAP ⊢
  refine (HAP.out).mono ?_
  rintro e W1 ⟨r, rfl, hr, hb1⟩
  have hr2 : r = true := hr.2 HPL.out
  subst hr2
  have HS1 := hid (HS0.out.next hb1)
  clear hr HAP hb1 HS0
  obtain ⟨z0, z1, z2⟩ := HS1.out.box
  go_wp2_with fail
  clear z0 z1 z2 e1 e2
  go_loopg [11, 12] N (fun q x11 x12 wr => ∃ (i : Nat) (b : Bool), i ≤ N ∧ q = N - i ∧ x11 = .bool b ∧ x12 = .int .i64 (i : Int) ∧ Hid (b = true ↔ ∀ j, j < i → lkOk o n j) ∧ Hid (StO w wr B (.slice ar nr cr) (.int .u64 v) (.slice al N cl) al o mm))
  case atStart => exact ⟨0, true, by omega, rfl, rfl, rfl, hid ⟨fun _ j hj => absurd hj (by omega), fun _ => rfl⟩, HS1⟩
  case round =>
    clear HS1
    obtain ⟨i, b, hi, rfl, rfl, rfl, HK, HS⟩ := hrel
    obtain ⟨z0, z1, z2⟩ := HS.out.box
    cases b with
    | false =>
      have HNO : Hid (¬ ofmQ nr n m o) := hid (fun h => by have := HK.out.2 (fun j hj => h.2.2 j (by rw [HN.out]; omega)); cases this)
      have HAO : Hid (argOk n m p) := hid ⟨n1, n8, HPL.out⟩
      by_cases h0 : i < N
      · have d0 : decide ((i : Int) < (N : Int)) = true := decide_eq_true (by omega)
        have d1 : (i : Int) < (N : Int) := by omega
        go_wp2_with fail
        go_ret2
        exact ⟨false, 4, rfl, .inr (.inl ⟨HAO.out, HNO.out, rfl, rfl⟩), HS.out.bel⟩
      · have d0 : decide ((i : Int) < (N : Int)) = false := decide_eq_false (by omega)
        have d1 : ¬ (i : Int) < (N : Int) := by omega
        go_wp2_with fail
        go_ret2
        exact ⟨false, 4, rfl, .inr (.inl ⟨HAO.out, HNO.out, rfl, rfl⟩), HS.out.bel⟩
    | true =>
      have HK1 : Hid (∀ j, j < i → lkOk o n j) := hid (HK.out.1 rfl)
      clear HK
      by_cases hlt : i < N
      · have d0 : decide ((i : Int) < (N : Int)) = true := decide_eq_true (by omega)
        have d1 : (i : Int) < (N : Int) := by omega
        have i0 : (0 : Int) ≤ (i : Int) := by omega
        obtain ⟨bl, ol, rfl, hrow⟩ := HS.out.row (by rw [HN.out]; omega)
        obtain ⟨c0, c1, _, htr⟩ := hrow i (by rw [HN.out]; exact hlt)
        rw [Nat.mul_comm 2 i] at c0 c1
        obtain ⟨np, hnp⟩ : ∃ x, o.np i = x := ⟨_, rfl⟩
        obtain ⟨nt, hnt⟩ : ∃ x, o.nt i = x := ⟨_, rfl⟩
        rw [hnp] at c0
        rw [hnt] at c1 htr
        have HNN := hid (And.intro hnp hnt)
        have HTR := hid htr
        have HTE : Hid (∀ W, StO w W B (.slice ar nr cr) (.int .u64 v) (.slice (some ⟨bl, ol, none⟩) N cl) (some ⟨bl, ol, none⟩) o mm → 0 < nt → ∃ bt ot, mm.ta i = some ⟨bt, ot, none⟩ ∧ ∀ k, k < nt → W.cell? ⟨bt, ot + k * 2, none⟩ = some (.slice (mm.A i k 0) (o.tl i k 0) (mm.C i k 0)) ∧ W.cell? ⟨bt, ot + k * 2 + 1, none⟩ = some (.slice (mm.A i k 1) (o.tl i k 1) (mm.C i k 1)) ∧ W.cell? ⟨bl, ol + i * 2 + 1, none⟩ = some (.slice (mm.ta i) nt (mm.tc i))) := hid (fun W h h0 => by
          obtain ⟨b', o', e, hr'⟩ := h.row (by rw [HN.out]; omega)
          injection e with e; injection e with e1 e2
          subst e1; subst e2
          obtain ⟨g0, g1, _, g2⟩ := hr' i (by rw [HN.out]; exact hlt)
          rw [hnt] at g1 g2
          obtain ⟨bt, ot, e3, g3⟩ := g2 h0
          refine ⟨bt, ot, e3, fun k hk => ?_⟩
          obtain ⟨k1, k2, _, _⟩ := g3 k hk
          rw [Nat.mul_comm 2 k] at k1 k2
          rw [Nat.mul_comm 2 i] at g1
          exact ⟨k1, k2, g1⟩)
        obtain ⟨pa, hpa⟩ : ∃ x, mm.pa i = x := ⟨_, rfl⟩
        obtain ⟨ta, hta⟩ : ∃ x, mm.ta i = x := ⟨_, rfl⟩
        obtain ⟨pc, hpc⟩ : ∃ x, mm.pc i = x := ⟨_, rfl⟩
        obtain ⟨tc, htc⟩ : ∃ x, mm.tc i = x := ⟨_, rfl⟩
        rw [hpa, hpc] at c0
        rw [hta, htc] at c1
        rw [hta, htc] at HTE
        clear hrow htr hnp hnt hpa hta hpc htc HTR
        by_cases h3 : np = n
        · have e3 : ((np : Int) == (n : Int)) = true := by rw [beq_iff_eq]; omega
          by_cases h4 : nt = n
          · have e4 : ((nt : Int) == (n : Int)) = true := by rw [beq_iff_eq]; omega
            have H34 := hid (And.intro h3 h4)
            clear h3 h4
            go_wp2_with fail
            clear z0 z1 z2 c0 c1 e3 e4
            go_loopg [11, 13] n (fun q x11 x13 ws => ∃ (k : Nat) (c : Bool), k ≤ n ∧ q = n - k ∧ x11 = .bool c ∧ x13 = .int .i64 (k : Int) ∧ Hid (c = true ↔ ∀ j, j < k → o.tl i j 0 = n - j ∧ o.tl i j 1 = n - j) ∧ Hid (StO w ws B (.slice ar nr cr) (.int .u64 v) (.slice (some ⟨bl, ol, none⟩) N cl) (some ⟨bl, ol, none⟩) o mm))
            case atStart => exact ⟨0, true, by omega, rfl, rfl, rfl, hid ⟨fun _ j hj => absurd hj (by omega), fun _ => rfl⟩, HS⟩
            case round =>
              clear HS
              obtain ⟨k, c, hk, rfl, rfl, rfl, HC, HS⟩ := hrel
              cases c with
              | false =>
                have HK2 : Hid (false = true ↔ ∀ j, j < i + 1 → lkOk o n j) := hid (fm_next HK1.out ⟨fun h => (by cases h), fun h => HC.out.2 (fun j hj => h.2.2 j (by omega))⟩)
                by_cases hkl : k < n
                · have d0 : decide ((k : Int) < (n : Int)) = true := decide_eq_true (by omega)
                  have d1 : (k : Int) < (n : Int) := by omega
                  go_wp2_with fail
                  go_roundg (N - (i + 1))
                  case measure => go_light; omega
                  case rel => exact ⟨i + 1, false, by omega, rfl, rfl, by go_num, HK2, HS⟩
                · have d0 : decide ((k : Int) < (n : Int)) = false := decide_eq_false (by omega)
                  have d1 : ¬ (k : Int) < (n : Int) := by omega
                  go_wp2_with fail
                  go_roundg (N - (i + 1))
                  case measure => go_light; omega
                  case rel => exact ⟨i + 1, false, by omega, rfl, rfl, by go_num, HK2, HS⟩
              | true =>
                have HC1 : Hid (∀ j, j < k → o.tl i j 0 = n - j ∧ o.tl i j 1 = n - j) := hid (HC.out.1 rfl)
                clear HC
                by_cases hkl : k < n
                · have d0 : decide ((k : Int) < (n : Int)) = true := decide_eq_true (by omega)
                  have d1 : (k : Int) < (n : Int) := by omega
                  have k0 : (0 : Int) ≤ (k : Int) := by omega
                  have k1 : (k : Int) < (nt : Int) := by have := H34.out.2; omega
                  obtain ⟨bt, ot, rfl, htr⟩ := HTE.out _ HS.out (by have := H34.out.2; omega)
                  obtain ⟨u0, u1, c1⟩ := htr k (by have := H34.out.2; omega)
                  obtain ⟨l0, hl0⟩ : ∃ x, o.tl i k 0 = x := ⟨_, rfl⟩
                  obtain ⟨l1, hl1⟩ : ∃ x, o.tl i k 1 = x := ⟨_, rfl⟩
                  obtain ⟨a0, ha0⟩ : ∃ x, mm.A i k 0 = x := ⟨_, rfl⟩
                  obtain ⟨a1, ha1⟩ : ∃ x, mm.A i k 1 = x := ⟨_, rfl⟩
                  obtain ⟨q0, hq0⟩ : ∃ x, mm.C i k 0 = x := ⟨_, rfl⟩
                  obtain ⟨q1, hq1⟩ : ∃ x, mm.C i k 1 = x := ⟨_, rfl⟩
                  rw [hl0, ha0, hq0] at u0
                  rw [hl1, ha1, hq1] at u1
                  have HL01 := hid (And.intro hl0 hl1)
                  clear htr hl0 hl1 ha0 ha1 hq0 hq1
                  obtain ⟨z0, z1, z2⟩ := HS.out.box
                  have hbx := bel_new wr (.cells #[.slice a0 l0 q0, .slice a1 l1 q1] 43)
                  have HS3 := hid (HS.out.next hbx)
                  clear hbx HS
                  by_cases h5 : l0 = n - k
                  · have e5 : ((l0 : Int) == (n : Int) - (k : Int)) = true := by rw [beq_iff_eq]; omega
                    have H5 := hid h5
                    clear h5
                    by_cases h6 : l1 = n - k
                    · have e6 : ((l1 : Int) == (n : Int) - (k : Int)) = true := by rw [beq_iff_eq]; omega
                      have H6 := hid h6
                      clear h6
                      go_wp2_with fail
                      go_roundg (n - (k + 1))
                      case measure => go_light; omega
                      case rel => exact ⟨k + 1, true, by omega, rfl, rfl, by go_num, hid (tl_next2 HC1.out (by rw [HL01.out.1, HL01.out.2]; exact ⟨fun _ => ⟨H5.out, H6.out⟩, fun _ => rfl⟩)), HS3⟩
                    · have e6 : ((l1 : Int) == (n : Int) - (k : Int)) = false := by rw [beq_eq_false_iff_ne]; omega
                      go_wp2_with fail
                      go_roundg (n - (k + 1))
                      case measure => go_light; omega
                      case rel => exact ⟨k + 1, false, by omega, rfl, rfl, by go_num, hid (tl_next2 HC1.out (by rw [HL01.out.1, HL01.out.2]; exact ⟨fun h => (by cases h), fun h => absurd h.2 h6⟩)), HS3⟩
                  · have e5 : ((l0 : Int) == (n : Int) - (k : Int)) = false := by rw [beq_eq_false_iff_ne]; omega
                    go_wp2_with fail
                    go_roundg (n - (k + 1))
                    case measure => go_light; omega
                    case rel => exact ⟨k + 1, false, by omega, rfl, rfl, by go_num, hid (tl_next2 HC1.out (by rw [HL01.out.1, HL01.out.2]; exact ⟨fun h => (by cases h), fun h => absurd h.1 h5⟩)), HS3⟩
                · have d0 : decide ((k : Int) < (n : Int)) = false := decide_eq_false (by omega)
                  have d1 : ¬ (k : Int) < (n : Int) := by omega
                  have HK2 : Hid (true = true ↔ ∀ j, j < i + 1 → lkOk o n j) := hid (fm_next HK1.out ⟨fun _ => ⟨HNN.out.1.trans H34.out.1, HNN.out.2.trans H34.out.2, fun j hj => HC1.out j (by omega)⟩, fun _ => rfl⟩)
                  go_wp2_with fail
                  go_roundg (N - (i + 1))
                  case measure => go_light; omega
                  case rel => exact ⟨i + 1, true, by omega, rfl, rfl, by go_num, hid (by simpa using HK2.out), HS⟩
          · have e4 : ((nt : Int) == (n : Int)) = false := by rw [beq_eq_false_iff_ne]; omega
            have H3 := hid h3
            clear h3
            go_wp2_with fail
            clear z0 z1 z2 c0 c1
            go_loopg [11, 13] n (fun q x11 x13 ws => q = n ∧ x11 = .bool false ∧ x13 = .int .i64 0 ∧ Hid (StO w ws B (.slice ar nr cr) (.int .u64 v) (.slice (some ⟨bl, ol, none⟩) N cl) (some ⟨bl, ol, none⟩) o mm))
            case atStart => exact ⟨rfl, rfl, rfl, HS⟩
            case round =>
              clear HS
              obtain ⟨hgN, rfl, rfl, HS⟩ := hrel
              clear hgN
              have n0 : (0 : Int) < (n : Int) := by omega
              have n0d : decide ((0 : Int) < (n : Int)) = true := decide_eq_true n0
              have HK2 : Hid (false = true ↔ ∀ j, j < i + 1 → lkOk o n j) := hid (fm_next HK1.out ⟨fun h => (by cases h), fun h => absurd h (fun h => h4 (HNN.out.2.symm.trans h.2.1))⟩)
              go_wp2_with fail
              go_roundg (N - (i + 1))
              case measure => go_light; omega
              case rel => exact ⟨i + 1, false, by omega, rfl, rfl, by go_num, HK2, HS⟩
        · have e3 : ((np : Int) == (n : Int)) = false := by rw [beq_eq_false_iff_ne]; omega
          go_wp2_with fail
          clear z0 z1 z2 c0 c1
          go_loopg [11, 13] n (fun q x11 x13 ws => q = n ∧ x11 = .bool false ∧ x13 = .int .i64 0 ∧ Hid (StO w ws B (.slice ar nr cr) (.int .u64 v) (.slice (some ⟨bl, ol, none⟩) N cl) (some ⟨bl, ol, none⟩) o mm))
          case atStart => exact ⟨rfl, rfl, rfl, HS⟩
          case round =>
            clear HS
            obtain ⟨hgN, rfl, rfl, HS⟩ := hrel
            clear hgN
            have n0 : (0 : Int) < (n : Int) := by omega
            have n0d : decide ((0 : Int) < (n : Int)) = true := decide_eq_true n0
            have HK2 : Hid (false = true ↔ ∀ j, j < i + 1 → lkOk o n j) := hid (fm_next HK1.out ⟨fun h => (by cases h), fun h => absurd h (fun h => h3 (HNN.out.1.symm.trans h.1))⟩)
            go_wp2_with fail
            go_roundg (N - (i + 1))
            case measure => go_light; omega
            case rel => exact ⟨i + 1, false, by omega, rfl, rfl, by go_num, HK2, HS⟩
      · have e : i = N := by omega
        subst e
        have d0 : decide ((i : Int) < (i : Int)) = false := decide_eq_false (by omega)
        have HFO : Hid (o.form n) := hid (fun j hj => HK1.out j (by rw [HN.out] at hj; exact hj))
        have HOF : Hid (ofmQ nr n m o) := hid ⟨HNR.out, HN.out.trans HNM.out, HFO.out⟩
        have HAO : Hid (argOk n m p) := hid ⟨n1, n8, HPL.out⟩
        obtain ⟨br, orr, rfl, hRr⟩ := HR.out.1 (by have := HNR.out; omega)
        have HRr := hid hRr
        have cR := (hRr.kept HS.out.bel (hRr.lt (by have := HNR.out; omega))) (n - 1) (by have := HNR.out; omega)
        have HRV := HR.out.2 (n - 1)
        have HL0 : Hid ((climbQ 0 0 v (fun _ => 0) == nrm (R (n - 1))) = false → lookB n root g m (fun j => (p j).toNat) R v o = false) := hid look_not
        have HL1 : Hid ((climbQ 0 0 v (fun _ => 0) == nrm (R (n - 1))) = true → lookB n root g m (fun j => (p j).toNat) R v o = allB m fun i => allB n fun k => fitB n (rtQ root R) g v (o.P i) (o.T i) ((p i).toNat) k) := hid look_is
        have hc0 : climbQ 0 0 v (fun _ => 0) = prQ v 0 := rfl
        rw [hc0] at HL0 HL1
        generalize R (n - 1) = y at cR HRV HL0 HL1
        have HNO := hid (fun W => rnorm_any y W HRV.1 HRV.2)
        have HPR := hid (fun W => rpair_prQ v 0 W v0 v1 (by omega) (by omega))
        obtain ⟨b, hb⟩ : ∃ b, (prQ v 0 == nrm y) = b := ⟨_, rfl⟩
        rw [hb] at HL0 HL1
        have hb2 : (nrm y != prQ v 0) = !b := by rw [← hb, bne, BEq.comm]
        generalize prQ v 0 = pv at HPR hb2
        obtain ⟨q, hq⟩ : ∃ q, n - 1 = q := ⟨_, rfl⟩
        rw [hq] at cR
        have hq2 : (n : Int) - 1 = (q : Int) := by omega
        have q0 : (0 : Int) ≤ (q : Int) := by omega
        have q1 : (q : Int) < (nr : Int) := by have := HNR.out; omega
        have q2 : q < nr := by have := HNR.out; omega
        clear hRr HRV hc0 hb hq HK1 hi hlt
        obtain ⟨SS, hSS⟩ : ∃ SS : World → Prop, SS = (fun W => W.cell? ⟨B, 0, none⟩ = some (.slice (some ⟨br, orr, none⟩) nr cr) ∧ W.cell? ⟨B, 1, none⟩ = some (.int .u64 v) ∧ W.cell? ⟨br, orr + q, none⟩ = some (.int .u64 y)) := ⟨_, rfl⟩
        have HSS : Hid (∀ W, (fun W => W.cell? ⟨B, 0, none⟩ = some (.slice (some ⟨br, orr, none⟩) nr cr) ∧ W.cell? ⟨B, 1, none⟩ = some (.int .u64 v) ∧ W.cell? ⟨br, orr + q, none⟩ = some (.int .u64 y)) W → SS W) := hid (fun W h => by rw [hSS]; exact h)
        have HSU : Hid (∀ W, SS W → (fun W => W.cell? ⟨B, 0, none⟩ = some (.slice (some ⟨br, orr, none⟩) nr cr) ∧ W.cell? ⟨B, 1, none⟩ = some (.int .u64 v) ∧ W.cell? ⟨br, orr + q, none⟩ = some (.int .u64 y)) W) := hid (fun W h => by rw [hSS] at h; exact h)
        clear hSS
        have FC : Hid ((fun W => W.cell? ⟨B, 0, none⟩ = some (.slice (some ⟨br, orr, none⟩) nr cr) ∧ W.cell? ⟨B, 1, none⟩ = some (.int .u64 v) ∧ W.cell? ⟨br, orr + q, none⟩ = some (.int .u64 y)) wr) := hid ⟨z0, z1, cR⟩
        have hc0 : ∀ t : QT wr SS, t.w.cell? ⟨B, 0, none⟩ = some (.slice (some ⟨br, orr, none⟩) nr cr) := fun t => (HSU.out _ t.s).1
        have hc1 : ∀ t : QT wr SS, t.w.cell? ⟨B, 1, none⟩ = some (.int .u64 v) := fun t => (HSU.out _ t.s).2.1
        have hc2 : ∀ t : QT wr SS, t.w.cell? ⟨br, orr + q, none⟩ = some (.int .u64 y) := fun t => (HSU.out _ t.s).2.2
        clear z0 z1 cR
        go_wp2_with fail
        refine wp_region_grown SS (by kernel_rfl) (by kernel_rfl) (HSS.out _ FC.out) ?_
        haveI : Nonempty (QT wr SS) := QT.ne (HSS.out _ FC.out)
        have HKS : Hid (∀ (t : QT wr SS) w', Below t.w.heap.size t.w w' → SS w') := hid (fun t w' hb => HSS.out _ (by obtain ⟨e1, e2, e3⟩ := HSU.out _ t.s; exact ⟨keepC hb e1, keepC hb e2, keepC hb e3⟩))
        repeat (first | go_big_quiet_skip | (go_big_quiet_want; go_big_quiet_op; first | go_big_quiet_on | go_big_quiet_call (first | (go_at_call 12; exact Calls.grown_same (HNO.out _)) | (go_at_call 13; exact Calls.grown_of (HPR.out _) (HKS.out _)))))
        refine wpQuiet_nil ?_
        intro _ hw'
        obtain ⟨tq, hw''⟩ := hw'
        subst hw''
        have HS3 := hid (HS.out.next tq.b)
        clear hc0 hc1 hc2 HKS FC HSU HSS HNO HPR HS z2
        obtain ⟨W3, hwq⟩ : ∃ wq, tq.w = wq := ⟨_, rfl⟩
        rw [hwq] at HS3 ⊢
        clear hwq
        clear tq
        clear this
        clear SS
        cases b with
        | false =>
          have hb3 : (nrm y != pv) = true := hb2
          clear hb2
          go_wp2_with fail
          go_ret2
          exact ⟨false, 0, rfl, .inr (.inr ⟨HAO.out, HOF.out, (HL0.out (by first | rfl | trivial)).symm, rfl⟩), HS3.out.bel⟩
        | true =>
          have hb3 : (nrm y != pv) = false := hb2
          have HAL := hid (HL1.out (by first | rfl | trivial))
          clear hb2 HL0 HL1
          go_wp2_with fail
          clear hb3
          go_loopg [15] m (fun q x ws => ∃ t : Nat, t ≤ m ∧ q = m - t ∧ x = .int .i64 (t : Int) ∧ Hid (∀ j, j < t → (allB n fun k => fitB n (rtQ root R) g v (o.P j) (o.T j) ((p j).toNat) k) = true) ∧ Hid (StO w ws B (.slice (some ⟨br, orr, none⟩) nr cr) (.int .u64 v) (.slice al i cl) al o mm))
          case atStart => exact ⟨0, by omega, rfl, rfl, hid (fun j hj => absurd hj (by omega)), HS3⟩
          case round =>
            clear HS3
            obtain ⟨t, ht, rfl, rfl, HK, HS⟩ := hrel
            by_cases htl : t < m
            · have t0 : (0 : Int) ≤ (t : Int) := by omega
              have t1 : (t : Int) < (m : Int) := by omega
              have t2 : (t : Int) < (i : Int) := by have := HNM.out; omega
              have t3 : t < i := by have := HNM.out; omega
              have hpt := HPL.out.2 t htl
              obtain ⟨pt, hptn⟩ : ∃ pt : Nat, p t = (pt : Int) := ⟨(p t).toNat, by omega⟩
              have HPT : Hid ((p t).toNat = pt) := hid (by omega)
              obtain ⟨f0, f1, f2⟩ := HFO.out t (by rw [HN.out]; exact t3)
              have HF2 := hid f2
              have HF01 := hid (And.intro f0 f1)
              clear hpt f0 f1 f2
              have HPTN := hid hptn
              clear hptn
              go_wp2_with fail
              go_loopg [16] n (fun q x ws => ∃ k : Nat, k ≤ n ∧ q = n - k ∧ x = .int .i64 (k : Int) ∧ Hid (∀ j, j < k → fitB n (rtQ root R) g v (o.P t) (o.T t) pt j = true) ∧ Hid (StO w ws B (.slice (some ⟨br, orr, none⟩) nr cr) (.int .u64 v) (.slice al i cl) al o mm))
              case atStart => exact ⟨0, by omega, rfl, rfl, hid (fun j hj => absurd hj (by omega)), HS⟩
              case round =>
                clear HS
                obtain ⟨k, hk, rfl, rfl, HJ, HS⟩ := hrel
                by_cases hkl : k < n
                · have k0 : (0 : Int) ≤ (k : Int) := by omega
                  have k1 : (k : Int) < (n : Int) := by omega
                  obtain ⟨bpl, opl, rfl, hplr⟩ := (HP.out.kept HS.out.bel) (by omega)
                  have cp1 := hplr t htl
                  rw [HPTN.out] at cp1
                  have hpl2 := HPL.out.2 t htl
                  rw [HPTN.out] at hpl2
                  have hh0 := hfQ_le (k := 0) n8
                  have pt8 : pt ≤ 1000 := by omega
                  obtain ⟨bl, ol, rfl, hrow⟩ := HS.out.row (by rw [HN.out]; omega)
                  obtain ⟨d0, d1, hqr, htr⟩ := hrow t (by rw [HN.out]; exact t3)
                  rw [HF01.out.1] at d0 hqr
                  rw [HF01.out.2] at d1 htr
                  rw [Nat.mul_comm 2 t] at d0 d1
                  obtain ⟨hov0, hov1⟩ := HO.out
                  obtain ⟨bq, oq, eq1, hq3⟩ := hqr (by omega)
                  obtain ⟨bt, ot, et1, ht3⟩ := htr (by omega)
                  obtain ⟨u0, u1⟩ := hq3 k hkl
                  obtain ⟨g0, g1, pp0, pp1⟩ := ht3 k hkl
                  obtain ⟨L0, L1⟩ := HF2.out k hkl
                  have hC0 := HCP.out t (by rw [HN.out]; exact t3) k 0
                  have hC1 := HCP.out t (by rw [HN.out]; exact t3) k 1
                  rw [L0] at g0 pp0 hC0
                  rw [L1] at g1 pp1 hC1
                  have hq0 : pt % hfQ n k < hfQ n k := Nat.mod_lt _ (hfQ_pos n k)
                  have hH := hfQ_all hkl
                  have hxv := fun e => hov1 t k e
                  have HL1 := hid (fun W (hb : Below wr.heap.size wr W) => rclimb_any (n - k) (mm.C t k 0) (pt % hfQ n k) (mm.A t k 0) (o.P t k 0) (o.T t k 0) W (by omega) hC0 (pp0.kept hb) (hxv 0).2.2 (by omega) (hxv 0).1 (hxv 0).2.1)
                  have HL2 := hid (fun W (hb : Below wr.heap.size wr W) => rclimb_any (n - k) (mm.C t k 1) (pt % hfQ n k + hfQ n k) (mm.A t k 1) (o.P t k 1) (o.T t k 1) W (by omega) hC1 (pp1.kept hb) (hxv 1).2.2 (by omega) (hxv 1).1 (hxv 1).2.1)
                  have HF1 : Hid ((climbQ (n - k) (pt % hfQ n k) (o.P t k 0) (o.T t k 0) == nrm (rtQ root R k)) = false → fitB n (rtQ root R) g v (o.P t) (o.T t) pt k = false) := hid fit_no1
                  have HF2 : Hid ((climbQ (n - k) (pt % hfQ n k + hfQ n k) (o.P t k 1) (o.T t k 1) == nrm (rtQ root R k)) = false → fitB n (rtQ root R) g v (o.P t) (o.T t) pt k = false) := hid fit_no2
                  have HF3 : Hid ((btQ (o.P t k) (g k) == nrm (nxQ n (o.P t) v pt k)) = false → fitB n (rtQ root R) g v (o.P t) (o.T t) pt k = false) := hid fit_no3
                  have HF4 : Hid ((climbQ (n - k) (pt % hfQ n k) (o.P t k 0) (o.T t k 0) == nrm (rtQ root R k)) = true → (climbQ (n - k) (pt % hfQ n k + hfQ n k) (o.P t k 1) (o.T t k 1) == nrm (rtQ root R k)) = true → (btQ (o.P t k) (g k) == nrm (nxQ n (o.P t) v pt k)) = true → fitB n (rtQ root R) g v (o.P t) (o.T t) pt k = true) := hid fit_yes
                  have hrr : 0 ≤ rtQ root R k ∧ rtQ root R k ≤ 18446744073709551615 := by unfold rtQ; split; exact ⟨r0, r1⟩; exact HR.out.2 _
                  have HNR2 := hid (fun W => rnorm_any (rtQ root R k) W hrr.1 hrr.2)
                  have HRK : Hid ((k = 0 → rtQ root R k = root) ∧ (1 ≤ k → rtQ root R k = R (k - 1))) := hid ⟨fun h => by rw [rtQ, if_pos h], fun h => by rw [rtQ, if_neg (by omega)]⟩
                  generalize rtQ root R k = ry at HNR2 HRK HF1 HF2 HF4 hrr
                  generalize climbQ (n - k) (pt % hfQ n k) (o.P t k 0) (o.T t k 0) = y1 at HL1 HF1 HF4
                  generalize climbQ (n - k) (pt % hfQ n k + hfQ n k) (o.P t k 1) (o.T t k 1) = y2 at HL2 HF2 HF4
                  obtain ⟨b1, hb1⟩ : ∃ b1, (y1 == nrm ry) = b1 := ⟨_, rfl⟩
                  obtain ⟨b2, hb2⟩ : ∃ b2, (y2 == nrm ry) = b2 := ⟨_, rfl⟩
                  have hn1 : (y1 != nrm ry) = !b1 := by rw [← hb1]; rfl
                  have hn2 : (y2 != nrm ry) = !b2 := by rw [← hb2]; rfl
                  rw [hb1] at HF1 HF4
                  rw [hb2] at HF2 HF4
                  have hnr := nxQ_rng (n := n) (p := pt) (k := k) (fun k e => ⟨(hov1 t k e).1, (hov1 t k e).2.1⟩) v0 v1
                  have HNM2 := hid (fun W => rnorm_any (nxQ n (o.P t) v pt k) W hnr.1 hnr.2)
                  have HNV : Hid ((k + 1 = n → nxQ n (o.P t) v pt k = v) ∧ (k + 1 < n → ∃ c : Nat, c < 2 ∧ pt % hfQ n k / hfQ n (k + 1) = c ∧ nxQ n (o.P t) v pt k = o.P t (k + 1) c)) := hid ⟨fun h => by rw [nxQ, if_pos h], fun h => ⟨_, (mod_half h).2, rfl, by rw [nxQ, if_neg (by omega)]⟩⟩
                  have hgv := HG.out.2 k
                  obtain ⟨hov2, hov3⟩ : (0 ≤ o.P t k 0 ∧ o.P t k 0 ≤ 18446744073709551615) ∧ (0 ≤ o.P t k 1 ∧ o.P t k 1 ≤ 18446744073709551615) := ⟨⟨(hxv 0).1, (hxv 0).2.1⟩, ⟨(hxv 1).1, (hxv 1).2.1⟩⟩
                  have hbtd : btQ (o.P t k) (g k) = addQ (o.P t k 0) (mulQ (g k) (subQ (o.P t k 1) (o.P t k 0))) := rfl
                  rw [hbtd] at HF3 HF4
                  generalize nxQ n (o.P t) v pt k = nv at HNM2 HNV HF3 HF4 hnr
                  have HQ3 : Hid (k + 1 < n → wr.cell? ⟨bq, oq + (k + 1) * 2, none⟩ = some (.int .u64 (o.P t (k + 1) 0)) ∧ wr.cell? ⟨bq, oq + (k + 1) * 2 + 1, none⟩ = some (.int .u64 (o.P t (k + 1) 1))) := hid (fun h => by have := hq3 (k + 1) h; rw [Nat.mul_comm 2 (k + 1)] at this; exact this)
                  obtain ⟨bg, og, eg1, hgr⟩ := HG.out.1 (by omega)
                  have cg := (hgr.kept HS.out.bel (hgr.lt (by omega))) k hkl
                  have cRk : 1 ≤ k → wr.cell? ⟨br, orr + (k - 1), none⟩ = some (.int .u64 (R (k - 1))) := fun h => (HRr.out.kept HS.out.bel (HRr.out.lt (by have := HNR.out; omega))) (k - 1) (by have := HNR.out; omega)
                  have HCR := hid cRk
                  rw [Nat.mul_comm 2 k] at u0 u1 g0 g1
                  rw [eq1] at d0
                  rw [et1] at d1
                  generalize o.P t k 0 = x0 at u0 HL1 hov2 HF3 HF4
                  generalize o.P t k 1 = x1 at u1 HL2 hov3 HF3 HF4
                  generalize g k = gx at cg hgv HF3 HF4
                  obtain ⟨b3, hb3⟩ : ∃ b3, (addQ x0 (mulQ gx (subQ x1 x0)) == nrm nv) = b3 := ⟨_, rfl⟩
                  have hn3 : (addQ x0 (mulQ gx (subQ x1 x0)) != nrm nv) = !b3 := by rw [← hb3]; rfl
                  rw [hb3] at HF3 HF4
                  have hmod : (pt : Int) % ((hfQ n k : Nat) : Int) = ((pt % hfQ n k : Nat) : Int) := by simp
                  have hsq : ((pt % hfQ n k + hfQ n k : Nat) : Int) = ((pt % hfQ n k : Nat) : Int) + ((hfQ n k : Nat) : Int) := by simp
                  rw [hsq] at HL2
                  have HSL : Hid (wrap64 ((2 : Int) ^ (n - 1 - k)) = ((hfQ n k : Nat) : Int)) := hid (shl_c8 (by omega))
                  have hHp := hfQ_pos n k
                  have hHl := hfQ_le (k := k) n8
                  have HTWO : Hid (k + 1 < n → hfQ n k = 2 * hfQ n (k + 1) ∧ 1 ≤ hfQ n (k + 1)) := hid (fun h => ⟨hfQ_two h, hfQ_pos n (k + 1)⟩)
                  generalize pt % hfQ n k = q at HL1 HL2 hq0 hmod HNV
                  generalize hfQ n k = H at HL2 hq0 hmod HSL hHp hHl HTWO hH
                  generalize mm.A t k 0 = a0 at HL1 g0
                  generalize mm.A t k 1 = a1 at HL2 g1
                  generalize mm.C t k 0 = w0 at HL1 g0
                  generalize mm.C t k 1 = w1 at HL2 g1
                  generalize mm.pc t = pc at d0
                  generalize mm.tc t = tc at d1
                  generalize n - k = mk at HL1 HL2 g0 g1
                  obtain ⟨qq, hqq⟩ : ∃ qq, n - 1 - k = qq := ⟨_, rfl⟩
                  rw [hqq] at HSL
                  have hqi : (n : Int) - (k : Int) - 1 = (qq : Int) := by omega
                  have qq8 : qq ≤ 8 := by omega
                  obtain ⟨z0, z1, z2⟩ := HS.out.box
                  clear hplr hrow hqr htr hq3 ht3 pp0 pp1 hC0 hC1 L0 L1 hxv hov0 hov1 hb1 hb2 hb3 hbtd hsq hqq hpl2 hh0 hgr cRk eq1 et1 hH
                  have hz : ((H : Int) == 0) = false := by rw [beq_eq_false_iff_ne]; omega
                  have hz2 : ¬ (H : Int) = 0 := by omega
                  subst eg1
                  go_upto_region 25 with fail
                  rw [HSL.out]
                  go_upto_if 148 with fail
                  rw [hmod]
                  go_cut [19] (fun a19 wx => a19 = .int .u64 ry ∧ wx = wr)
                  case first =>
                    by_cases hk0 : k = 0
                    · have d5 : ¬ (0 : Int) < (k : Int) := by omega
                      have H5 := hid (HRK.out.1 hk0)
                      clear hk0
                      go_wp2_with fail
                      go_meet
                      exact ⟨by rw [H5.out], rfl⟩
                    · have d5 : (0 : Int) < (k : Int) := by omega
                      have e5 := HRK.out.2 (by omega)
                      have c5 := HCR.out (by omega)
                      obtain ⟨s5, hs5⟩ : ∃ s5, k - 1 = s5 := ⟨_, rfl⟩
                      rw [hs5] at c5 e5
                      have i5 : (k : Int) - 1 = (s5 : Int) := by omega
                      have i6 : (s5 : Int) < (nr : Int) := by have := HNR.out; omega
                      have i7 : s5 < nr := by have := HNR.out; omega
                      clear hk0 hs5
                      go_wp2_with fail
                      go_meet
                      exact ⟨by rw [e5], rfl⟩
                  case rest =>
                    obtain ⟨rfl, hwc⟩ := hcut
                    obtain rfl := hwc.symm
                    clear HRK HCR
                    have hbx := bel_new wr (.cells #[.slice (some ⟨bq, oq, none⟩) n pc, .slice (some ⟨bt, ot, none⟩) n tc] 41)
                    have HS2 := hid (HS.out.next hbx)
                    have u0' := keepC hbx u0
                    have u1' := keepC hbx u1
                    have g0' := keepC hbx g0
                    have g1' := keepC hbx g1
                    have z1' := keepC hbx z1
                    have cg' := keepC hbx cg
                    have HBX := hid hbx
                    have BX : Bx2 (wr.alloc (.cells #[.slice (some ⟨bq, oq, none⟩) n pc, .slice (some ⟨bt, ot, none⟩) n tc] 41)) wr.heap.size (.slice (some ⟨bq, oq, none⟩) n pc) (.slice (some ⟨bt, ot, none⟩) n tc) := Bx2.new wr _ _ _
                    clear hbx u0 u1 g0 g1 z0 z1 cg
                    go_wp2_with fail
                    clear z2 d0 d1
                    obtain ⟨B4, hB4⟩ : ∃ B4, wr.heap.size = B4 := ⟨_, rfl⟩
                    rw [hB4] at BX ⊢
                    obtain ⟨y0, y3⟩ := BX
                    have HQ4 : Hid (k + 1 < n → (wr.alloc (.cells #[.slice (some ⟨bq, oq, none⟩) n pc, .slice (some ⟨bt, ot, none⟩) n tc] 41)).cell? ⟨bq, oq + (k + 1) * 2, none⟩ = some (.int .u64 (o.P t (k + 1) 0)) ∧ (wr.alloc (.cells #[.slice (some ⟨bq, oq, none⟩) n pc, .slice (some ⟨bt, ot, none⟩) n tc] 41)).cell? ⟨bq, oq + (k + 1) * 2 + 1, none⟩ = some (.int .u64 (o.P t (k + 1) 1))) := hid (fun h => ⟨keepC HBX.out (HQ3.out h).1, keepC HBX.out (HQ3.out h).2⟩)
                    rw [hB4] at HBX
                    have HB4 := hid hB4
                    clear hB4 HQ3
                    generalize wr.alloc (.cells #[.slice (some ⟨bq, oq, none⟩) n pc, .slice (some ⟨bt, ot, none⟩) n tc] 41) = W2 at HS2 u0' u1' g0' g1' z1' cg' HBX y0 y3 HQ4 ⊢
                    go_quiet (fail)
                    have hbq : Below W2.heap.size W2 (W2.drewN nq) := ⟨rfl, rfl, rfl, Nat.le_refl _, fun _ _ => rfl⟩
                    have HS5 := hid (HS2.out.next hbq)
                    have HB5 : Hid (Below wr.heap.size wr (W2.drewN nq)) := hid (by rw [HB4.out]; exact HBX.out.trans (hbq.mono (by have h1 := HBX.out.size; have h2 := HB4.out; omega)))
                    have g0' := keepC hbq g0'
                    have g1' := keepC hbq g1'
                    have z1' := keepC hbq z1'
                    have cg' := keepC hbq cg'
                    have y0 := keepC hbq y0
                    have y3 := keepC hbq y3
                    have HQ5 : Hid (k + 1 < n → (W2.drewN nq).cell? ⟨bq, oq + (k + 1) * 2, none⟩ = some (.int .u64 (o.P t (k + 1) 0)) ∧ (W2.drewN nq).cell? ⟨bq, oq + (k + 1) * 2 + 1, none⟩ = some (.int .u64 (o.P t (k + 1) 1))) := hid (fun h => ⟨keepC hbq (HQ4.out h).1, keepC hbq (HQ4.out h).2⟩)
                    clear hbq HQ4 HBX HS2 u0' u1' HB4
                    generalize W2.drewN nq = W5 at HS5 HB5 g0' g1' z1' cg' y0 y3 HQ5 ⊢
                    go_wp2_with fail
                    refine (HL1.out _ HB5.out).mono ?_
                    rintro e W6 ⟨rfl, hb6⟩
                    have HS6 := hid (HS5.out.next hb6)
                    have HB6 := hid (HB5.out.trans (hb6.mono HB5.out.size))
                    have g1' := keepC hb6 g1'
                    have z1' := keepC hb6 z1'
                    have cg' := keepC hb6 cg'
                    have y0 := keepC hb6 y0
                    have y3 := keepC hb6 y3
                    have HQ6 : Hid (k + 1 < n → W6.cell? ⟨bq, oq + (k + 1) * 2, none⟩ = some (.int .u64 (o.P t (k + 1) 0)) ∧ W6.cell? ⟨bq, oq + (k + 1) * 2 + 1, none⟩ = some (.int .u64 (o.P t (k + 1) 1))) := hid (fun h => ⟨keepC hb6 (HQ5.out h).1, keepC hb6 (HQ5.out h).2⟩)
                    clear hb6 g0' HQ5 HS5 HL1
                    cases b1 with
                    | false =>
                      have hn1' : (y1 != nrm ry) = true := hn1
                      clear hn1
                      have HNO : Hid (lookB n root g m (fun j => (p j).toNat) R v o = false) := hid (by rw [HAL.out]; exact allB_no htl (by rw [HPT.out]; exact allB_no hkl (HF1.out (by first | rfl | trivial))))
                      go_wp2_with (go_at_call 12; refine (HNR2.out _).mono ?_; rintro e w' ⟨rfl, hw⟩; obtain rfl := hw.symm)
                      go_ret2
                      exact ⟨false, 0, rfl, .inr (.inr ⟨HAO.out, HOF.out, HNO.out.symm, rfl⟩), HS6.out.bel⟩
                    | true =>
                      have hn1' : (y1 != nrm ry) = false := hn1
                      clear hn1
                      go_wp2_with (go_at_call 12; refine (HNR2.out _).mono ?_; rintro e w' ⟨rfl, hw⟩; obtain rfl := hw.symm)
                      refine (HL2.out _ HB6.out).mono ?_
                      rintro e W7 ⟨rfl, hb7⟩
                      have HS7 := hid (HS6.out.next hb7)
                      have z1' := keepC hb7 z1'
                      have cg' := keepC hb7 cg'
                      have y0 := keepC hb7 y0
                      have y3 := keepC hb7 y3
                      have HQ7 : Hid (k + 1 < n → W7.cell? ⟨bq, oq + (k + 1) * 2, none⟩ = some (.int .u64 (o.P t (k + 1) 0)) ∧ W7.cell? ⟨bq, oq + (k + 1) * 2 + 1, none⟩ = some (.int .u64 (o.P t (k + 1) 1))) := hid (fun h => ⟨keepC hb7 (HQ6.out h).1, keepC hb7 (HQ6.out h).2⟩)
                      clear hb7 g1' HQ6 HS6 HL2 HB6 hn1'
                      cases b2 with
                      | false =>
                        have hn2' : (y2 != nrm ry) = true := hn2
                        clear hn2
                        have HNO : Hid (lookB n root g m (fun j => (p j).toNat) R v o = false) := hid (by rw [HAL.out]; exact allB_no htl (by rw [HPT.out]; exact allB_no hkl (HF2.out (by first | rfl | trivial))))
                        go_wp2_with (go_at_call 12; refine (HNR2.out _).mono ?_; rintro e w' ⟨rfl, hw⟩; obtain rfl := hw.symm)
                        go_ret2
                        exact ⟨false, 0, rfl, .inr (.inr ⟨HAO.out, HOF.out, HNO.out.symm, rfl⟩), HS7.out.bel⟩
                      | true =>
                        have hn2' : (y2 != nrm ry) = false := hn2
                        clear hn2
                        go_upto_if 205 with (go_at_call 12; refine (HNR2.out _).mono ?_; rintro e w' ⟨rfl, hw⟩; obtain rfl := hw.symm)
                        clear hn2' HNR2 HF1 HF2
                        go_cut [23] (fun a23 wx => a23 = .int .u64 nv ∧ wx = W7)
                        case first =>
                          by_cases hl : k + 1 = n
                          · have d5 : ¬ (k : Int) + 1 < (n : Int) := by omega
                            have H5 := hid (HNV.out.1 hl)
                            clear hl
                            go_wp2_with fail
                            go_meet
                            exact ⟨by rw [H5.out], rfl⟩
                          · have hl2 : k + 1 < n := by omega
                            have d5 : (k : Int) + 1 < (n : Int) := by omega
                            have d6 : (0 : Int) ≤ (k : Int) + 1 := by omega
                            obtain ⟨c, hc2, hcd, e5⟩ := HNV.out.2 hl2
                            obtain ⟨c5, c6⟩ := HQ7.out hl2
                            obtain ⟨t5, t6⟩ := HTWO.out hl2
                            have hdm := Nat.div_add_mod q (hfQ n (k + 1))
                            rw [hcd] at hdm
                            have hml := Nat.mod_lt q t6
                            rcases two_cases hc2 with h | h
                            · have d7 : ¬ (H : Int) ≤ 2 * (q : Int) := by
                                rw [h, Nat.mul_zero, Nat.zero_add] at hdm
                                omega
                              rw [h] at e5
                              rw [← e5] at c5
                              clear hl hl2 hcd e5 hdm hml t5 t6 h hc2 c6
                              go_wp2_with fail
                              go_meet
                              exact ⟨rfl, rfl⟩
                            · have d7 : (H : Int) ≤ 2 * (q : Int) := by
                                rw [h, Nat.mul_one] at hdm
                                omega
                              rw [h] at e5
                              rw [← e5] at c6
                              clear hl hl2 hcd e5 hdm hml t5 t6 h hc2
                              go_wp2_with fail
                              go_meet
                              exact ⟨rfl, rfl⟩
                        case rest =>
                          obtain ⟨rfl, hwc⟩ := hcut
                          obtain rfl := hwc.symm
                          clear HNV HQ7 HTWO z1' y0 y3
                          obtain ⟨o0, o1⟩ := hov2
                          obtain ⟨o2, o3⟩ := hov3
                          obtain ⟨o4, o5⟩ := hgv
                          obtain ⟨s0, s1⟩ := subQ_rng x1 x0
                          obtain ⟨m0, m1⟩ := mulQ_rng gx (subQ x1 x0)
                          cases b3 with
                          | false =>
                            have hn3' : (addQ x0 (mulQ gx (subQ x1 x0)) != nrm nv) = true := hn3
                            clear hn3
                            have HNO : Hid (lookB n root g m (fun j => (p j).toNat) R v o = false) := hid (by rw [HAL.out]; exact allB_no htl (by rw [HPT.out]; exact allB_no hkl (HF3.out (by first | rfl | trivial))))
                            go_wp2_with fail
                            go_quiet (first | (go_at_call 17; exact Calls.quiet_of_same (rsub_any _ _ _ (by omega) (by omega) (by omega) (by omega))) | (go_at_call 16; exact Calls.quiet_of_same (rmul_any _ _ _ (by omega) (by omega) (by omega) (by omega))) | (go_at_call 15; exact Calls.quiet_of_same (radd_any _ _ _ (by omega) (by omega) (by omega) (by omega))) | (go_at_call 12; exact Calls.quiet_of_same (HNM2.out _)))
                            go_wp2_with fail
                            go_ret2
                            exact ⟨false, 0, rfl, .inr (.inr ⟨HAO.out, HOF.out, HNO.out.symm, rfl⟩), Below.drewN' HS7.out.bel _⟩
                          | true =>
                            have hn3' : (addQ x0 (mulQ gx (subQ x1 x0)) != nrm nv) = false := hn3
                            clear hn3
                            have HJ2 : Hid (∀ j, j < k + 1 → fitB n (rtQ root R) g v (o.P t) (o.T t) pt j = true) := hid (fun j hj => by
                              by_cases e : j = k
                              · rw [e]; exact HF4.out (by first | rfl | trivial) (by first | rfl | trivial) (by first | rfl | trivial)
                              · exact HJ.out j (by omega))
                            clear HJ
                            go_wp2_with fail
                            go_quiet (first | (go_at_call 17; exact Calls.quiet_of_same (rsub_any _ _ _ (by omega) (by omega) (by omega) (by omega))) | (go_at_call 16; exact Calls.quiet_of_same (rmul_any _ _ _ (by omega) (by omega) (by omega) (by omega))) | (go_at_call 15; exact Calls.quiet_of_same (radd_any _ _ _ (by omega) (by omega) (by omega) (by omega))) | (go_at_call 12; exact Calls.quiet_of_same (HNM2.out _)))
                            go_wp2_with fail
                            go_roundg (n - (k + 1))
                            case measure => go_light; omega
                            case rel => exact ⟨k + 1, by omega, rfl, by go_num, HJ2, hid (HS7.out.next ⟨rfl, rfl, rfl, Nat.le_refl _, fun _ _ => rfl⟩)⟩
                · have e : k = n := by omega
                  subst e
                  have HK2 : Hid (∀ j, j < t + 1 → (allB k fun q => fitB k (rtQ root R) g v (o.P j) (o.T j) ((p j).toNat) q) = true) := hid (fun j hj => by
                    by_cases e : j = t
                    · rw [e, HPT.out]; exact allB_iff.2 HJ.out
                    · exact HK.out j (by omega))
                  clear HK HJ
                  go_wp2_with fail
                  go_roundg (m - (t + 1))
                  case measure => go_light; omega
                  case rel => exact ⟨t + 1, by omega, rfl, by go_num, HK2, HS⟩
            · have e : t = m := by omega
              subst e
              go_wp2_with fail
              go_ret2
              exact ⟨true, 0, rfl, .inr (.inr ⟨HAO.out, HOF.out, (HAL.out.trans (allB_iff.2 HK.out)).symm, rfl⟩), HS.out.bel⟩

theorem looked_any (n m cp cpl nr cr N cl : Nat) (ap apl ar al : Option Addr) (root v : Int) (g p R : Nat → Int) (o : OQ) (mm : OM) (w : World) (hn : n ≤ maxLen) (hm : m ≤ maxLen) (hN : o.n = N) (hNx : N ≤ maxLen) (hcp : ∀ i, i < o.n → ∀ k e, o.tl i k e ≤ mm.C i k e) (r0 : 0 ≤ root) (r1 : root ≤ 18446744073709551615) (v0 : 0 ≤ v) (v1 : v ≤ 18446744073709551615) (hg : PRow w ap n g) (hgv : Nums g) (hp : IRowP w apl m p) (hR : PRow w ar nr R) (hRv : Nums R) (ho : OpRow w al o mm) (hov : o.nums) :
    Calls Try.prog 5 #[.int .u64 root, .slice ap n cp, .slice apl m cpl, .agg #[.slice ar nr cr, .int .u64 v, .slice al N cl]] w (lookPost w n root g m p nr R v o) := by
  by_cases hA : argOk n m p
  · obtain ⟨n1, n8, hpl⟩ := hA
    by_cases h1 : nr = n
    · by_cases h2 : N = m
      · exact looked_main n m cp cpl nr cr N cl ap apl ar al root v g p R o mm w n1 n8 hpl.1 (hid hpl) h1 h2 hN hcp r0 r1 v0 v1 hg hgv hp hR hRv ho hov
      · refine (looked_looks n m cp cpl nr cr N cl ap apl ar al root v g p R o mm w n1 n8 hpl.1 (hid hpl) hNx h1 h2 hp ho).mono ?_
        rintro e w' ⟨rfl, hb⟩
        exact ⟨false, 4, rfl, .inr (.inl ⟨⟨n1, n8, hpl⟩, fun h => h2 (hN.symm.trans h.2.1), rfl, rfl⟩), hb⟩
    · refine (looked_roots n m cp cpl nr cr N cl ap apl ar al root v g p R o mm w n1 n8 hpl.1 (hid hpl) hNx h1 hp ho).mono ?_
      rintro e w' ⟨rfl, hb⟩
      exact ⟨false, 4, rfl, .inr (.inl ⟨⟨n1, n8, hpl⟩, fun h => h1 h.1, rfl, rfl⟩), hb⟩
  · refine (looked_arg n m cp cpl nr cr N cl ap apl ar al root v p w hn hm hp hA).mono ?_
    rintro e w' ⟨rfl, hb⟩
    exact ⟨false, 1, rfl, .inl ⟨hA, rfl, rfl⟩, hb⟩

end Go.Proofs.Ytoogpkcpheannac
