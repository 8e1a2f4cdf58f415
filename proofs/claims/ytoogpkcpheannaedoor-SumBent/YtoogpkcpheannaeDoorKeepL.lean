/-
  Contracts of tallykeep's two and facts: one to three tables of like size, with the first numbers of the lists that were handed in; they make new rows and write nothing that was there.
-/
import Derived.Test.YtoogpkcpheannaeDoorKeep
import Derived.Test.YtoogpkcpheannaeDoorSumB
import Derived.Test.YtoogpkcpheannaeDoorEqual
namespace Go.Proofs.YtoogpkcpheannaeDoor
open Go.RowKit
set_option linter.unusedVariables false
attribute [local go_sem ↓] Go.wp_at_zero Go.wp_at_succ

theorem below_one (w : World) (x : Obj) : Below w.heap.size w (w.alloc x) := (Below.refl _ w).alloc (Nat.le_refl _) _
theorem ownl_far {w : World} {base : Nat} {v : Value} {n N b : Nat} {a c : Nat → Nat} {F : Nat → Nat → Int} (h : OwnL w base v n N a c F) (hb : w.heap.size ≤ b) : v.ownBlock ≠ some b := fun e => by have := (h.own.lt b e).2; omega

def twoF (i j : Nat) : Int := if i = 0 then (if j = 0 then 1 else 2) else (if j = 0 then 3 else 4)
def twoR (j : Nat) : Int := if j = 0 then 3 else if j = 1 then 8 else 15
theorem Nums_two (i : Nat) : Nums (twoF i) := fun j => by unfold twoF; split <;> split <;> omega
theorem claim_two : ofK (claimK (kF twoF) 2 2) = 11 := by kernel_rfl
theorem round_two0 : ofK (roundK (kF twoF) 2 1 (kn 0)) = 3 := by kernel_rfl
theorem round_two1 : ofK (roundK (kF twoF) 2 1 (kn 1)) = 8 := by kernel_rfl
theorem round_two2 : ofK (roundK (kF twoF) 2 1 (kn 2)) = 15 := by kernel_rfl
theorem round_two (j : Nat) (h : j < 3) : ofK (roundK (kF twoF) 2 1 (kn j)) = twoR j := by
  match j, h with
  | 0, _ => exact round_two0
  | 1, _ => exact round_two1
  | 2, _ => exact round_two2
theorem lay_two (w : World) (t u : TypeId) (W : World) (hW : W = ((w.alloc (.cells #[.int .u64 1, .int .u64 2] t)).alloc (.cells #[.int .u64 3, .int .u64 4] t)).alloc (.cells #[.slice (some ⟨w.heap.size, 0, none⟩) 2 2, .slice (some ⟨w.heap.size + 1, 0, none⟩) 2 2] u)) :
    Below w.heap.size w W ∧ Tabs W (w.heap.size + 2) 0 2 (fun i => w.heap.size + i) (fun _ => 0) (fun _ => 2) 2 twoF := by
  have hb1 := below_one w (.cells #[.int .u64 1, .int .u64 2] t)
  have hr1 : Row (w.alloc (.cells #[.int .u64 1, .int .u64 2] t)) w.heap.size 0 2 (twoF 0) := fun j hj => by
    rw [Nat.zero_add, World.cell?_alloc_new]
    match j, hj with
    | 0, _ => rfl
    | 1, _ => rfl
  have hs1 : (w.alloc (.cells #[.int .u64 1, .int .u64 2] t)).heap.size = w.heap.size + 1 := by simp
  generalize w.alloc (.cells #[.int .u64 1, .int .u64 2] t) = W1 at hb1 hr1 hs1 hW
  have hb2 := below_one W1 (.cells #[.int .u64 3, .int .u64 4] t)
  have hr2 : Row (W1.alloc (.cells #[.int .u64 3, .int .u64 4] t)) W1.heap.size 0 2 (twoF 1) := fun j hj => by
    rw [Nat.zero_add, World.cell?_alloc_new]
    match j, hj with
    | 0, _ => rfl
    | 1, _ => rfl
  have hs2 : (W1.alloc (.cells #[.int .u64 3, .int .u64 4] t)).heap.size = w.heap.size + 2 := by simp; omega
  rw [hs1] at hr2
  generalize W1.alloc (.cells #[.int .u64 3, .int .u64 4] t) = W2 at hb2 hr2 hs2 hW
  have hb3 := below_one W2 (.cells #[.slice (some ⟨w.heap.size, 0, none⟩) 2 2, .slice (some ⟨w.heap.size + 1, 0, none⟩) 2 2] u)
  have hc : ∀ i, i < 2 → (W2.alloc (.cells #[.slice (some ⟨w.heap.size, 0, none⟩) 2 2, .slice (some ⟨w.heap.size + 1, 0, none⟩) 2 2] u)).cell? ⟨W2.heap.size, i, none⟩ = some (.slice (some ⟨w.heap.size + i, 0, none⟩) 2 2) := fun i hi => by
    rw [World.cell?_alloc_new]
    match i, hi with
    | 0, _ => rfl
    | 1, _ => rfl
  rw [hs2] at hc
  rw [← hW] at hb3 hc
  have h12 := hb1.trans (hb2.mono hb1.size)
  refine ⟨h12.trans (hb3.mono h12.size), fun i hi => by rw [Nat.zero_add]; exact hc i hi, fun i hi => ?_⟩
  match i, hi with
  | 0, _ => exact (hr1.kept hb2 (by omega)).kept hb3 (by omega)
  | 1, _ => exact hr2.kept hb3 (by omega)

set_option maxHeartbeats 4000000 in
set_option maxRecDepth 100000 in
theorem two_ok (w : World) (ht : Tab w) :
    Calls Tryd.prog 8 #[] w fun e w' => e = .returned (.bool true) ∧ Below w.heap.size w w' := by
  have HT := hid ht
  clear ht
  go_enter Tryd.func8, Tryd.ntmps8
  go_wp2_with fail
  obtain ⟨W, hW⟩ : ∃ W, W = ((w.alloc (.cells #[.int .u64 1, .int .u64 2] 23)).alloc (.cells #[.int .u64 3, .int .u64 4] 23)).alloc (.cells #[.slice (some ⟨w.heap.size, 0, none⟩) 2 2, .slice (some ⟨w.heap.size + 1, 0, none⟩) 2 2] 24) := ⟨_, rfl⟩
  obtain ⟨hb1, htb1⟩ := lay_two w _ _ W hW
  rw [← hW]
  have hc := sclaim_ok (w.heap.size + 2) 0 2 2 _ _ _ twoF 1 2 W (by omega) (by omega) (by omega) rfl (HT.out.kept hb1 HT.out.1) htb1 (fun i _ => Nums_two i)
  rw [claim_two] at hc
  have HB1 := hid hb1
  clear hW hb1 htb1
  refine hc.mono ?_
  rintro e w' ⟨rfl, hw⟩
  obtain rfl := hw.symm
  clear hc hw
  go_wp2_with fail
  obtain ⟨W2, hW⟩ : ∃ W2, W2 = ((W.alloc (.cells #[.int .u64 1, .int .u64 2] 23)).alloc (.cells #[.int .u64 3, .int .u64 4] 23)).alloc (.cells #[.slice (some ⟨W.heap.size, 0, none⟩) 2 2, .slice (some ⟨W.heap.size + 1, 0, none⟩) 2 2] 24) := ⟨_, rfl⟩
  obtain ⟨hb2, htb2⟩ := lay_two W _ _ W2 hW
  rw [← hW]
  have hb12 := HB1.out.trans (hb2.mono HB1.out.size)
  have hr := sRound_ok (W.heap.size + 2) 0 2 2 _ _ _ twoF 0 1 W2 (by omega) (by omega) (by omega) rfl (HT.out.kept hb12 HT.out.1) htb2 (fun i _ => Nums_two i)
  have HB2 := hid hb12
  clear hW hb2 htb2 hb12
  refine hr.mono ?_
  rintro e w3 ⟨rfl, hm⟩
  have HM := hid (hm.congr fun j hj => round_two j hj)
  clear hm hr
  go_wp2_with fail
  have hb4 := below_one w3 (.cells #[.int .u64 3, .int .u64 8, .int .u64 15] 23)
  have hr4 : Row (w3.alloc (.cells #[.int .u64 3, .int .u64 8, .int .u64 15] 23)) w3.heap.size 0 3 twoR := fun j hj => by
    rw [Nat.zero_add, World.cell?_alloc_new]
    match j, hj with
    | 0, _ => rfl
    | 1, _ => rfl
    | 2, _ => rfl
  have he := equal_ok (some ⟨W2.heap.size, 0, none⟩) (some ⟨w3.heap.size, 0, none⟩) 3 3 3 twoR twoR _ (by omega) (PRow.of (HM.out.row.kept hb4 (HM.out.row.lt (by omega)))) (PRow.of hr4) (fun _ _ => rfl)
  have h3 := HB2.out.trans (HM.out.below.mono HB2.out.size)
  have HB4 := hid (h3.trans (hb4.mono h3.size))
  clear hb4 hr4 h3
  refine he.mono ?_
  rintro e w5 ⟨rfl, hb5⟩
  have HB5 := hid (HB4.out.trans (hb5.mono HB4.out.size))
  clear hb5 he
  go_wp2_with fail
  go_ret
  exact ⟨rfl, HB5.out⟩

set_option maxHeartbeats 4000000 in
set_option maxRecDepth 100000 in
theorem facts_lt (B o m cap : Nat) (A : Nat → Option Addr) (L C : Nat → Nat) (F : Nat → Nat → Int) (k : Int) (r N : Nat) (w : World) (hm : 1 ≤ m) (h3 : m < 3) (hcap : m ≤ cap) (k0 : -9223372036854775808 ≤ k) (k1 : k ≤ 9223372036854775807) (hr : k % 5 = (r : Int)) (hN : N = 2 ^ r)
    (hl : LRow w (some ⟨B, o, none⟩) m A L C F) (hv : ∀ i, i < m → Nums (F i)) :
    Calls Tryd.prog 9 #[.slice (some ⟨B, o, none⟩) m cap, .int .i64 k] w fun e w' => ∃ v a c G, e = .returned v ∧ OwnL w' w.heap.size v m N a c G ∧ (∀ i, i < m → Nums (G i)) ∧ Below w.heap.size w w' := by
  have hN1 : 1 ≤ N := by rw [hN]; exact Nat.one_le_two_pow
  obtain ⟨i1, hi1, hy0, hy1, hy2⟩ := info_parts Tryd.infoL
  have HJ := hid (And.intro hi1 (And.intro hy0 (And.intro hy1 hy2)))
  have HL := hid hl
  have HV := hid hv
  have HRR := hid hr
  have HN := hid hN
  clear hl hv hr hN hi1 hy0 hy1 hy2
  have g3 : (m : Int) < 3 := by omega
  have g4 : (m : Int) ≤ (cap : Int) := by omega
  have g5 : ((m : Int) == 0) = false := beq_eq_false_iff_ne.2 (by omega)
  go_enter Tryd.func9, Tryd.ntmps9
  go_wp2_with fail
  go_loopg [5, 14] m (fun q x i wr => ∃ (t : Nat) (v : Value) (a c : Nat → Nat) (G : Nat → Nat → Int), t ≤ m ∧ q = m - t ∧ x = v ∧ i = .int .i64 (t : Int) ∧ Hid (OwnL wr w.heap.size v t N a c G) ∧ Hid (∀ i, i < t → Nums (G i)) ∧ Hid (Below w.heap.size w wr))
  case atStart => exact ⟨0, _, fun _ => 0, fun _ => 0, fun _ _ => 0, by omega, rfl, rfl, rfl, hid (OwnL.nil _ _ _ _ _ _), hid (fun i hi => absurd hi (by omega)), hid (Below.refl _ _)⟩
  case round =>
    obtain ⟨t, v, a, c, G, ht, rfl, rfl, rfl, HO, HG, HB⟩ := hrel
    by_cases hlt : t < m
    · obtain ⟨B2, o2, eB, hr⟩ := (HL.out.kept HB.out) (by omega)
      obtain ⟨rfl, rfl⟩ : B = B2 ∧ o = o2 := by simpa using eB
      have c1 := (hr t (by omega)).1
      have HTA := hid (table_any (A t) (L t) (C t) k r N (F t) wr k0 k1 HRR.out HN.out (hr t (by omega)).2)
      have HVT := hid (HV.out t (by omega))
      clear hr eB
      have t0 : (0 : Int) ≤ (t : Int) := by omega
      have t1 : (t : Int) < (m : Int) := by omega
      go_wp2_with fail
      refine (HTA.out).mono ?_
      rintro e w3 ⟨rfl, hm3⟩
      have HM := hid hm3
      have HO3 := hid (HO.out.kept hm3.below)
      have HB3 := hid (HB.out.trans (hm3.below.mono HB.out.size))
      have HFAR := hid (ownl_far HO.out (Nat.le_refl _))
      clear hm3 HTA c1
      go_wp2_with (at_builtin; refine wpList_append_lies _ rfl _ _ 22 rfl w.heap.size 24 i1 (.slice none 0 0) 1 24 Tryd.underlying22 HJ.out.1 HJ.out.2.1 HJ.out.2.2.1 HJ.out.2.2.2 rfl (by decide) _ _ _ rfl (World.ownsRow.alloc HO3.out.own _) ⟨w3.heap.size, 0, none⟩ 1 1 [.slice (some ⟨wr.heap.size, 0, none⟩) N N] rfl rfl ?qc2 ?qc3 ?qc4 ?qc5 ?qc6 ?qc7 (w3.heap.size + 1) ?qc8 ?_)
      case qc2 =>
        intro j u hj
        match j, hj with
        | 0, hj => simp at hj; subst hj; simp [Addr.add]
      case qc3 => intro u hu; simp at hu; subst hu; rfl
      case qc4 => omega
      case qc5 => unfold maxLen; omega
      case qc6 => omega
      case qc7 => have := HB3.out.size; simp; omega
      case qc8 => simp
      intro g2 c2 w6 hown2 hgrow2 hat2 hlt3
      have hbn := below_one w3 (.cells #[.slice (some ⟨wr.heap.size, 0, none⟩) N N] 24)
      have hwl : wr.heap.size < w3.heap.size := HM.out.row.lt hN1
      have HO6 := hid ((HO3.out.kept hbn).next hown2 hgrow2 (by simpa using hat2) (by simp; omega) HFAR.out (HM.out.row.kept hbn hwl))
      have HB6 : Hid (Below w.heap.size w w6) := hid ((HB3.out.alloc HB3.out.size _).grown hgrow2 (by have := HB3.out.size; simp; omega) (by intro t ht; exact (World.ownsRow.lt HO3.out.own t ht).1))
      have HG6 : Hid (∀ i, i < t + 1 → Nums (putF G t (padF (L t) (F t)) i)) := hid (fun i hi => by
        unfold putF
        by_cases e : i = t
        · rw [if_pos e]; exact Nums_pad HVT.out _
        · rw [if_neg e]; exact HG.out i (by omega))
      clear hown2 hgrow2 hat2 hlt3 hbn hwl
      go_wp2_with fail
      go_roundg (m - (t + 1))
      case measure => go_light; omega
      case rel => exact ⟨t + 1, _, _, _, _, by omega, rfl, rfl, by go_num, HO6, HG6, HB6⟩
    · have e : t = m := by omega
      subst e
      obtain ⟨av, cv, ev, _, _⟩ := HO.out.is
      subst ev
      go_wp2_with fail
      go_ret
      exact ⟨_, _, _, _, rfl, HO.out, HG.out, HB.out⟩

set_option maxHeartbeats 4000000 in
set_option maxRecDepth 100000 in
theorem facts_ge (B o m cap : Nat) (A : Nat → Option Addr) (L C : Nat → Nat) (F : Nat → Nat → Int) (k : Int) (r N : Nat) (w : World) (hm : 1 ≤ m) (h3 : 3 ≤ m) (hcap : m ≤ cap) (k0 : -9223372036854775808 ≤ k) (k1 : k ≤ 9223372036854775807) (hr : k % 5 = (r : Int)) (hN : N = 2 ^ r)
    (hl : LRow w (some ⟨B, o, none⟩) m A L C F) (hv : ∀ i, i < m → Nums (F i)) :
    Calls Tryd.prog 9 #[.slice (some ⟨B, o, none⟩) m cap, .int .i64 k] w fun e w' => ∃ v a c G, e = .returned v ∧ OwnL w' w.heap.size v 3 N a c G ∧ (∀ i, i < 3 → Nums (G i)) ∧ Below w.heap.size w w' := by
  have hN1 : 1 ≤ N := by rw [hN]; exact Nat.one_le_two_pow
  obtain ⟨i1, hi1, hy0, hy1, hy2⟩ := info_parts Tryd.infoL
  have HJ := hid (And.intro hi1 (And.intro hy0 (And.intro hy1 hy2)))
  have HL := hid hl
  have HV := hid hv
  have HRR := hid hr
  have HN := hid hN
  clear hl hv hr hN hi1 hy0 hy1 hy2
  have g3 : (3 : Int) ≤ (m : Int) := by omega
  have g4 : (3 : Int) ≤ (cap : Int) := by omega
  go_enter Tryd.func9, Tryd.ntmps9
  go_wp2_with fail
  go_loopg [5, 14] 3 (fun q x i wr => ∃ (t : Nat) (v : Value) (a c : Nat → Nat) (G : Nat → Nat → Int), t ≤ 3 ∧ q = 3 - t ∧ x = v ∧ i = .int .i64 (t : Int) ∧ Hid (OwnL wr w.heap.size v t N a c G) ∧ Hid (∀ i, i < t → Nums (G i)) ∧ Hid (Below w.heap.size w wr))
  case atStart => exact ⟨0, _, fun _ => 0, fun _ => 0, fun _ _ => 0, by omega, rfl, rfl, rfl, hid (OwnL.nil _ _ _ _ _ _), hid (fun i hi => absurd hi (by omega)), hid (Below.refl _ _)⟩
  case round =>
    obtain ⟨t, v, a, c, G, ht, rfl, rfl, rfl, HO, HG, HB⟩ := hrel
    by_cases hlt : t < 3
    · obtain ⟨B2, o2, eB, hr⟩ := (HL.out.kept HB.out) (by omega)
      obtain ⟨rfl, rfl⟩ : B = B2 ∧ o = o2 := by simpa using eB
      have c1 := (hr t (by omega)).1
      have HTA := hid (table_any (A t) (L t) (C t) k r N (F t) wr k0 k1 HRR.out HN.out (hr t (by omega)).2)
      have HVT := hid (HV.out t (by omega))
      clear hr eB
      have t0 : (0 : Int) ≤ (t : Int) := by omega
      have t1 : (t : Int) < (3 : Int) := by omega
      go_wp2_with fail
      refine (HTA.out).mono ?_
      rintro e w3 ⟨rfl, hm3⟩
      have HM := hid hm3
      have HO3 := hid (HO.out.kept hm3.below)
      have HB3 := hid (HB.out.trans (hm3.below.mono HB.out.size))
      have HFAR := hid (ownl_far HO.out (Nat.le_refl _))
      clear hm3 HTA c1
      go_wp2_with (at_builtin; refine wpList_append_lies _ rfl _ _ 22 rfl w.heap.size 24 i1 (.slice none 0 0) 1 24 Tryd.underlying22 HJ.out.1 HJ.out.2.1 HJ.out.2.2.1 HJ.out.2.2.2 rfl (by decide) _ _ _ rfl (World.ownsRow.alloc HO3.out.own _) ⟨w3.heap.size, 0, none⟩ 1 1 [.slice (some ⟨wr.heap.size, 0, none⟩) N N] rfl rfl ?qc2 ?qc3 ?qc4 ?qc5 ?qc6 ?qc7 (w3.heap.size + 1) ?qc8 ?_)
      case qc2 =>
        intro j u hj
        match j, hj with
        | 0, hj => simp at hj; subst hj; simp [Addr.add]
      case qc3 => intro u hu; simp at hu; subst hu; rfl
      case qc4 => omega
      case qc5 => unfold maxLen; omega
      case qc6 => omega
      case qc7 => have := HB3.out.size; simp; omega
      case qc8 => simp
      intro g2 c2 w6 hown2 hgrow2 hat2 hlt3
      have hbn := below_one w3 (.cells #[.slice (some ⟨wr.heap.size, 0, none⟩) N N] 24)
      have hwl : wr.heap.size < w3.heap.size := HM.out.row.lt hN1
      have HO6 := hid ((HO3.out.kept hbn).next hown2 hgrow2 (by simpa using hat2) (by simp; omega) HFAR.out (HM.out.row.kept hbn hwl))
      have HB6 : Hid (Below w.heap.size w w6) := hid ((HB3.out.alloc HB3.out.size _).grown hgrow2 (by have := HB3.out.size; simp; omega) (by intro t ht; exact (World.ownsRow.lt HO3.out.own t ht).1))
      have HG6 : Hid (∀ i, i < t + 1 → Nums (putF G t (padF (L t) (F t)) i)) := hid (fun i hi => by
        unfold putF
        by_cases e : i = t
        · rw [if_pos e]; exact Nums_pad HVT.out _
        · rw [if_neg e]; exact HG.out i (by omega))
      clear hown2 hgrow2 hat2 hlt3 hbn hwl
      go_wp2_with fail
      go_roundg (3 - (t + 1))
      case measure => go_light; omega
      case rel => exact ⟨t + 1, _, _, _, _, by omega, rfl, rfl, by go_num, HO6, HG6, HB6⟩
    · have e : t = 3 := by omega
      subst e
      obtain ⟨av, cv, ev, _, _⟩ := HO.out.is
      subst ev
      go_wp2_with fail
      go_ret
      exact ⟨_, _, _, _, rfl, HO.out, HG.out, HB.out⟩

set_option maxHeartbeats 4000000 in
set_option maxRecDepth 100000 in
theorem facts_none (ao : Option Addr) (cap : Nat) (k : Int) (r N : Nat) (w : World) (hao : ao = none ∨ ∃ ad, ao = some ad) (k0 : -9223372036854775808 ≤ k) (k1 : k ≤ 9223372036854775807) (hr : k % 5 = (r : Int)) (hN : N = 2 ^ r) :
    Calls Tryd.prog 9 #[.slice ao 0 cap, .int .i64 k] w fun e w' => ∃ v a c G, e = .returned v ∧ OwnL w' w.heap.size v 1 N a c G ∧ (∀ i, i < 1 → Nums (G i)) ∧ Below w.heap.size w w' := by
  have hN1 : 1 ≤ N := by rw [hN]; exact Nat.one_le_two_pow
  obtain ⟨i1, hi1, hy0, hy1, hy2⟩ := info_parts Tryd.infoL
  have HJ := hid (And.intro hi1 (And.intro hy0 (And.intro hy1 hy2)))
  have HRR := hid hr
  have HN := hid hN
  have c0 : (0 : Int) ≤ (cap : Int) := by omega
  clear hr hN hi1 hy0 hy1 hy2
  rcases hao with rfl | ⟨ad, rfl⟩
  all_goals (go_enter Tryd.func9, Tryd.ntmps9)
  all_goals (go_wp2_with fail)
  all_goals (go_loopg [5, 14] 0 (fun q x i wr => q = 0 ∧ x = .slice none 0 0 ∧ i = .int .i64 0 ∧ wr = w))
  all_goals first | exact ⟨rfl, rfl, rfl, rfl⟩ | skip
  all_goals
    obtain ⟨rfl, rfl, rfl, hw⟩ := hrel
    obtain rfl := hw.symm
    go_wp2_with fail
    refine (table_any none 0 0 k r N (fun _ => 0) _ k0 k1 HRR.out HN.out (fun h0 => absurd h0 (by omega))).mono ?_
    rintro e w3 ⟨rfl, hm3⟩
    have HM := hid hm3
    have HO3 := hid (OwnL.nil w3 w.heap.size N (fun _ => 0) (fun _ => 0) (fun _ _ => 0))
    clear hm3
    go_wp2_with (at_builtin; refine wpList_append_lies _ rfl _ _ 22 rfl w.heap.size 24 i1 (.slice none 0 0) 1 24 Tryd.underlying22 HJ.out.1 HJ.out.2.1 HJ.out.2.2.1 HJ.out.2.2.2 rfl (by decide) _ _ _ rfl (World.ownsRow.alloc HO3.out.own _) ⟨w3.heap.size, 0, none⟩ 1 1 [.slice (some ⟨w.heap.size, 0, none⟩) N N] rfl rfl ?qc2 ?qc3 ?qc4 ?qc5 ?qc6 ?qc7 (w3.heap.size + 1) ?qc8 ?_)
    case qc2 =>
      intro j u hj
      match j, hj with
      | 0, hj => simp at hj; subst hj; simp [Addr.add]
    case qc3 => intro u hu; simp at hu; subst hu; rfl
    case qc4 => omega
    case qc5 => unfold maxLen; omega
    case qc6 => omega
    case qc7 => have := HM.out.below.size; simp; omega
    case qc8 => simp
    intro g2 c2 w6 hown2 hgrow2 hat2 hlt3
    have hbn := below_one w3 (.cells #[.slice (some ⟨w.heap.size, 0, none⟩) N N] 24)
    have hwl : w.heap.size < w3.heap.size := HM.out.row.lt hN1
    have HO6 := hid ((HO3.out.kept hbn).next hown2 hgrow2 (by simpa using hat2) (by simp; omega) (by simp [Value.ownBlock]) (HM.out.row.kept hbn hwl))
    have HB6 : Hid (Below w.heap.size w w6) := hid ((HM.out.below.alloc HM.out.below.size _).grown hgrow2 (by have := HM.out.below.size; simp; omega) (by intro t ht; simp [Value.ownBlock] at ht))
    have HG6 : Hid (∀ i, i < 1 → Nums (putF (fun _ _ => 0) 0 (padF 0 (fun _ => 0)) i)) := hid (fun i hi => by
      obtain rfl : i = 0 := by omega
      unfold putF
      rw [if_pos rfl]
      exact Nums_pad (fun _ => by first | omega | (dsimp only; omega)) _)
    clear hown2 hgrow2 hat2 hlt3 hbn hwl
    go_wp2_with fail
    go_ret
    exact ⟨_, _, _, _, rfl, HO6.out, HG6.out, HB6.out⟩

theorem facts_any (ao : Option Addr) (m cap : Nat) (A : Nat → Option Addr) (L C : Nat → Nat) (F : Nat → Nat → Int) (k : Int) (r N : Nat) (w : World) (hcap : m ≤ cap) (k0 : -9223372036854775808 ≤ k) (k1 : k ≤ 9223372036854775807) (hr : k % 5 = (r : Int)) (hN : N = 2 ^ r) (hl : LRow w ao m A L C F) (hv : ∀ i, i < m → Nums (F i)) :
    Calls Tryd.prog 9 #[.slice ao m cap, .int .i64 k] w fun e w' => ∃ B mm cc a c G, e = .returned (.slice (some ⟨B, 0, none⟩) mm cc) ∧ 1 ≤ mm ∧ mm ≤ 3 ∧ Tabs w' B 0 mm a (fun _ => 0) c N G ∧ (∀ i, i < mm → Nums (G i)) ∧ Below w.heap.size w w' := by
  have key : ∀ (mm : Nat), 1 ≤ mm → mm ≤ 3 → ∀ e (w' : World), (∃ v a c G, e = .returned v ∧ OwnL w' w.heap.size v mm N a c G ∧ (∀ i, i < mm → Nums (G i)) ∧ Below w.heap.size w w') → ∃ B mm cc a c G, e = Ending.returned (.slice (some ⟨B, 0, none⟩) mm cc) ∧ 1 ≤ mm ∧ mm ≤ 3 ∧ Tabs w' B 0 mm a (fun _ => 0) c N G ∧ (∀ i, i < mm → Nums (G i)) ∧ Below w.heap.size w w' := by
    rintro mm h1 h3 e w' ⟨v, a, c, G, rfl, ho, hG, hb⟩
    obtain ⟨av, cc, rfl, ht, _⟩ := ho.is
    obtain ⟨g, rfl, htb⟩ := ht (by omega)
    exact ⟨g, mm, cc, a, c, G, rfl, h1, h3, htb, hG, hb⟩
  by_cases h0 : m = 0
  · subst h0
    exact (facts_none ao cap k r N w (by cases ao with | none => exact .inl rfl | some ad => exact .inr ⟨ad, rfl⟩) k0 k1 hr hN).mono (key 1 (by omega) (by omega))
  · obtain ⟨B, o, rfl, _⟩ := hl (by omega)
    by_cases h3 : m < 3
    · exact (facts_lt B o m cap A L C F k r N w (by omega) h3 hcap k0 k1 hr hN hl hv).mono (key m (by omega) (by omega))
    · exact (facts_ge B o m cap A L C F k r N w (by omega) (by omega) hcap k0 k1 hr hN hl hv).mono (key 3 (by omega) (by omega))

end Go.Proofs.YtoogpkcpheannaeDoor
