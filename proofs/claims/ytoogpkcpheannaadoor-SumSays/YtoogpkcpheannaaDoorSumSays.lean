/-
  Whatever list of lists of numbers of 64 bits is handed in, the law SumSays answers true and writes nothing that was there: Check, Claim and Round of package sum answer what the document's own answer (package tallyref) says; no condition; tied to the program's text: Go's two tables deBruijn32tab and deBruijn64tab hold what math/bits lays.
-/
import Derived.Test.YtoogpkcpheannaaDoorRows
import Derived.Test.YtoogpkcpheannaaDoorListsOpen
import Derived.Test.YtoogpkcpheannaaDoorCards
import Derived.Test.YtoogpkcpheannaaDoorTie
import Derived.Test.YtoogpkcpheannaaDoorWrap
import Derived.Test.YtoogpkcpheannaaDoorLaid
import Derived.SevenTiedAt
import Derived.WalkKit
import Derived.Test.YtoogpkcpheannaaDoorSumB
import Derived.Test.YtoogpkcpheannaaDoorRefFact
import Derived.Test.YtoogpkcpheannaaDoorRefRound
import Derived.Test.YtoogpkcpheannaaDoorEqual
import Derived.ProofKit
import Derived.OpenShut
import Derived.ShutString
import Derived.ChangeOld
import Derived.Below
namespace Go.Proofs.YtoogpkcpheannaaDoor.sumSays
open Go.ChangeShapes Go.WideShapes Go.ChangeAt Go.RowKit
open Go.ChangeMaps (open_string shut_string)
set_option linter.unusedVariables false

theorem own : ownKnob Tryd.prog.godebug = none := by kernel_rfl
theorem laidOut : laidOutB Tryd.prog = true := by kernel_rfl

/-- WHAT THE WALK IS TOLD OF A SLICE OF INTEGERS THAT CAME IN: it is nil; or it leads to a row of 'cap' cells, the numbers 'zs' (the first 'len' are its elements, the rest its spare room), each fitting its kind. -/
def IsRow (k : IntKind) (w : World) (a : Option Addr) (len cap : Nat) (zs : List Int) : Prop :=
  (a = none ∧ len = 0 ∧ cap = 0 ∧ zs = []) ∨
  ∃ x, a = some x ∧ len ≤ cap ∧ cap ≤ maxLen ∧ zs.length = cap ∧ (∀ i, i < zs.length → w.cell? (x.add i) = some (.int k (zs.getD i 0))) ∧ ∀ n ∈ zs, (Lit.int k n).wf = true

attribute [local go_sem ↓] Go.wp_at_zero Go.wp_at_succ
theorem Nums_zero : Nums (fun _ => 0) := fun _ => by dsimp only; omega
theorem Nums_num (t : Nat) (h : t ≤ 1000) : Nums (fun _ => (t : Int)) := fun _ => by dsimp only; omega
/-- What holds of the world all along. -/
structure St (w W : World) (B o m : Nat) (bv ov cv : Nat → Nat) (N : Nat) (F : Nat → Nat → Int) : Prop where
  bel : Below w.heap.size w W
  t : Tab W
  tb : Tabs W B o m bv ov cv N F
theorem St.next {w W W' : World} {B o m : Nat} {bv ov cv : Nat → Nat} {N : Nat} {F : Nat → Nat → Int} (h : St w W B o m bv ov cv N F) (hN : 0 < N) (hb : Below W.heap.size W W') : St w W' B o m bv ov cv N F :=
  ⟨h.bel.trans (hb.mono h.bel.size), h.t.kept hb h.t.1, h.tb.kept hb hN⟩
/-- append to a list of the call's own: what was there stays. -/
theorem St.grown {w W W' : World} {B o m : Nat} {bv ov cv : Nat → Nat} {N : Nat} {F : Nat → Nat → Int} {x : Obj} {v : Option Nat} (h : St w W B o m bv ov cv N F) (hN : 0 < N) (hw : w.heap.size ≤ W.heap.size) (hlo : B < w.heap.size ∧ ∀ i, i < m → bv i < w.heap.size) (ht : 2 ≤ w.heap.size) (hg : (W.alloc x).grownBy W' v) (hv : ∀ t, v = some t → w.heap.size ≤ t) : St w W' B o m bv ov cv N F := by
  have hb : Below w.heap.size W W' := ((Below.refl w.heap.size W).alloc hw x).grown hg (by simp; omega) hv
  exact ⟨h.bel.trans hb, h.t.kept hb ht, ⟨fun i hi => (hb.cell (p := ⟨B, o + i, none⟩) hlo.1).trans (h.tb.cell i hi), fun i hi => (h.tb.row i hi).kept hb (hlo.2 i hi)⟩⟩
theorem alloc_below (w : World) (x : Obj) : Below w.heap.size w (w.alloc x) := (Below.refl _ w).alloc (Nat.le_refl _) _
theorem num_row (w : World) (x : Int) (t : TypeId) : Row (w.alloc (.cells #[.int .u64 x] t)) w.heap.size 0 1 (fun _ => x) := fun j hj => by
  rw [Nat.zero_add, World.cell?_alloc_new]
  match j, hj with
  | 0, _ => rfl
theorem rfact_no (ao : Option Addr) (m cap : Nat) (A : Nat → Option Addr) (L C : Nat → Nat) (F : Nat → Nat → Int) (w : World) (h : NoFacts w ao m A L C F) :
    Calls Tryd.prog 15 #[.slice ao m cap] w fun e w' => e = .returned (.int .i64 (-1)) ∧ w' = w := by
  by_cases h1 : m = 0 ∨ 3 < m
  · exact rfact_count ao m cap w h1
  · by_cases h2 : ∀ i, i < m → varsZ (L i) = varsZ (L 0)
    · have h3 : varsZ (L 0) = -1 := by
        have hr := varsZ_rng (L 0)
        by_cases e : varsZ (L 0) = -1
        · exact e
        · obtain ⟨n, hn⟩ : ∃ n : Nat, varsZ (L 0) = (n : Int) := ⟨(varsZ (L 0)).toNat, by omega⟩
          exact absurd ⟨by omega, by omega, (varsZ_back hn).1, fun i hi => (varsZ_back ((h2 i hi).trans hn)).2⟩ (h.no n)
      exact rfact_same ao m cap A L C F (-1) w (by omega) (by omega) h.l (fun i hi => (h2 i hi).trans h3)
    · obtain ⟨t, ht⟩ := Classical.not_forall.1 h2
      obtain ⟨ht1, ht2⟩ := Classical.not_imp.1 ht
      exact rfact_unlike ao m cap A L C F t w (by omega) h.l ht1 ht2
theorem rfact_yes (B o m cap : Nat) (bv ov cv : Nat → Nat) (F : Nat → Nat → Int) (n N : Nat) (w : World) (hm1 : 1 ≤ m) (hm : m ≤ 3) (hn : n ≤ 8) (hN : N = 2 ^ n) (hl : Tabs w B o m bv ov cv N F) :
    Calls Tryd.prog 15 #[.slice (some ⟨B, o, none⟩) m cap] w fun e w' => e = .returned (.int .i64 (n : Int)) ∧ w' = w :=
  rfact_same _ m cap _ _ _ F (n : Int) w hm1 hm hl.lists (fun i _ => by rw [hN]; exact varsZ_pow hn)

set_option maxHeartbeats 4000000 in
set_option maxRecDepth 100000 in
theorem says_no (ao : Option Addr) (m cap : Nat) (A : Nat → Option Addr) (L C : Nat → Nat) (F : Nat → Nat → Int) (w : World) (ht : Tab w) (h : NoFacts w ao m A L C F) :
    Calls Tryd.prog 4 #[.slice ao m cap] w fun e w' => e = .returned (.bool true) ∧ Below w.heap.size w w' := by
  have HF := hid (rfact_no ao m cap A L C F w h)
  have HC := hid (scheck_no ao m cap A L C F w ht h)
  have HA := hid (sclaim_no ao m cap A L C F w ht h)
  have HR := hid (sRound_no ao m cap A L C F w ht h)
  have HE := hid (equal_ok none none 0 0 0 (fun _ => 0) (fun _ => 0) w (by omega) (fun h0 => absurd h0 (by omega)) (fun h0 => absurd h0 (by omega)) (fun _ _ => rfl))
  clear ht h
  go_enter Tryd.func4, Tryd.ntmps4
  go_wp2_with (first
    | (go_at_call 15; refine (HF.out).mono ?_; rintro e w' ⟨rfl, hw⟩; obtain rfl := hw.symm)
    | (go_at_call 16; refine (HC.out).mono ?_; rintro e w' ⟨rfl, hw⟩; obtain rfl := hw.symm)
    | (go_at_call 17; refine (HA.out).mono ?_; rintro e w' ⟨rfl, hw⟩; obtain rfl := hw.symm)
    | (go_at_call 18; refine (HR.out).mono ?_; rintro e w' ⟨rfl, hw⟩; obtain rfl := hw.symm)
    | (go_at_call 14; refine (HE.out).mono ?_; rintro e w1 ⟨rfl, hb⟩; have HB := hid hb; clear hb))
  go_ret
  exact ⟨rfl, HB.out⟩
set_option maxHeartbeats 1000000 in
theorem says_big (B o m cap : Nat) (bv ov cv : Nat → Nat) (F : Nat → Nat → Int) (n N : Nat) (w : World) (hm1 : 1 ≤ m) (hm : m ≤ 3) (hn : n ≤ 8) (hN : N = 2 ^ n) (hl : Tabs w B o m bv ov cv N F) (h4 : 4 < n) :
    Calls Tryd.prog 4 #[.slice (some ⟨B, o, none⟩) m cap] w fun e w' => e = .returned (.bool true) ∧ Below w.heap.size w w' := by
  have HF := hid (rfact_yes B o m cap bv ov cv F n N w hm1 hm hn hN hl)
  clear hl hN
  have n4 : (4 : Int) < (n : Int) := by omega
  go_enter Tryd.func4, Tryd.ntmps4
  go_wp2_with (go_at_call 15; refine (HF.out).mono ?_; rintro e w' ⟨rfl, hw⟩; obtain rfl := hw.symm)
  go_ret
  exact ⟨rfl, Below.refl _ _⟩
set_option maxHeartbeats 4000000 in
set_option maxRecDepth 100000 in
theorem says_zero (B o m cap : Nat) (bv ov cv : Nat → Nat) (F : Nat → Nat → Int) (w : World) (hm1 : 1 ≤ m) (hm : m ≤ 3) (ht : Tab w) (hl : Tabs w B o m bv ov cv 1 F) (hv : ∀ i, i < m → Nums (F i)) :
    Calls Tryd.prog 4 #[.slice (some ⟨B, o, none⟩) m cap] w fun e w' => e = .returned (.bool true) ∧ Below w.heap.size w w' := by
  have HF := hid (rfact_yes B o m cap bv ov cv F 0 1 w hm1 hm (by omega) rfl hl)
  have hp := rpart_any B o m cap bv ov cv F none 0 0 0 1 1 (fun _ => 0) w hm1 hm (by omega) rfl rfl hl.cell hl.row hv (fun h0 => absurd h0 (by omega)) Nums_zero
  have e1 : partS F (fun _ => 0) 0 0 m 1 = claimK (kF F) m 1 := part_first F (fun _ => 0) m 0
  rw [e1] at hp
  have hca := fun w' ht' (hl' : Tabs w' B o m bv ov cv 1 F) => sclaim_ok B o m cap bv ov cv F 0 1 w' hm1 hm (by omega) rfl ht' hl' hv
  generalize ofK (claimK (kF F) m 1) = y at hp hca
  have HP := hid hp
  have HA := hid hca
  have HS := hid (St.mk (Below.refl w.heap.size w) ht hl)
  have HE := hid (fun w => equal_ok none none 0 0 0 (fun _ => 0) (fun _ => 0) w (by omega) (fun h0 => absurd h0 (by omega)) (fun h0 => absurd h0 (by omega)) (fun _ _ => rfl))
  clear ht hl hv hp hca e1
  go_enter Tryd.func4, Tryd.ntmps4
  go_wp2_with (first
    | (go_at_call 15; refine (HF.out).mono ?_; rintro e w' ⟨rfl, hw⟩; obtain rfl := hw.symm)
    | (go_at_call 7; refine (HP.out).mono ?_; rintro e w1 ⟨rfl, hb⟩; have HS1 := hid (HS.out.next (by omega) hb); clear hb)
    | (go_at_call 16; refine (scheck_ok B o m cap bv ov cv F 0 1 _ hm1 hm (by omega) rfl HS1.out.t HS1.out.tb).mono ?_; rintro e w' ⟨rfl, hw⟩; obtain rfl := hw.symm)
    | (go_at_call 17; refine (HA.out _ HS1.out.t HS1.out.tb).mono ?_; rintro e w' ⟨rfl, hw⟩; obtain rfl := hw.symm)
    | (go_at_call 18; refine (sRound_zero B o m cap bv ov cv F _ hm1 hm HS1.out.t HS1.out.tb).mono ?_; rintro e w' ⟨rfl, hw⟩; obtain rfl := hw.symm)
    | (go_at_call 14; refine (HE.out _).mono ?_; rintro e w2 ⟨rfl, hb⟩; have HS2 := hid (HS1.out.next (by omega) hb); clear hb))
  go_ret
  exact ⟨rfl, HS2.out.bel⟩
set_option maxHeartbeats 8000000 in
set_option maxRecDepth 100000 in
theorem says_pos (B o m cap : Nat) (bv ov cv : Nat → Nat) (F : Nat → Nat → Int) (n h : Nat) (w : World) (hm1 : 1 ≤ m) (hm : m ≤ 3) (hn : n + 1 ≤ 4) (hh : h = 2 ^ n) (ht : Tab w) (hl : Tabs w B o m bv ov cv (2 * h) F) (hv : ∀ i, i < m → Nums (F i)) :
    Calls Tryd.prog 4 #[.slice (some ⟨B, o, none⟩) m cap] w fun e w' => e = .returned (.bool true) ∧ Below w.heap.size w w' := by
  have h1 : 1 ≤ h := by rw [hh]; exact Nat.one_le_two_pow
  have hN : 2 * h = 2 ^ (n + 1) := by rw [Nat.pow_succ, hh, Nat.mul_comm]
  have HF := hid (rfact_yes B o m cap bv ov cv F (n + 1) (2 * h) w hm1 hm (by omega) hN hl)
  have hp := rpart_any B o m cap bv ov cv F none 0 0 (n + 1) (2 * h) (2 * h) (fun _ => 0) w hm1 hm (by omega) (by rw [hN, Nat.zero_add]) hN hl.cell hl.row hv (fun h0 => absurd h0 (by omega)) Nums_zero
  have e1 : partS F (fun _ => 0) 0 (n + 1) m (2 * h) = claimK (kF F) m (2 * h) := by rw [hN]; exact part_first F (fun _ => 0) m (n + 1)
  rw [e1] at hp
  have hca := fun w' ht' (hl' : Tabs w' B o m bv ov cv (2 * h) F) => sclaim_ok B o m cap bv ov cv F (n + 1) (2 * h) w' hm1 hm (by omega) hN ht' hl' hv
  generalize ofK (claimK (kF F) m (2 * h)) = y at hp hca
  have HP := hid hp
  have HA := hid hca
  have HS := hid (St.mk (Below.refl w.heap.size w) ht hl)
  have HLO : Hid (B < w.heap.size ∧ ∀ i, i < m → bv i < w.heap.size) := hid ⟨hl.lt (by omega), fun i hi => (hl.row i hi).lt (by omega)⟩
  have HTW := hid ht.1
  have HV := hid hv
  have HH := hid hh
  have HNN := hid hN
  obtain ⟨i0, hi, hz0, hz1, hz2⟩ := info_parts Tryd.infoO
  have HI := hid (And.intro hi (And.intro hz0 (And.intro hz1 hz2)))
  clear ht hl hv hp hca e1 hh hN hi hz0 hz1 hz2
  have n1 : ¬ ((4 : Int) < (n : Int) + 1) := by omega
  have n2 : ¬ ((n : Int) + 1 < 0) := by omega
  have n3 : (0 : Int) < (n : Int) + 1 := by omega
  go_enter Tryd.func4, Tryd.ntmps4
  go_wp2_with (first
    | (go_at_call 15; refine (HF.out).mono ?_; rintro e w' ⟨rfl, hw⟩; obtain rfl := hw.symm)
    | (go_at_call 7; refine (HP.out).mono ?_; rintro e w1 ⟨rfl, hb⟩; have HS1 := hid (HS.out.next (by omega) hb); clear hb))
  clear HF HP HS
  go_loopg [8, 30] (m + 1) (fun q x i wr => ∃ (k : Nat) (v : Value), k ≤ m + 1 ∧ q = m + 1 - k ∧ x = v ∧ i = .int .i64 (k : Int) ∧ Hid (Own wr w.heap.size v k (fun j => ofK (roundK (kF F) m h (kn j)))) ∧ Hid (St w wr B o m bv ov cv (2 * h) F))
  case atStart => exact ⟨0, _, by omega, rfl, rfl, rfl, hid (Own.nil _ _ _), HS1⟩
  case round =>
    clear HS1
    obtain ⟨k, v, hk, rfl, rfl, rfl, HO, HS⟩ := hrel
    by_cases hlt : k < m + 1
    · have k0 : (k : Int) < (m : Int) + 1 := by omega
      have wk : IntKind.u64.wrap (k : Int) = (k : Int) := by rw [IntKind.wrap_u64]; omega
      go_wp2_with fail
      have hb1 := alloc_below wr (.cells #[.int .u64 (k : Int)] 23)
      have hr1 := num_row wr (k : Int) 23
      have hs1 := HS.out.next (by omega) hb1
      have HB1 := hid hb1
      have hp := rpart_any B o m cap bv ov cv F (some ⟨wr.heap.size, 0, none⟩) 1 1 n (2 * h) h (fun _ => (k : Int)) _ hm1 hm (by omega) (by rw [HNN.out, Nat.add_comm]) HH.out hs1.tb.cell hs1.tb.row HV.out (PRow.of hr1) (Nums_num k (by omega))
      have e1 : partS F (fun _ => (k : Int)) 1 n m h = roundK (kF F) m h (kn k) := by
        have := part_right F (fun _ => (k : Int)) m (n + 1) 0 (kn k) (fun _ => 0) (by omega) (fun j hj => absurd hj (by omega)) rfl
        rw [right_zero] at this
        rw [HH.out]
        exact this
      rw [e1] at hp
      obtain ⟨z, hz⟩ : ∃ z, ofK (roundK (kF F) m h (kn k)) = z := ⟨_, rfl⟩
      rw [hz] at hp
      have HP := hid hp
      have HZ := hid hz
      have HS1 := hid hs1
      clear hb1 hr1 hs1 hp e1 hz
      refine (HP.out).mono ?_
      rintro e w3 ⟨rfl, hb3⟩
      have hB4 := HB1.out.trans (hb3.mono HB1.out.size)
      have HO4 := hid (HO.out.kept hB4)
      have HS4 := hid (HS.out.next (by omega) hB4)
      clear hb3 hB4 HP HB1 HS1
      go_wp2_with (at_builtin; refine wpList_append_lies _ rfl _ _ 22 rfl w.heap.size 23 i0 (.int .u64 0) 1 8 Tryd.underlying22 HI.out.1 HI.out.2.1 HI.out.2.2.1 HI.out.2.2.2 rfl (by decide) _ _ _ rfl (World.ownsRow.alloc HO4.out _) ⟨w3.heap.size, 0, none⟩ 1 1 [.int .u64 z] rfl rfl ?qc2 ?qc3 ?qc4 ?qc5 ?qc6 ?qc7 (w3.heap.size + 1) ?qc8 ?_)
      case qc2 =>
        intro j u hj
        match j, hj with
        | 0, hj => simp at hj; subst hj; simp [Addr.add]
      case qc3 => intro u hu; simp at hu; subst hu; rfl
      case qc4 => omega
      case qc5 => unfold maxLen; omega
      case qc6 => omega
      case qc7 => have := HS4.out.bel.size; simp; omega
      case qc8 => simp
      intro g2 c2 w6 hown2 hgrow2 hat2 hlt3
      have HO6 : Hid (Own w6 w.heap.size (.slice (some ⟨g2, 0, none⟩) (k + 1) c2) (k + 1) (fun j => ofK (roundK (kF F) m h (kn j)))) := hid (by
        rw [cellsOf_snoc] at hown2
        exact Own.congr hown2 fun j hj => by
          unfold catF
          by_cases e : j < k
          · rw [if_pos e]
          · rw [if_neg e, show j = k from by omega, HZ.out])
      have HS6 : Hid (St w w6 B o m bv ov cv (2 * h) F) := hid (St.grown HS4.out (by omega) HS4.out.bel.size HLO.out HTW.out hgrow2 (by intro t ht; exact (World.ownsRow.lt HO4.out t ht).1))
      clear hown2 hgrow2 hat2 hlt3
      go_wp2_with fail
      go_roundg (m + 1 - (k + 1))
      case measure => go_light; omega
      case rel => exact ⟨k + 1, _, by omega, rfl, rfl, by go_num, HO6, HS6⟩
    · have e : k = m + 1 := by omega
      subst e
      obtain ⟨av, cv2, ev, hpv, _⟩ := HO.out.is
      subst ev
      have HPV := hid hpv
      clear hpv
      have k0 : ¬ ((m : Int) + 1 < (m : Int) + 1) := by omega
      have hck := scheck_ok B o m cap bv ov cv F (n + 1) (2 * h) wr hm1 hm (by omega) HNN.out HS.out.t HS.out.tb
      rw [show ((n + 1 : Nat) : Int) = (n : Int) + 1 from by omega] at hck
      have HC := hid hck
      clear hck
      go_wp2_with (first
        | (go_at_call 16; refine (HC.out).mono ?_; rintro e w' ⟨rfl, hw⟩; obtain rfl := hw.symm)
        | (go_at_call 17; refine (HA.out _ HS.out.t HS.out.tb).mono ?_; rintro e w' ⟨rfl, hw⟩; obtain rfl := hw.symm)
        | (go_at_call 18; refine (sRound_ok B o m cap bv ov cv F n h _ hm1 hm (by omega) HH.out HS.out.t HS.out.tb HV.out).mono ?_; rintro e w4 ⟨rfl, hm2⟩; have HM := hid hm2; clear hm2)
        | (go_at_call 14; refine (equal_ok _ _ (m + 1) _ _ _ _ _ (by omega) (PRow.of HM.out.row) (HPV.out.kept HM.out.below) (fun _ _ => rfl)).mono ?_; rintro e w5 ⟨rfl, hb⟩; have HB5 := hid hb; clear hb))
      go_ret
      exact ⟨rfl, (HS.out.next (by omega) (HM.out.below.trans (HB5.out.mono HM.out.below.size))).bel⟩
theorem facts_of (m : Nat) (L : Nat → Nat) : (∃ n, Facts m L n) ∨ ∀ n, ¬ Facts m L n := by
  by_cases h : ∃ n, Facts m L n
  · exact .inl h
  · exact .inr fun n hn => h ⟨n, hn⟩

/-- What the row lists. -/
def laidT : List (String × DataW Unit) := [("math/bits.deBruijn32tab", Rows.laid_math_bits_deBruijn32tab), ("math/bits.deBruijn64tab", Rows.laid_math_bits_deBruijn64tab)]
theorem door_met (os : Os) (args : Array Value) : laidMetH Tryd.prog laidT ((World.laidAll Tryd.prog os laidT).forCall (fun _ _ => 0) ⟨#[], args, []⟩).memory := by
  rw [MakeChecks.laidMetH_plain _ _ _ (by kernel_rfl)]
  exact laidMet_laidAll _ (by kernel_rfl) (by kernel_rfl)
theorem tab_of_laid {W : World} (h : laidMetH Tryd.prog laidT W) : Tab W := by
  rw [MakeChecks.laidMetH_plain _ _ _ (by kernel_rfl)] at h
  obtain ⟨ps, hv, _⟩ := h
  exact tab_of_vars hv

set_option maxHeartbeats 4000000 in
set_option maxRecDepth 100000 in
theorem walk (a0 : Option Addr) (len0 cap0 : Nat) (A0 : Nat → Option Addr) (L0 C0 : Nat → Nat) (F0 : Nat → Nat → Int) (w : World) (w0 : IsLists w a0 len0 cap0 A0 L0 C0 F0) (ht : Tab w) :
    Calls Tryd.prog 4 #[.slice a0 len0 cap0] w fun e w' => e = .returned (.bool true) ∧ Below w.heap.size w w' := by
  obtain ⟨hl, hmax, hF, _⟩ := w0
  rcases facts_of len0 L0 with ⟨n, hm1, hm, hn, hL⟩ | hno
  · obtain ⟨B, o, rfl, htb⟩ := hl.tabs (N := 2 ^ n) (by omega) Nat.one_le_two_pow hL
    have hv := fun i (hi : i < len0) => (hF i hi).1
    by_cases h4 : 4 < n
    · exact says_big B o len0 cap0 _ _ _ F0 n (2 ^ n) w hm1 hm hn rfl htb h4
    · cases n with
      | zero => exact says_zero B o len0 cap0 _ _ _ F0 w hm1 hm ht htb hv
      | succ n =>
        rw [Nat.pow_succ, Nat.mul_comm] at htb
        exact says_pos B o len0 cap0 _ _ _ F0 n (2 ^ n) w hm1 hm (by omega) rfl ht htb hv
  · exact says_no a0 len0 cap0 A0 L0 C0 F0 w ht ⟨hl, fun i hi => (hF i hi).2, hno⟩

set_option maxRecDepth 100000 in
theorem lifted (os : Os) (started : os.Started) (H : Type) (enc : TypeId × Value → H) :
    ReturnsInHanded {} Tryd.checked os 4 .any (fun w args => (Rows.sumSaysSpec.pre enc Tryd.prog Tryd.f4 [] false w args ∧ laidMetH Tryd.prog laidT w) ∧ sizedMet enc Tryd.prog Tryd.f4 (OpenSpec.ofChange Rows.sumSaysSpec) false w args) (Rows.sumSaysSpec.post enc Tryd.prog Tryd.f4 false true false false) := by
  refine wrap_and_shaped (C := Tryd.checked) (X := fun w _ => laidMetH Tryd.prog laidT w) (fun _ _ _ hh h => h.of_heap hh) own started (by kernel_rfl) Tryd.func4
    (ChangeSpec.witness_shaped (enc := enc) (C := Tryd.checked) (os := os) (X := fun w _ => laidMetH Tryd.prog laidT w) false (World.laidAll Tryd.prog os laidT) #[.slice none 0 0] 8 (World.laidAll_os _ _ _) (World.shaped_of_ZipB (by kernel_rfl) (by kernel_rfl)) (by kernel_rfl) (by kernel_rfl) (by kernel_rfl) (door_met os _)) ?_
  intro W base args ds gs before hval0 hW _ _ hL hsh _
  have hval : ∀ (j : Nat) t v, Tryd.f4.params[j]? = some t → args[j]? = some v → Value.okWide Tryd.prog W .any base t v := hval0
  have hW' := hW
  obtain ⟨p, q, hA0, hV, rfl, hfz, hnd⟩ := hW
  have hA : DataW.TrodAll enc Tryd.prog W 0 (fun _ => true) true Tryd.f4.params.toList args.toList ds p := hA0
  rw [Tryd.params4] at hA hval
  obtain ⟨v0, vs0, d0, ds0, p0, q0, hargs, rfl, rfl, h0, r0⟩ := trodAll_cons hA
  obtain ⟨rfl, rfl, rfl⟩ := trodAll_nil r0
  obtain rfl : args = #[v0] := by cases args; simp_all
  obtain ⟨rfl, rfl⟩ := trodVars_none hV
  obtain ⟨a0, len0, cap0, rfl⟩ := okWide_slice Tryd.underlying27 (hval 0 27 v0 rfl rfl)
  have k0 := h0
  have lt0 : ∀ x ∈ p0, x.block < W.heap.size := by obtain ⟨m, hm⟩ := k0; exact DataW.trod_lt m _ _ _ hm
  obtain ⟨A0, L0, C0, F0, w0⟩ : ∃ A L C F, IsLists W a0 len0 cap0 A L C F := by
    obtain ⟨fuel, hf⟩ := h0
    exact lists_of hf
  clear hA0 hval0
  refine (walk a0 len0 cap0 A0 L0 C0 F0 W w0 (tab_of_laid hL)).mono fun e W' ⟨he, bel⟩ => ?_
  subst he
  exact ⟨_, rfl, _, _, _, [], _, [], hW', trodAll_mk1 (shut_bool Tryd.underlying4 _), (trodAll_cons_mk (Below.trod laidOut (by kernel_rfl) (of_decide_eq_true (by kernel_rfl)) k0 bel lt0) trodAll_mk0), rfl, bel.frame _, fun h => by cases h⟩

theorem over : Rows.sumSaysRow.holds Tryd.pinned (OpenSpec.ofChange Rows.sumSaysSpec) :=
  OpenClaim.holds_of_wide 4 Tryd.f4 rfl rfl rfl rfl rfl rfl rfl ⟨rfl, rfl, rfl, rfl, rfl⟩ rfl rfl rfl rfl rfl (by kernel_rfl) Tryd.func4 (by kernel_rfl)
    (of_decide_eq_true (by kernel_rfl)) (by unfold Func.isWrapper; first | (rw [if_pos (by decide +kernel)]; kernel_rfl) | (rw [if_neg (by decide +kernel)]; exact ⟨rfl, rfl⟩))
    (fun os started H enc _ => lifted os started H enc)

/-- ████ THE STATEMENT ████ -/
theorem proved : Rows.SumSaysSaid := over
end Go.Proofs.YtoogpkcpheannaaDoor.sumSays

namespace Go.Proofs.YtoogpkcpheannaaDoor
/-- The given statement: the row's, tied to the program's text. -/
theorem sumSays_holds : Rows.SumSaysCardSaid :=
  Claim7.holds_tied_plain_at .later [] [.data, .data] true (true, "287f21f75c4a23ec8e66bf8296e90ad98cae14138d756f3ed6db4f2d476e5d45") false
    sumSays.proved (fun _ h => by cases h) (by kernel_rfl) (fun _ h => by cases h) sumSays_row_tie rfl ⟨rfl, rfl⟩ (by kernel_rfl) rfl
    (fun f fn hf hfn => by
      obtain rfl : f = 4 := Option.some.inj ((show Tryd.prog.funcNamed "tallystick/tallylaw.SumSays" = some 4 by kernel_rfl).symm.trans hf) |>.symm
      obtain rfl : fn = Tryd.f4 := (Option.some.inj (Tryd.func4.symm.trans hfn)).symm
      exact ⟨by kernel_rfl, fun j t ht => by
        rw [Tryd.params4] at ht
        have hm : t ∈ [27] := by simpa using Array.mem_of_getElem? ht
        have hall : ([27].all fun u => !Tryd.prog.wantsStandIn u) = true := by kernel_rfl
        exact (show Tryd.prog.wantsStandIn t = false by simpa using List.all_eq_true.1 hall t hm)⟩)
    (by kernel_rfl)
end Go.Proofs.YtoogpkcpheannaaDoor
