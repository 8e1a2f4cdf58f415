/-
  Whatever list of lists and whatever list of draws of numbers of 64 bits are handed in, the law SumProves answers true and writes nothing that was there: Prove of package sum answers what the document's own answer (package tallyref) says; no condition; tied to the program's text: Go's two tables deBruijn32tab and deBruijn64tab hold what math/bits lays.
-/
import Derived.Test.YtoogpkcpheannaaDoorRows
import Derived.Test.YtoogpkcpheannaaDoorListsOpen
import Derived.Test.YtoogpkcpheannaaDoorCards
import Derived.Test.YtoogpkcpheannaaDoorTie
import Derived.Test.YtoogpkcpheannaaDoorWrap
import Derived.Test.YtoogpkcpheannaaDoorLaid
import Derived.SevenTiedAt
import Derived.WalkKit
import Derived.Test.YtoogpkcpheannaaDoorSumP
import Derived.Test.YtoogpkcpheannaaDoorRefFact
import Derived.Test.YtoogpkcpheannaaDoorRefRnds
import Derived.Test.YtoogpkcpheannaaDoorEqualL
import Derived.ProofKit
import Derived.OpenShut
import Derived.ShutString
import Derived.ChangeOld
import Derived.Below
namespace Go.Proofs.YtoogpkcpheannaaDoor.sumProves
open Go.ChangeShapes Go.WideShapes Go.ChangeAt Go.RowKit
open Go.ChangeMaps (open_string shut_string)
set_option linter.unusedVariables false

theorem own : ownKnob Tryd.prog.godebug = none := by kernel_rfl
theorem laidOut : laidOutB Tryd.prog = true := by kernel_rfl

/-- WHAT THE WALK IS TOLD OF A SLICE OF INTEGERS THAT CAME IN: it is nil; or it leads to a row of 'cap' cells, the numbers 'zs' (the first 'len' are its elements, the rest its spare room), each fitting its kind. -/
def IsRow (k : IntKind) (w : World) (a : Option Addr) (len cap : Nat) (zs : List Int) : Prop :=
  (a = none ∧ len = 0 ∧ cap = 0 ∧ zs = []) ∨
  ∃ x, a = some x ∧ len ≤ cap ∧ cap ≤ maxLen ∧ zs.length = cap ∧ (∀ i, i < zs.length → w.cell? (x.add i) = some (.int k (zs.getD i 0))) ∧ ∀ n ∈ zs, (Lit.int k n).wf = true

attribute [local go_sem ↓] Go.wp_at_zero Go.wp_at_succ
theorem row_of {w : World} {a : Option Addr} {len cap : Nat} {zs : List Int} (h : IsRow .u64 w a len cap zs) (hl : 0 < len) :
    ∃ b off f, a = some ⟨b, off, none⟩ ∧ Row w b off len f ∧ Nums f := by
  rcases h with ⟨_, rfl, _⟩ | ⟨x, rfl, hc, _, hz, hcell, hwf⟩
  · omega
  · obtain ⟨b, off, rfl, hcs⟩ := ints_at hcell (by omega)
    exact ⟨b, off, fun j => zs.getD j 0, rfl, fun j hj => hcs j (by omega), nums_of_wf hwf⟩
theorem Nums_zero : Nums (fun _ => 0) := fun _ => by dsimp only; omega
theorem prow_of {w : World} {a : Option Addr} {len cap : Nat} {zs : List Int} (h : IsRow .u64 w a len cap zs) : ∃ g, PRow w a len g ∧ Nums g := by
  by_cases hl : 0 < len
  · obtain ⟨b, off, f, e, hr, hv⟩ := row_of h hl
    exact ⟨f, fun _ => ⟨b, off, e, hr⟩, hv⟩
  · exact ⟨fun _ => 0, fun h => absurd h hl, Nums_zero⟩
theorem len_max {w : World} {a : Option Addr} {len cap : Nat} {zs : List Int} (h : IsRow .u64 w a len cap zs) : len ≤ maxLen := by
  rcases h with ⟨_, rfl, _⟩ | ⟨_, _, h1, h2, _⟩
  · exact Nat.zero_le _
  · exact Nat.le_trans h1 h2
theorem len_cap {w : World} {a : Option Addr} {len cap : Nat} {zs : List Int} (h : IsRow .u64 w a len cap zs) : len ≤ cap := by
  rcases h with ⟨_, rfl, rfl, _⟩ | ⟨_, _, h1, h2, _⟩
  · exact Nat.zero_le _
  · exact h1
theorem i64_rng {a : Int} (h : (Lit.int .i64 a).wf = true) : -9223372036854775808 ≤ a ∧ a ≤ 9223372036854775807 := by
  simp [Lit.wf, IntKind.min, IntKind.max, IntKind.signed, IntKind.bits] at h
  omega
theorem rfact_no (ao : Option Addr) (m cap : Nat) (A : Nat → Option Addr) (L C : Nat → Nat) (F : Nat → Nat → Int) (w : World) (h : NoFacts w ao m A L C F) :
    Calls Tryd.prog 15 #[.slice ao m cap] w fun e w' => e = .returned (.int .i64 (-1)) ∧ w' = w := by
  by_cases h1 : m = 0 ∨ 3 < m
  · exact rfact_count ao m cap w h1
  · by_cases h2 : ∀ i, i < m → varsZ (L i) = varsZ (L 0)
    · have h3 : varsZ (L 0) = -1 := by
        have hr := varsZ_rng (L 0)
        by_cases e : varsZ (L 0) = -1
        · exact e
        · obtain ⟨n, hn⟩ : ∃ n : Nat, varsZ (L 0) = (n : Int) := ⟨(varsZ (L 0)).toNat, by omega⟩
          exact absurd ⟨by omega, by omega, (varsZ_back hn).1, fun i hi => (varsZ_back ((h2 i hi).trans hn)).2⟩ (h.no n)
      exact rfact_same ao m cap A L C F (-1) w (by omega) (by omega) h.l (fun i hi => (h2 i hi).trans h3)
    · obtain ⟨t, ht⟩ := Classical.not_forall.1 h2
      obtain ⟨ht1, ht2⟩ := Classical.not_imp.1 ht
      exact rfact_unlike ao m cap A L C F t w (by omega) h.l ht1 ht2
theorem rfact_yes (B o m cap : Nat) (bv ov cv : Nat → Nat) (F : Nat → Nat → Int) (n N : Nat) (w : World) (hm1 : 1 ≤ m) (hm : m ≤ 3) (hn : n ≤ 8) (hN : N = 2 ^ n) (hl : Tabs w B o m bv ov cv N F) :
    Calls Tryd.prog 15 #[.slice (some ⟨B, o, none⟩) m cap] w fun e w' => e = .returned (.int .i64 (n : Int)) ∧ w' = w :=
  rfact_same _ m cap _ _ _ F (n : Int) w hm1 hm hl.lists (fun i _ => by rw [hN]; exact varsZ_pow hn)


theorem facts_of (m : Nat) (L : Nat → Nat) : (∃ n, Facts m L n) ∨ ∀ n, ¬ Facts m L n := by
  by_cases h : ∃ n, Facts m L n
  · exact .inl h
  · exact .inr fun n hn => h ⟨n, hn⟩
/-- What holds of the world all along. -/
structure St (w W : World) (B o m : Nat) (bv ov cv : Nat → Nat) (N : Nat) (F : Nat → Nat → Int) (ad : Option Addr) (n : Nat) (D : Nat → Int) : Prop where
  bel : Below w.heap.size w W
  t : Tab W
  tb : Tabs W B o m bv ov cv N F
  d : PRow W ad n D
theorem St.next {w W W' : World} {B o m : Nat} {bv ov cv : Nat → Nat} {N : Nat} {F : Nat → Nat → Int} {ad : Option Addr} {n : Nat} {D : Nat → Int} (h : St w W B o m bv ov cv N F ad n D) (hN : 0 < N) (hb : Below W.heap.size W W') : St w W' B o m bv ov cv N F ad n D :=
  ⟨h.bel.trans (hb.mono h.bel.size), h.t.kept hb h.t.1, h.tb.kept hb hN, h.d.kept hb⟩
/-- A list of lists of the call's own stays where another list is appended to. -/
theorem grown_far {w W W' : World} {B o m : Nat} {bv ov cv : Nat → Nat} {N : Nat} {F : Nat → Nat → Int} {ad : Option Addr} {n : Nat} {D : Nat → Int} {x : Obj} {v : Option Nat} {w0 : World} {u : Value} {k M base : Nat} {a c : Nat → Nat} {G : Nat → Nat → Int} (h : St w w0 B o m bv ov cv N F ad n D) (ho : OwnL w0 base u k M a c G) (hN : 0 < N) (hb : Below w0.heap.size w0 W) (hg : (W.alloc x).grownBy W' v) (hv : ∀ t, v = some t → w0.heap.size ≤ t) :
    St w W' B o m bv ov cv N F ad n D ∧ OwnL W' base u k M a c G ∧ Below w0.heap.size w0 W' := by
  have hb2 : Below w0.heap.size w0 W' := (hb.alloc hb.size x).grown hg (by have := hb.size; simp; omega) hv
  exact ⟨h.next hN hb2, ho.kept hb2, hb2⟩

set_option maxHeartbeats 4000000 in
set_option maxRecDepth 100000 in
theorem proves_no (ao ad : Option Addr) (m cap nd cd : Nat) (A : Nat → Option Addr) (L C : Nat → Nat) (F : Nat → Nat → Int) (w : World) (ht : Tab w) (h : NoFacts w ao m A L C F) :
    Calls Tryd.prog 5 #[.slice ao m cap, .slice ad nd cd] w fun e w' => e = .returned (.bool true) ∧ Below w.heap.size w w' := by
  have HF := hid (rfact_no ao m cap A L C F w h)
  have HP := hid (sprove_no ao ad m cap nd cd A L C F w ht h)
  have HS := hid (same_ok none none 0 0 0 (fun _ => none) (fun _ => none) (fun _ => 0) (fun _ => 0) (fun _ => 0) (fun _ _ => 0) (fun _ _ => 0) w (by omega) (fun h0 => absurd h0 (by omega)) (fun h0 => absurd h0 (by omega)) (fun i hi => absurd hi (by omega)) (fun _ _ _ _ => rfl))
  have HE := hid (fun w => equal_ok none none 0 0 0 (fun _ => 0) (fun _ => 0) w (by omega) (fun h0 => absurd h0 (by omega)) (fun h0 => absurd h0 (by omega)) (fun _ _ => rfl))
  clear ht h
  go_enter Tryd.func5, Tryd.ntmps5
  go_wp2_with (first
    | (go_at_call 15; refine (HF.out).mono ?_; rintro e w' ⟨rfl, hw⟩; obtain rfl := hw.symm)
    | (go_at_call 20; refine (HP.out).mono ?_; rintro e w' ⟨rfl, hw⟩; obtain rfl := hw.symm)
    | (go_at_call 21; refine (HS.out).mono ?_; rintro e w1 ⟨rfl, hb⟩; have HB := hid hb; clear hb)
    | (go_at_call 14; refine (HE.out _).mono ?_; rintro e w2 ⟨rfl, hb⟩; have HB2 := hid hb; clear hb))
  go_ret
  exact ⟨rfl, HB.out.trans (HB2.out.mono HB.out.size)⟩
set_option maxHeartbeats 1000000 in
theorem proves_big (B o m cap : Nat) (bv ov cv : Nat → Nat) (F : Nat → Nat → Int) (n N : Nat) (ad : Option Addr) (nd cd : Nat) (w : World) (hm1 : 1 ≤ m) (hm : m ≤ 3) (hn : n ≤ 8) (hN : N = 2 ^ n) (hl : Tabs w B o m bv ov cv N F) (h4 : 4 < n) :
    Calls Tryd.prog 5 #[.slice (some ⟨B, o, none⟩) m cap, .slice ad nd cd] w fun e w' => e = .returned (.bool true) ∧ Below w.heap.size w w' := by
  have HF := hid (rfact_yes B o m cap bv ov cv F n N w hm1 hm hn hN hl)
  clear hl hN
  have n4 : (4 : Int) < (n : Int) := by omega
  go_enter Tryd.func5, Tryd.ntmps5
  go_wp2_with (go_at_call 15; refine (HF.out).mono ?_; rintro e w' ⟨rfl, hw⟩; obtain rfl := hw.symm)
  go_ret
  exact ⟨rfl, Below.refl _ _⟩
set_option maxHeartbeats 4000000 in
set_option maxRecDepth 100000 in
theorem proves_arg (B o m cap : Nat) (bv ov cv : Nat → Nat) (F : Nat → Nat → Int) (n N : Nat) (ad : Option Addr) (nd cd : Nat) (w : World) (hm1 : 1 ≤ m) (hm : m ≤ 3) (hn : n ≤ 4) (hN : N = 2 ^ n) (ht : Tab w) (hl : Tabs w B o m bv ov cv N F) (hd : nd ≠ n) :
    Calls Tryd.prog 5 #[.slice (some ⟨B, o, none⟩) m cap, .slice ad nd cd] w fun e w' => e = .returned (.bool true) ∧ Below w.heap.size w w' := by
  have HF := hid (rfact_yes B o m cap bv ov cv F n N w hm1 hm (by omega) hN hl)
  have HP := hid (sprove_arg B o m cap bv ov cv F n N ad nd cd w hm1 hm (by omega) hN ht hl hd)
  have HS := hid (same_ok none none 0 0 0 (fun _ => none) (fun _ => none) (fun _ => 0) (fun _ => 0) (fun _ => 0) (fun _ _ => 0) (fun _ _ => 0) w (by omega) (fun h0 => absurd h0 (by omega)) (fun h0 => absurd h0 (by omega)) (fun i hi => absurd hi (by omega)) (fun _ _ _ _ => rfl))
  have HE := hid (fun w => equal_ok none none 0 0 0 (fun _ => 0) (fun _ => 0) w (by omega) (fun h0 => absurd h0 (by omega)) (fun h0 => absurd h0 (by omega)) (fun _ _ => rfl))
  have hb : ((nd : Int) != (n : Int)) = true := bne_iff_ne.2 (by omega)
  have n1 : ¬ ((4 : Int) < (n : Int)) := by omega
  have n2 : ¬ ((n : Int) < 0) := by omega
  clear ht hl hN hd
  go_enter Tryd.func5, Tryd.ntmps5
  go_wp2_with (first
    | (go_at_call 15; refine (HF.out).mono ?_; rintro e w' ⟨rfl, hw⟩; obtain rfl := hw.symm)
    | (go_at_call 20; refine (HP.out).mono ?_; rintro e w' ⟨rfl, hw⟩; obtain rfl := hw.symm)
    | (go_at_call 21; refine (HS.out).mono ?_; rintro e w1 ⟨rfl, hb⟩; have HB := hid hb; clear hb)
    | (go_at_call 14; refine (HE.out _).mono ?_; rintro e w2 ⟨rfl, hb⟩; have HB2 := hid hb; clear hb))
  go_ret
  exact ⟨rfl, HB.out.trans (HB2.out.mono HB.out.size)⟩
set_option maxHeartbeats 8000000 in
set_option maxRecDepth 100000 in
theorem proves_ok (B o m cap : Nat) (bv ov cv : Nat → Nat) (F : Nat → Nat → Int) (n N : Nat) (ad : Option Addr) (cd : Nat) (D : Nat → Int) (w : World) (hm1 : 1 ≤ m) (hm : m ≤ 3) (hn : n ≤ 4) (hN : N = 2 ^ n) (ht : Tab w) (hl : Tabs w B o m bv ov cv N F) (hv : ∀ i, i < m → Nums (F i)) (hd : PRow w ad n D) (hcd : n ≤ cd) (hD : Nums D) :
    Calls Tryd.prog 5 #[.slice (some ⟨B, o, none⟩) m cap, .slice ad n cd] w fun e w' => e = .returned (.bool true) ∧ Below w.heap.size w w' := by
  have hN1 : 1 ≤ N := by rw [hN]; exact Nat.one_le_two_pow
  have hN2 : N ≤ 256 := by rw [hN]; exact pow_256 (by omega)
  have HF := hid (rfact_yes B o m cap bv ov cv F n N w hm1 hm (by omega) hN hl)
  have HR := hid (rrounds_any B o m cap bv ov cv F n N ad cd D w hm1 hm (by omega) hN hl hv hd hcd hD)
  have HS := hid (St.mk (Below.refl w.heap.size w) ht hl hd)
  have HV := hid hv
  have HDD := hid hD
  have HNN := hid hN
  obtain ⟨i0, hi, hz0, hz1, hz2⟩ := info_parts Tryd.infoO
  have HI := hid (And.intro hi (And.intro hz0 (And.intro hz1 hz2)))
  clear ht hl hv hd hD hN hi hz0 hz1 hz2
  have n1 : ¬ ((4 : Int) < (n : Int)) := by omega
  have n2 : ¬ ((n : Int) < 0) := by omega
  go_enter Tryd.func5, Tryd.ntmps5
  go_wp2_with (first
    | (go_at_call 15; refine (HF.out).mono ?_; rintro e w' ⟨rfl, hw⟩; obtain rfl := hw.symm)
    | (go_at_call 19; refine (HR.out).mono ?_; rintro e w1 ⟨vr, ra, rc, rfl, hor, hb⟩; have HS1 := hid (HS.out.next hN1 hb); have HOR1 := hid hor; clear hb hor))
  clear HF HR HS
  go_loopg [8, 23] m (fun q x i wr => ∃ (k : Nat) (v : Value), k ≤ m ∧ q = m - k ∧ x = v ∧ i = .int .i64 (k : Int) ∧ Hid (Own wr w1.heap.size v k (fun j => ofK (evS (kF F j) (fun j => kk (D j)) n))) ∧ Hid (St w wr B o m bv ov cv N F ad n D) ∧ Hid (OwnL wr w.heap.size vr n (m + 1) ra rc (rightF F m n D)) ∧ Hid (Below w1.heap.size w1 wr))
  case atStart => exact ⟨0, _, by omega, rfl, rfl, rfl, hid (Own.nil _ _ _), HS1, HOR1, hid (Below.refl _ _)⟩
  case round =>
    obtain ⟨k, v, hk, rfl, rfl, rfl, HO, HS, HOR, HB⟩ := hrel
    by_cases hlt : k < m
    · have c1 := HS.out.tb.cell k hlt
      have k0 : (0 : Int) ≤ (k : Int) := by omega
      have k1 : (k : Int) < (m : Int) := by omega
      have hev := reval_any (bv k) (ov k) n N (cv k) cd ad (F k) D wr (by omega) HNN.out (by omega) (HS.out.tb.row k hlt) (HV.out k hlt) HS.out.d HDD.out
      obtain ⟨z, hz⟩ : ∃ z, ofK (evS (kF F k) (fun j => kk (D j)) n) = z := ⟨_, rfl⟩
      have hz2 : ofK (evS (fun j => kk (F k j)) (fun j => kk (D j)) n) = z := hz
      rw [hz2] at hev
      have HEV := hid hev
      have HZ := hid hz
      clear hev hz hz2
      go_wp2_with fail
      refine (HEV.out).mono ?_
      rintro e w3 ⟨rfl, hb3⟩
      have HO4 := hid (HO.out.kept hb3)
      have HB4 := hid (HB.out.trans (hb3.mono HB.out.size))
      clear hb3 HEV c1
      go_wp2_with (at_builtin; refine wpList_append_lies _ rfl _ _ 22 rfl w1.heap.size 23 i0 (.int .u64 0) 1 8 Tryd.underlying22 HI.out.1 HI.out.2.1 HI.out.2.2.1 HI.out.2.2.2 rfl (by decide) _ _ _ rfl (World.ownsRow.alloc HO4.out _) ⟨w3.heap.size, 0, none⟩ 1 1 [.int .u64 z] rfl rfl ?qc2 ?qc3 ?qc4 ?qc5 ?qc6 ?qc7 (w3.heap.size + 1) ?qc8 ?_)
      case qc2 =>
        intro j u hj
        match j, hj with
        | 0, hj => simp at hj; subst hj; simp [Addr.add]
      case qc3 => intro u hu; simp at hu; subst hu; rfl
      case qc4 => omega
      case qc5 => unfold maxLen; omega
      case qc6 => omega
      case qc7 => have := HB4.out.size; simp; omega
      case qc8 => simp
      intro g2 c2 w6 hown2 hgrow2 hat2 hlt3
      have HO6 : Hid (Own w6 w1.heap.size (.slice (some ⟨g2, 0, none⟩) (k + 1) c2) (k + 1) (fun j => ofK (evS (kF F j) (fun j => kk (D j)) n))) := hid (by
        rw [cellsOf_snoc] at hown2
        exact Own.congr hown2 fun j hj => by
          unfold catF
          by_cases e : j < k
          · rw [if_pos e]
          · rw [if_neg e, show j = k from by omega, HZ.out])
      have HG6 := hid (grown_far HS1.out HOR1.out hN1 HB4.out hgrow2 (by intro t ht; exact (World.ownsRow.lt HO4.out t ht).1))
      clear hown2 hgrow2 hat2 hlt3
      go_wp2_with fail
      go_roundg (m - (k + 1))
      case measure => go_light; omega
      case rel => exact ⟨k + 1, _, by omega, rfl, rfl, by go_num, HO6, hid HG6.out.1, hid HG6.out.2.1, hid HG6.out.2.2⟩
    · have e : k = m := by omega
      subst e
      obtain ⟨av, cv2, ev, hpv, _⟩ := HO.out.is
      subst ev
      obtain ⟨ar, cr, er, htr, _⟩ := HOR.out.is
      subst er
      have HPV := hid hpv
      have hlr : LRow wr ar n (fun i => some ⟨ra i, 0, none⟩) (fun _ => k + 1) rc (rightF F k n D) := fun hp => by
        obtain ⟨g, rfl, htb⟩ := htr hp
        exact htb.lists hp
      have HLR := hid hlr
      clear hpv htr hlr HS1 HOR1
      go_wp2_with (first
        | (go_at_call 20; refine (sprove_ok B o k cap bv ov cv F n N ad cd D _ hm1 hm (by omega) HNN.out HS.out.t HS.out.tb HV.out HS.out.d HDD.out).mono ?_; rintro e w4 ⟨b2, a2, rfl, hly, hrw⟩; have HLY := hid hly; have HRW := hid hrw; clear hly hrw)
        | (go_at_call 21; refine (same_ok _ _ n _ _ _ _ _ _ _ _ _ _ (by omega) HLY.out.tabs.lists (HLR.out.kept HLY.out.below) (fun i hi => by show k + 1 ≤ 100000; omega) (fun _ _ _ _ => rfl)).mono ?_; rintro e w5 ⟨rfl, hb⟩; have HB5 := hid hb; clear hb)
        | (go_at_call 14; refine (equal_ok _ _ k _ _ _ _ _ (by omega) ((PRow.of HRW.out).kept HB5.out) ((HPV.out.kept HLY.out.below).kept HB5.out) (fun _ _ => rfl)).mono ?_; rintro e w6 ⟨rfl, hb⟩; have HB6 := hid hb; clear hb))
      go_ret
      exact ⟨rfl, ((HS.out.next hN1 HLY.out.below).next hN1 HB5.out).next hN1 HB6.out |>.bel⟩

/-- What the row lists. -/
def laidT : List (String × DataW Unit) := [("math/bits.deBruijn32tab", Rows.laid_math_bits_deBruijn32tab), ("math/bits.deBruijn64tab", Rows.laid_math_bits_deBruijn64tab)]
theorem door_met (os : Os) (args : Array Value) : laidMetH Tryd.prog laidT ((World.laidAll Tryd.prog os laidT).forCall (fun _ _ => 0) ⟨#[], args, []⟩).memory := by
  rw [MakeChecks.laidMetH_plain _ _ _ (by kernel_rfl)]
  exact laidMet_laidAll _ (by kernel_rfl) (by kernel_rfl)
theorem tab_of_laid {W : World} (h : laidMetH Tryd.prog laidT W) : Tab W := by
  rw [MakeChecks.laidMetH_plain _ _ _ (by kernel_rfl)] at h
  obtain ⟨ps, hv, _⟩ := h
  exact tab_of_vars hv

set_option maxHeartbeats 4000000 in
set_option maxRecDepth 100000 in
theorem walk (a0 : Option Addr) (len0 cap0 : Nat) (A0 : Nat → Option Addr) (L0 C0 : Nat → Nat) (F0 : Nat → Nat → Int) (a1 : Option Addr) (len1 cap1 : Nat) (z1 : List Int) (w : World) (w0 : IsLists w a0 len0 cap0 A0 L0 C0 F0) (w1 : IsRow .u64 w a1 len1 cap1 z1) (ht : Tab w) :
    Calls Tryd.prog 5 #[.slice a0 len0 cap0, .slice a1 len1 cap1] w fun e w' => e = .returned (.bool true) ∧ Below w.heap.size w w' := by
  obtain ⟨hl, hmax, hF, _⟩ := w0
  obtain ⟨D, hd, hD⟩ := prow_of w1
  rcases facts_of len0 L0 with ⟨n, hm1, hm, hn, hL⟩ | hno
  · obtain ⟨B, o, rfl, htb⟩ := hl.tabs (N := 2 ^ n) (by omega) Nat.one_le_two_pow hL
    by_cases h4 : 4 < n
    · exact proves_big B o len0 cap0 _ _ _ F0 n (2 ^ n) a1 len1 cap1 w hm1 hm hn rfl htb h4
    · by_cases hne : len1 = n
      · subst hne
        exact proves_ok B o len0 cap0 _ _ _ F0 len1 (2 ^ len1) a1 cap1 D w hm1 hm (by omega) rfl ht htb (fun i hi => (hF i hi).1) hd (len_cap w1) hD
      · exact proves_arg B o len0 cap0 _ _ _ F0 n (2 ^ n) a1 len1 cap1 w hm1 hm (by omega) rfl ht htb hne
  · exact proves_no a0 a1 len0 cap0 len1 cap1 A0 L0 C0 F0 w ht ⟨hl, fun i hi => (hF i hi).2, hno⟩

set_option maxRecDepth 100000 in
theorem lifted (os : Os) (started : os.Started) (H : Type) (enc : TypeId × Value → H) :
    ReturnsInHanded {} Tryd.checked os 5 .any (fun w args => (Rows.sumProvesSpec.pre enc Tryd.prog Tryd.f5 [] false w args ∧ laidMetH Tryd.prog laidT w) ∧ sizedMet enc Tryd.prog Tryd.f5 (OpenSpec.ofChange Rows.sumProvesSpec) false w args) (Rows.sumProvesSpec.post enc Tryd.prog Tryd.f5 false true false false) := by
  refine wrap_and_shaped (C := Tryd.checked) (X := fun w _ => laidMetH Tryd.prog laidT w) (fun _ _ _ hh h => h.of_heap hh) own started (by kernel_rfl) Tryd.func5
    (ChangeSpec.witness_shaped (enc := enc) (C := Tryd.checked) (os := os) (X := fun w _ => laidMetH Tryd.prog laidT w) false (World.laidAll Tryd.prog os laidT) #[.slice none 0 0, .slice none 0 0] 8 (World.laidAll_os _ _ _) (World.shaped_of_ZipB (by kernel_rfl) (by kernel_rfl)) (by kernel_rfl) (by kernel_rfl) (by kernel_rfl) (door_met os _)) ?_
  intro W base args ds gs before hval0 hW _ _ hL hsh _
  have hval : ∀ (j : Nat) t v, Tryd.f5.params[j]? = some t → args[j]? = some v → Value.okWide Tryd.prog W .any base t v := hval0
  have hW' := hW
  obtain ⟨p, q, hA0, hV, rfl, hfz, hnd⟩ := hW
  have hA : DataW.TrodAll enc Tryd.prog W 0 (fun _ => true) true Tryd.f5.params.toList args.toList ds p := hA0
  rw [Tryd.params5] at hA hval
  obtain ⟨v0, vs0, d0, ds0, p0, q0, hargs, rfl, rfl, h0, r0⟩ := trodAll_cons hA
  obtain ⟨v1, vs1, d1, ds1, p1, q1, rfl, rfl, rfl, h1, r1⟩ := trodAll_cons r0
  obtain ⟨rfl, rfl, rfl⟩ := trodAll_nil r1
  obtain rfl : args = #[v0, v1] := by cases args; simp_all
  obtain ⟨rfl, rfl⟩ := trodVars_none hV
  obtain ⟨a0, len0, cap0, rfl⟩ := okWide_slice Tryd.underlying27 (hval 0 27 v0 rfl rfl)
  have k0 := h0
  have lt0 : ∀ x ∈ p0, x.block < W.heap.size := by obtain ⟨m, hm⟩ := k0; exact DataW.trod_lt m _ _ _ hm
  obtain ⟨A0, L0, C0, F0, w0⟩ : ∃ A L C F, IsLists W a0 len0 cap0 A L C F := by
    obtain ⟨fuel, hf⟩ := h0
    exact lists_of hf
  obtain ⟨a1, len1, cap1, rfl⟩ := okWide_slice Tryd.underlying22 (hval 1 22 v1 rfl rfl)
  have k1 := h1
  have lt1 : ∀ x ∈ p1, x.block < W.heap.size := by obtain ⟨m, hm⟩ := k1; exact DataW.trod_lt m _ _ _ hm
  obtain ⟨z1, w1⟩ : ∃ zs, IsRow .u64 W a1 len1 cap1 zs := by
    obtain ⟨fuel, hf⟩ := h1
    rcases open_ints Tryd.underlying22 Tryd.underlying23 (by kernel_rfl) hf with ⟨hcs, _⟩ | ⟨x, l, c, zs, hcs, _, hl, hm, hz, _, hcell, hwz⟩
    · simp [Value.cells] at hcs
      obtain ⟨rfl, rfl, rfl⟩ := hcs
      exact ⟨[], .inl ⟨rfl, rfl, rfl, rfl⟩⟩
    · simp [Value.cells] at hcs
      obtain ⟨rfl, rfl, rfl⟩ := hcs
      exact ⟨zs, .inr ⟨_, rfl, hl, hm, by simpa using hz, hcell, hwz⟩⟩
  clear hA0 hval0
  refine (walk a0 len0 cap0 A0 L0 C0 F0 a1 len1 cap1 z1 W w0 w1 (tab_of_laid hL)).mono fun e W' ⟨he, bel⟩ => ?_
  subst he
  exact ⟨_, rfl, _, _, _, [], _, [], hW', trodAll_mk1 (shut_bool Tryd.underlying4 _), (trodAll_cons_mk (Below.trod laidOut (by kernel_rfl) (of_decide_eq_true (by kernel_rfl)) k0 bel lt0) (trodAll_cons_mk (Below.trod laidOut (by kernel_rfl) (of_decide_eq_true (by kernel_rfl)) k1 bel lt1) trodAll_mk0)), rfl, bel.frame _, fun h => by cases h⟩

theorem over : Rows.sumProvesRow.holds Tryd.pinned (OpenSpec.ofChange Rows.sumProvesSpec) :=
  OpenClaim.holds_of_wide 5 Tryd.f5 rfl rfl rfl rfl rfl rfl rfl ⟨rfl, rfl, rfl, rfl, rfl⟩ rfl rfl rfl rfl rfl (by kernel_rfl) Tryd.func5 (by kernel_rfl)
    (of_decide_eq_true (by kernel_rfl)) (by unfold Func.isWrapper; first | (rw [if_pos (by decide +kernel)]; kernel_rfl) | (rw [if_neg (by decide +kernel)]; exact ⟨rfl, rfl⟩))
    (fun os started H enc _ => lifted os started H enc)

/-- ████ THE STATEMENT ████ -/
theorem proved : Rows.SumProvesSaid := over
end Go.Proofs.YtoogpkcpheannaaDoor.sumProves

namespace Go.Proofs.YtoogpkcpheannaaDoor
/-- The given statement: the row's, tied to the program's text. -/
theorem sumProves_holds : Rows.SumProvesCardSaid :=
  Claim7.holds_tied_plain_at .later [] [.data, .data] true (true, "287f21f75c4a23ec8e66bf8296e90ad98cae14138d756f3ed6db4f2d476e5d45") false
    sumProves.proved (fun _ h => by cases h) (by kernel_rfl) (fun _ h => by cases h) sumProves_row_tie rfl ⟨rfl, rfl⟩ (by kernel_rfl) rfl
    (fun f fn hf hfn => by
      obtain rfl : f = 5 := Option.some.inj ((show Tryd.prog.funcNamed "tallystick/tallylaw.SumProves" = some 5 by kernel_rfl).symm.trans hf) |>.symm
      obtain rfl : fn = Tryd.f5 := (Option.some.inj (Tryd.func5.symm.trans hfn)).symm
      exact ⟨by kernel_rfl, fun j t ht => by
        rw [Tryd.params5] at ht
        have hm : t ∈ [27, 22] := by simpa using Array.mem_of_getElem? ht
        have hall : ([27, 22].all fun u => !Tryd.prog.wantsStandIn u) = true := by kernel_rfl
        exact (show Tryd.prog.wantsStandIn t = false by simpa using List.all_eq_true.1 hall t hm)⟩)
    (by kernel_rfl)
end Go.Proofs.YtoogpkcpheannaaDoor
