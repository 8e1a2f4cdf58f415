/-
  Whatever list of lists, whatever list of draws and whatever integers are handed in, the law SumBent answers true and writes nothing that was there: one value of a right proof bent at 0 or 1 alone is told at once; no condition; tied to the program's text: Go's two tables deBruijn32tab and deBruijn64tab hold what math/bits lays.
-/
import Derived.Test.YtoogpkcpheannaeDoorRows
import Derived.Test.YtoogpkcpheannaeDoorListsOpen
import Derived.Test.YtoogpkcpheannaeDoorCards
import Derived.Test.YtoogpkcpheannaeDoorTie
import Derived.Test.YtoogpkcpheannaeDoorWrap
import Derived.Test.YtoogpkcpheannaeDoorLaid
import Derived.SevenTiedAt
import Derived.WalkKit
import Derived.Test.YtoogpkcpheannaeDoorSumK
import Derived.Test.YtoogpkcpheannaeDoorKeepL
import Derived.Test.YtoogpkcpheannaeDoorRefVars
import Derived.StillTailTactics
import Derived.ProofKit
import Derived.OpenShut
import Derived.ShutString
import Derived.ChangeOld
import Derived.Below
namespace Go.Proofs.YtoogpkcpheannaeDoor.sumBent
open Go.ChangeShapes Go.WideShapes Go.ChangeAt Go.RowKit
open Go.ChangeMaps (open_string shut_string)
set_option linter.unusedVariables false

theorem own : ownKnob Tryd.prog.godebug = none := by kernel_rfl
theorem laidOut : laidOutB Tryd.prog = true := by kernel_rfl

/-- WHAT THE WALK IS TOLD OF A SLICE OF INTEGERS THAT CAME IN: it is nil; or it leads to a row of 'cap' cells, the numbers 'zs' (the first 'len' are its elements, the rest its spare room), each fitting its kind. -/
def IsRow (k : IntKind) (w : World) (a : Option Addr) (len cap : Nat) (zs : List Int) : Prop :=
  (a = none ∧ len = 0 ∧ cap = 0 ∧ zs = []) ∨
  ∃ x, a = some x ∧ len ≤ cap ∧ cap ≤ maxLen ∧ zs.length = cap ∧ (∀ i, i < zs.length → w.cell? (x.add i) = some (.int k (zs.getD i 0))) ∧ ∀ n ∈ zs, (Lit.int k n).wf = true

attribute [local go_sem ↓] Go.wp_at_zero Go.wp_at_succ
theorem row_of {w : World} {a : Option Addr} {len cap : Nat} {zs : List Int} (h : IsRow .u64 w a len cap zs) (hl : 0 < len) :
    ∃ b off f, a = some ⟨b, off, none⟩ ∧ Row w b off len f ∧ Nums f := by
  rcases h with ⟨_, rfl, _⟩ | ⟨x, rfl, hc, _, hz, hcell, hwf⟩
  · omega
  · obtain ⟨b, off, rfl, hcs⟩ := ints_at hcell (by omega)
    exact ⟨b, off, fun j => zs.getD j 0, rfl, fun j hj => hcs j (by omega), nums_of_wf hwf⟩
theorem Nums_zero : Nums (fun _ => 0) := fun _ => by dsimp only; omega
theorem prow_of {w : World} {a : Option Addr} {len cap : Nat} {zs : List Int} (h : IsRow .u64 w a len cap zs) : ∃ g, PRow w a len g ∧ Nums g := by
  by_cases hl : 0 < len
  · obtain ⟨b, off, f, e, hr, hv⟩ := row_of h hl
    exact ⟨f, fun _ => ⟨b, off, e, hr⟩, hv⟩
  · exact ⟨fun _ => 0, fun h => absurd h hl, Nums_zero⟩
theorem len_max {w : World} {a : Option Addr} {len cap : Nat} {zs : List Int} (h : IsRow .u64 w a len cap zs) : len ≤ maxLen := by
  rcases h with ⟨_, rfl, _⟩ | ⟨_, _, h1, h2, _⟩
  · exact Nat.zero_le _
  · exact Nat.le_trans h1 h2
theorem i64_rng {a : Int} (h : (Lit.int .i64 a).wf = true) : -9223372036854775808 ≤ a ∧ a ≤ 9223372036854775807 := by
  simp [Lit.wf, IntKind.min, IntKind.max, IntKind.signed, IntKind.bits] at h
  omega
/-- What holds of the world all along. -/
structure St (w W : World) (B m : Nat) (a c : Nat → Nat) (N : Nat) (G : Nat → Nat → Int) (bd n : Nat) (D : Nat → Int) : Prop where
  bel : Below w.heap.size w W
  t : Tab W
  tb : Tabs W B 0 m a (fun _ => 0) c N G
  d : PRow W (some ⟨bd, 0, none⟩) n D
theorem St.next {w W W' : World} {B m : Nat} {a c : Nat → Nat} {N : Nat} {G : Nat → Nat → Int} {bd n : Nat} {D : Nat → Int} (h : St w W B m a c N G bd n D) (hN : 0 < N) (hb : Below W.heap.size W W') : St w W' B m a c N G bd n D :=
  ⟨h.bel.trans (hb.mono h.bel.size), h.t.kept hb h.t.1, h.tb.kept hb hN, h.d.kept hb⟩
theorem mixed : Tryd.prog.follows .mixedOrders = true := by kernel_rfl
/-- One value of one of the lists that were made is turned. -/
theorem bent_lists {w w' : World} {n N : Nat} {a : Nat → Nat} {R : Nat → Nat → Int} (h : Lays w w' n n N a R) (q s : Nat) (hq : q < n) (hs : s < N) (y : Int) :
    LRow (w'.setCell ⟨a q, s, none⟩ (.int .u64 y)) (some ⟨w.heap.size, 0, none⟩) n (fun i => some ⟨a i, 0, none⟩) (fun _ => N) (fun _ => N) (bentF R q s y) ∧ Below w.heap.size w (w'.setCell ⟨a q, s, none⟩ (.int .u64 y)) := by
  have hW : Wrote (a q) s 1 w' (w'.setCell ⟨a q, s, none⟩ (.int .u64 y)) := (Wrote.refl _ _ _ _).store (Nat.le_refl _) (by omega) _
  have hhi := h.high q hq
  refine ⟨fun _ => ⟨_, _, rfl, fun i hi => ⟨?_, PRow.of ?_⟩⟩, h.below.setCell (Nat.le_of_lt hhi.1) _⟩
  · rw [Nat.zero_add]
    exact (World.cell?_of_block (w := w') (hW.block w.heap.size (Nat.ne_of_lt hhi.1))).trans (h.cell i hi)
  · by_cases e : i = q
    · subst e
      have hst := (h.row i hi).store s y hs
      rw [Nat.zero_add] at hst
      refine hst.congr fun j hj => ?_
      unfold bentF
      by_cases e2 : j = s
      · rw [if_pos e2, if_pos ⟨rfl, e2⟩]
      · rw [if_neg e2, if_neg (by omega)]
    · have hne : a i ≠ a q := by
        by_cases e2 : i < q
        · exact h.apart i q e2 hq
        · exact fun e3 => h.apart q i (by omega) hi e3.symm
      refine ((h.row i hi).other hW hne).congr fun j hj => ?_
      unfold bentF
      rw [if_neg (by omega)]

/-- What the row lists. -/
def laidT : List (String × DataW Unit) := [("math/bits.deBruijn32tab", Rows.laid_math_bits_deBruijn32tab), ("math/bits.deBruijn64tab", Rows.laid_math_bits_deBruijn64tab)]
theorem door_met (os : Os) (args : Array Value) : laidMetH Tryd.prog laidT ((World.laidAll Tryd.prog os laidT).forCall (fun _ _ => 0) ⟨#[], args, []⟩).memory := by
  rw [MakeChecks.laidMetH_plain _ _ _ (by kernel_rfl)]
  exact laidMet_laidAll _ (by kernel_rfl) (by kernel_rfl)
theorem tab_of_laid {W : World} (h : laidMetH Tryd.prog laidT W) : Tab W := by
  rw [MakeChecks.laidMetH_plain _ _ _ (by kernel_rfl)] at h
  obtain ⟨ps, hv, _⟩ := h
  exact tab_of_vars hv

set_option maxHeartbeats 4000000 in
set_option maxRecDepth 100000 in
theorem walk (a0 : Option Addr) (len0 cap0 : Nat) (A0 : Nat → Option Addr) (L0 C0 : Nat → Nat) (F0 : Nat → Nat → Int) (a1 : Int) (a2 : Option Addr) (len2 cap2 : Nat) (z2 : List Int) (a3 : Int) (a4 : Int) (w : World) (w0 : IsLists w a0 len0 cap0 A0 L0 C0 F0) (w1 : (Lit.int .i64 a1).wf = true) (w2 : IsRow .u64 w a2 len2 cap2 z2) (w3 : (Lit.int .i64 a3).wf = true) (w4 : (Lit.int .u64 a4).wf = true) (ht : Tab w) :
    Calls Tryd.prog 4 #[.slice a0 len0 cap0, .int .i64 a1, .slice a2 len2 cap2, .int .i64 a3, .int .u64 a4] w fun e w' => e = .returned (.bool true) ∧ Below w.heap.size w w' := by
  obtain ⟨hl, hmax, hF, hcap⟩ := w0
  obtain ⟨k0, k1⟩ := i64_rng w1
  obtain ⟨i0, i1⟩ := i64_rng w3
  obtain ⟨b0, b1⟩ := u64_of_wf w4
  obtain ⟨D0, hd0, hD0⟩ := prow_of w2
  obtain ⟨r, hr⟩ : ∃ r : Nat, a1 % 5 = (r : Int) := ⟨(a1 % 5).toNat, by omega⟩
  have hr4 : r ≤ 4 := by omega
  obtain ⟨N, hN⟩ : ∃ N, N = 2 ^ r := ⟨_, rfl⟩
  have hN1 : 1 ≤ N := by rw [hN]; exact Nat.one_le_two_pow
  have HN := hid hN
  have HL := hid hl
  have HF := hid (fun i (hi : i < len0) => (hF i hi).1)
  have HR := hid hr
  have HD0 := hid hd0
  have HT := hid ht
  obtain ⟨D, hDe⟩ : ∃ D, padF len2 D0 = D := ⟨_, rfl⟩
  have HDD : Hid (Nums D) := hid (by rw [← hDe]; exact Nums_pad hD0 _)
  have HDE := hid hDe
  clear hl hmax hF hr hN hd0 hD0 ht hDe w1 w2 w3 w4
  go_enter Tryd.func4, Tryd.ntmps4
  go_wp2_with (go_at_call 8; refine (two_ok _ HT.out).mono ?_; rintro e wa ⟨rfl, hb⟩; have HBA := hid hb; clear hb)
  refine (facts_any a0 len0 cap0 A0 L0 C0 F0 a1 r N wa hcap k0 k1 HR.out HN.out (HL.out.kept HBA.out) HF.out).mono ?_
  rintro e wb ⟨B, m, cc, a, c, G, rfl, hm1, hm3, htb, hG, hb⟩
  have HBB := hid (HBA.out.trans (hb.mono HBA.out.size))
  have HTB := hid htb
  have HG := hid hG
  have c0 := htb.cell 0 (by omega)
  have HD1 := hid ((HD0.out.kept HBA.out).kept hb)
  rw [Nat.zero_add] at c0
  clear hb htb hG HD0 HBA
  have m0 : (0 : Int) < (m : Int) := by omega
  go_wp2_with (first
    | (go_at_call 10; refine (rvars_ok _ r N _ _ (by omega) HN.out).mono ?_; rintro e w' ⟨rfl, hw⟩; obtain rfl := hw.symm)
    | (go_at_call 11; refine (point_any _ len2 _ r D0 _ (by omega) HD1.out).mono ?_; rintro e wc ⟨rfl, hmd⟩; have HMD := hid hmd; clear hmd))
  have HS0 : Hid (St w wc B m a c N G wb.heap.size r D) := hid ⟨HBB.out.trans (HMD.out.below.mono HBB.out.size), (HT.out.kept HBB.out HT.out.1).kept HMD.out.below (HT.out.kept HBB.out HT.out.1).1, HTB.out.kept HMD.out.below hN1, by rw [← HDE.out]; exact PRow.of HMD.out.row⟩
  clear HBB HTB HMD c0 HD1
  obtain ⟨y, hy⟩ : ∃ y, ofK (claimK (kF G) m N) = y := ⟨_, rfl⟩
  have hcl := sclaim_ok B 0 m cc a (fun _ => 0) c G r N wc hm1 hm3 (by omega) HN.out HS0.out.t HS0.out.tb HG.out
  rw [hy] at hcl
  have HCL := hid hcl
  have yr := ofK_rng (claimK (kF G) m N)
  rw [hy] at yr
  obtain ⟨y0, y1⟩ := yr
  have HY := hid hy
  clear hcl hy
  go_wp2_with (go_at_call 13; refine (HCL.out).mono ?_; rintro e w' ⟨rfl, hw⟩; obtain rfl := hw.symm)
  refine (sprove_ok B 0 m cc a (fun _ => 0) c G r N (some ⟨wb.heap.size, 0, none⟩) r D wc hm1 hm3 (by omega) HN.out HS0.out.t HS0.out.tb HG.out HS0.out.d HDD.out).mono ?_
  rintro e wd ⟨b2, a2, rfl, hly, hrw⟩
  have HLY := hid hly
  have HS1 := hid (HS0.out.next hN1 hly.below)
  clear hly hrw HCL
  by_cases hr0 : r = 0
  · subst hr0
    go_wp2_with fail
    go_ret
    exact ⟨rfl, HS1.out.bel⟩
  · have r0 : ((r : Int) == 0) = false := beq_eq_false_iff_ne.2 (by omega)
    by_cases hb0 : nrm a4 = 0
    · have hn0 := norm_any a4 wd b0 b1
      rw [hb0] at hn0
      have HN0 := hid hn0
      clear hn0
      go_wp2_with (go_at_call 14; refine (HN0.out).mono ?_; rintro e w' ⟨rfl, hw⟩; obtain rfl := hw.symm)
      go_ret
      exact ⟨rfl, HS1.out.bel⟩
    · have hb1 : (nrm a4 == 0) = false := beq_eq_false_iff_ne.2 hb0
      have HKB : Hid (kk a4 ≠ 0) := hid (fun e => hb0 (by rw [nrm_ofK, e]; rfl))
      clear hb0
      obtain ⟨t, ht⟩ : ∃ t : Nat, a3 % (2 * (r : Int)) = (t : Int) := ⟨(a3 % (2 * (r : Int))).toNat, by have := Int.emod_nonneg a3 (b := (2 * (r : Int))) (by omega); omega⟩
      have htl : t < 2 * r := by have := Int.emod_lt_of_pos a3 (b := (2 * (r : Int))) (by omega); omega
      obtain ⟨q, hq⟩ : ∃ q, t / 2 = q := ⟨_, rfl⟩
      obtain ⟨s, hs⟩ : ∃ s, t % 2 = s := ⟨_, rfl⟩
      have hqr : q < r := by omega
      have hs2 : s < 2 := by omega
      have hre := rest_any a3 (2 * (r : Int)) wd i0 i1 (by omega) (by omega)
      rw [ht] at hre
      have HRE := hid hre
      have d1 : ((t : Int)).tdiv 2 = (q : Int) := by rw [Int.tdiv_eq_ediv_of_nonneg (by omega)]; omega
      have d2 : ((t : Int)).tmod 2 = (s : Int) := by rw [Int.tmod_eq_emod_of_nonneg (by omega)]; omega
      have HQ2 := hid hq
      have HS2 := hid hs
      have D1 := hid d1
      have D2 := hid d2
      clear hq hs d1 d2
      have wm : wrap64 (2 * (r : Int)) = (2 * (r : Int)) := IntWalk.wrap64_in _ (by omega)
      have wm2 : IntKind.i64.wrap (2 * (r : Int)) = (2 * (r : Int)) := IntWalk.i64_in _ (by omega)
      clear ht hre
      have c1 := HLY.out.cell q hqr
      have c2 := HLY.out.row q hqr s (by omega)
      have f2 := HLY.out.may q hqr s (by omega)
      rw [Nat.zero_add] at c2 f2
      obtain ⟨v, hv⟩ : ∃ v, rightF G m r D q s = v := ⟨_, rfl⟩
      have vr := ofK_rng (rightK (kF G) m r (fun j => kk (D j)) q (kn s))
      have hv2 : ofK (rightK (kF G) m r (fun j => kk (D j)) q (kn s)) = v := hv
      rw [hv2] at vr
      rw [hv] at c2
      obtain ⟨v0, v1⟩ := vr
      have HV := hid hv
      clear hv hv2
      have q0 : (0 : Int) ≤ (q : Int) := by omega
      have q1 : (q : Int) < (r : Int) := by omega
      have s0 : (0 : Int) ≤ (s : Int) := by omega
      have s1 : (s : Int) < (m : Int) + 1 := by omega
      have s3 : (s : Int) < ((m + 1 : Nat) : Int) := by omega
      have s4 : s < m + 1 := by omega
      go_wp2_with (first | (go_at_call 14; refine (norm_any _ _ (by omega) (by omega)).mono ?_; rintro e w' ⟨rfl, hw⟩; obtain rfl := hw.symm) | (go_at_call 19; refine (HRE.out).mono ?_; rintro e w' ⟨rfl, hw⟩; obtain rfl := hw.symm))
      have hbl := bent_lists HLY.out q s hqr (by omega) (addQ v a4)
      have HBL := hid hbl
      have HSB := hid (HS0.out.next hN1 hbl.2)
      have hbn := bent_no G m r N D HN.out (by omega) q s hqr hs2 a4 HKB.out
      have hbf := fun k hk => bent_fit G m r N D HN.out (by omega) q s hqr (addQ v a4) k hk
      rw [HV.out, HY.out] at hbn
      rw [HY.out] at hbf
      have HBN := hid hbn
      have HBF := hid hbf
      have HNB : Hid (∀ i, i < r → Nums (bentF (rightF G m r D) q s (addQ v a4) i)) := hid (fun i _ j => by
        unfold bentF
        split
        · have := addQ_rng v a4; omega
        · exact Nums_right G m r D i j)
      clear hbl hbn hbf HS1 HLY HS0 HKB
      have c1' : ({ wd with drawn := wd.drawn + 1 } : World).cell? ⟨wc.heap.size, q, none⟩ = some (.slice (some ⟨a2 q, 0, none⟩) (m + 1) (m + 1)) := c1
      have c2' : ({ wd with drawn := wd.drawn + 1 } : World).cell? ⟨a2 q, s, none⟩ = some (.int .u64 v) := c2
      have f2' : ({ wd with drawn := wd.drawn + 1 } : World).frozen? ⟨a2 q, s, none⟩ = false := f2
      have d1 := D1.out
      have d2 := D2.out
      have wq : IntKind.i64.wrap (q : Int) = (q : Int) := IntWalk.i64_in _ (by omega)
      have wsx : IntKind.i64.wrap (s : Int) = (s : Int) := IntWalk.i64_in _ (by omega)
      refine wp_region_still_tail 19 mixed (by kernel_rfl) ?_
      simp only [List.take_succ_cons, List.take_zero, List.drop_succ_cons, List.drop_zero]
      iterate 17 still_step
      still_call (add_any v a4 _ (by omega) (by omega) (by omega) (by omega))
      still_step
      refine wpStill_nil ?_
      go_wp2_with fail
      refine (verify_bad (some ⟨wc.heap.size, 0, none⟩) (some ⟨wb.heap.size, 0, none⟩) r r r (m + 1) (fun i => some ⟨a2 i, 0, none⟩) (fun _ => m + 1) (fun _ => m + 1) (bentF (rightF G m r D) q s (addQ v a4)) D y _ (by omega) (by omega) (by omega) y0 (by omega) (by exact HBL.out.1) (fun _ _ => rfl) HNB.out (by exact HSB.out.d) HDD.out q hqr HBF.out HBN.out).mono ?_
      rintro e wz ⟨rfl, hb⟩
      have HBZ := hid hb
      clear hb
      go_wp2_with fail
      go_ret
      refine ⟨rfl, ?_⟩
      exact Below.trans (b := wd.setCell ⟨a2 q, s, none⟩ (.int .u64 (addQ v a4))) HSB.out.bel ⟨HBZ.out.os, HBZ.out.tape, HBZ.out.output, HBZ.out.size, fun k hk => HBZ.out.block k (Nat.lt_of_lt_of_le hk HSB.out.bel.size)⟩

set_option maxRecDepth 100000 in
theorem lifted (os : Os) (started : os.Started) (H : Type) (enc : TypeId × Value → H) :
    ReturnsInHanded {} Tryd.checked os 4 .any (fun w args => (Rows.sumBentSpec.pre enc Tryd.prog Tryd.f4 [] false w args ∧ laidMetH Tryd.prog laidT w) ∧ sizedMet enc Tryd.prog Tryd.f4 (OpenSpec.ofChange Rows.sumBentSpec) false w args) (Rows.sumBentSpec.post enc Tryd.prog Tryd.f4 false true false false) := by
  refine wrap_and_shaped (C := Tryd.checked) (X := fun w _ => laidMetH Tryd.prog laidT w) (fun _ _ _ hh h => h.of_heap hh) own started (by kernel_rfl) Tryd.func4
    (ChangeSpec.witness_shaped (enc := enc) (C := Tryd.checked) (os := os) (X := fun w _ => laidMetH Tryd.prog laidT w) false (World.laidAll Tryd.prog os laidT) #[.slice none 0 0, .int .i64 0, .slice none 0 0, .int .i64 0, .int .u64 0] 8 (World.laidAll_os _ _ _) (World.shaped_of_ZipB (by kernel_rfl) (by kernel_rfl)) (by kernel_rfl) (by kernel_rfl) (by kernel_rfl) (door_met os _)) ?_
  intro W base args ds gs before hval0 hW _ _ hL hsh _
  have hval : ∀ (j : Nat) t v, Tryd.f4.params[j]? = some t → args[j]? = some v → Value.okWide Tryd.prog W .any base t v := hval0
  have hW' := hW
  obtain ⟨p, q, hA0, hV, rfl, hfz, hnd⟩ := hW
  have hA : DataW.TrodAll enc Tryd.prog W 0 (fun _ => true) true Tryd.f4.params.toList args.toList ds p := hA0
  rw [Tryd.params4] at hA hval
  obtain ⟨v0, vs0, d0, ds0, p0, q0, hargs, rfl, rfl, h0, r0⟩ := trodAll_cons hA
  obtain ⟨v1, vs1, d1, ds1, p1, q1, rfl, rfl, rfl, h1, r1⟩ := trodAll_cons r0
  obtain ⟨v2, vs2, d2, ds2, p2, q2, rfl, rfl, rfl, h2, r2⟩ := trodAll_cons r1
  obtain ⟨v3, vs3, d3, ds3, p3, q3, rfl, rfl, rfl, h3, r3⟩ := trodAll_cons r2
  obtain ⟨v4, vs4, d4, ds4, p4, q4, rfl, rfl, rfl, h4, r4⟩ := trodAll_cons r3
  obtain ⟨rfl, rfl, rfl⟩ := trodAll_nil r4
  obtain rfl : args = #[v0, v1, v2, v3, v4] := by cases args; simp_all
  obtain ⟨rfl, rfl⟩ := trodVars_none hV
  obtain ⟨a0, len0, cap0, rfl⟩ := okWide_slice Tryd.underlying22 (hval 0 22 v0 rfl rfl)
  have k0 := h0
  have lt0 : ∀ x ∈ p0, x.block < W.heap.size := by obtain ⟨m, hm⟩ := k0; exact DataW.trod_lt m _ _ _ hm
  obtain ⟨A0, L0, C0, F0, w0⟩ : ∃ A L C F, IsLists W a0 len0 cap0 A L C F := by
    obtain ⟨fuel, hf⟩ := h0
    exact lists_of hf
  obtain ⟨a1, rfl, rfl, rfl, w1⟩ := open_int Tryd.underlying3 (hval 1 3 v1 rfl rfl) h1
  obtain ⟨a2, len2, cap2, rfl⟩ := okWide_slice Tryd.underlying24 (hval 2 24 v2 rfl rfl)
  have k2 := h2
  have lt2 : ∀ x ∈ p2, x.block < W.heap.size := by obtain ⟨m, hm⟩ := k2; exact DataW.trod_lt m _ _ _ hm
  obtain ⟨z2, w2⟩ : ∃ zs, IsRow .u64 W a2 len2 cap2 zs := by
    obtain ⟨fuel, hf⟩ := h2
    rcases open_ints Tryd.underlying24 Tryd.underlying23 (by kernel_rfl) hf with ⟨hcs, _⟩ | ⟨x, l, c, zs, hcs, _, hl, hm, hz, _, hcell, hwz⟩
    · simp [Value.cells] at hcs
      obtain ⟨rfl, rfl, rfl⟩ := hcs
      exact ⟨[], .inl ⟨rfl, rfl, rfl, rfl⟩⟩
    · simp [Value.cells] at hcs
      obtain ⟨rfl, rfl, rfl⟩ := hcs
      exact ⟨zs, .inr ⟨_, rfl, hl, hm, by simpa using hz, hcell, hwz⟩⟩
  obtain ⟨a3, rfl, rfl, rfl, w3⟩ := open_int Tryd.underlying3 (hval 3 3 v3 rfl rfl) h3
  obtain ⟨a4, rfl, rfl, rfl, w4⟩ := open_int Tryd.underlying23 (hval 4 23 v4 rfl rfl) h4
  clear hA0 hval0
  refine (walk a0 len0 cap0 A0 L0 C0 F0 a1 a2 len2 cap2 z2 a3 a4 W w0 w1 w2 w3 w4 (tab_of_laid hL)).mono fun e W' ⟨he, bel⟩ => ?_
  subst he
  exact ⟨_, rfl, _, _, _, [], _, [], hW', trodAll_mk1 (shut_bool Tryd.underlying4 _), (trodAll_cons_mk (Below.trod laidOut (by kernel_rfl) (of_decide_eq_true (by kernel_rfl)) k0 bel lt0) (trodAll_cons_mk (shut_int Tryd.underlying3 w1) (trodAll_cons_mk (Below.trod laidOut (by kernel_rfl) (of_decide_eq_true (by kernel_rfl)) k2 bel lt2) (trodAll_cons_mk (shut_int Tryd.underlying3 w3) (trodAll_cons_mk (shut_int Tryd.underlying23 w4) trodAll_mk0))))), rfl, bel.frame _, fun h => by cases h⟩

theorem over : Rows.sumBentRow.holds Tryd.pinned (OpenSpec.ofChange Rows.sumBentSpec) :=
  OpenClaim.holds_of_wide 4 Tryd.f4 rfl rfl rfl rfl rfl rfl rfl ⟨rfl, rfl, rfl, rfl, rfl⟩ rfl rfl rfl rfl rfl (by kernel_rfl) Tryd.func4 (by kernel_rfl)
    (of_decide_eq_true (by kernel_rfl)) (by unfold Func.isWrapper; first | (rw [if_pos (by decide +kernel)]; kernel_rfl) | (rw [if_neg (by decide +kernel)]; exact ⟨rfl, rfl⟩))
    (fun os started H enc _ => lifted os started H enc)

/-- ████ THE STATEMENT ████ -/
theorem proved : Rows.SumBentSaid := over
end Go.Proofs.YtoogpkcpheannaeDoor.sumBent

namespace Go.Proofs.YtoogpkcpheannaeDoor
/-- The given statement: the row's, tied to the program's text. -/
theorem sumBent_holds : Rows.SumBentCardSaid :=
  Claim7.holds_tied_plain_at .later [] [.data, .data] true (true, "5307253d5b4ba94227bd18854644839d7585df36979264a21f446bd20fd14c80") false
    sumBent.proved (fun _ h => by cases h) (by kernel_rfl) (fun _ h => by cases h) sumBent_row_tie rfl ⟨rfl, rfl⟩ (by kernel_rfl) rfl
    (fun f fn hf hfn => by
      obtain rfl : f = 4 := Option.some.inj ((show Tryd.prog.funcNamed "tallystick/tallykeep.SumBent" = some 4 by kernel_rfl).symm.trans hf) |>.symm
      obtain rfl : fn = Tryd.f4 := (Option.some.inj (Tryd.func4.symm.trans hfn)).symm
      exact ⟨by kernel_rfl, fun j t ht => by
        rw [Tryd.params4] at ht
        have hm : t ∈ [22, 3, 24, 3, 23] := by simpa using Array.mem_of_getElem? ht
        have hall : ([22, 3, 24, 3, 23].all fun u => !Tryd.prog.wantsStandIn u) = true := by kernel_rfl
        exact (show Tryd.prog.wantsStandIn t = false by simpa using List.all_eq_true.1 hall t hm)⟩)
    (by kernel_rfl)
end Go.Proofs.YtoogpkcpheannaeDoor
