/-
  Whatever lists of numbers of 64 bits and whatever integers are handed in, the law MleEqs answers true and writes nothing that was there: all numbers of Eq are 1 together; a table's value is the sum of its numbers times those of Eq; Eq of the corner 1, 0 is 1 there alone; no condition; tied to the program's text: Go's two tables deBruijn32tab and deBruijn64tab hold what math/bits lays.
-/
import Derived.Test.YtoogpkcpheannadDoorRows
import Derived.Test.YtoogpkcpheannadDoorCards
import Derived.Test.YtoogpkcpheannadDoorTie
import Derived.Test.YtoogpkcpheannadDoorWrap
import Derived.Test.YtoogpkcpheannadDoorLaid
import Derived.SevenTiedAt
import Derived.WalkKit
import Derived.Test.YtoogpkcpheannadDoorMleEv
import Derived.Test.YtoogpkcpheannadDoorMleEqC
import Derived.Test.YtoogpkcpheannadDoorKeep
import Derived.Test.YtoogpkcpheannadDoorRefVars
import Derived.Test.YtoogpkcpheannadDoorEqual
import Derived.ProofKit
import Derived.OpenShut
import Derived.ShutString
import Derived.ChangeOld
import Derived.Below
namespace Go.Proofs.YtoogpkcpheannadDoor.mleEqs
open Go.ChangeShapes Go.WideShapes Go.ChangeAt Go.RowKit
open Go.ChangeMaps (open_string shut_string)
set_option linter.unusedVariables false

theorem own : ownKnob Tryd.prog.godebug = none := by kernel_rfl
theorem laidOut : laidOutB Tryd.prog = true := by kernel_rfl

/-- WHAT THE WALK IS TOLD OF A SLICE OF INTEGERS THAT CAME IN: it is nil; or it leads to a row of 'cap' cells, the numbers 'zs' (the first 'len' are its elements, the rest its spare room), each fitting its kind. -/
def IsRow (k : IntKind) (w : World) (a : Option Addr) (len cap : Nat) (zs : List Int) : Prop :=
  (a = none ∧ len = 0 ∧ cap = 0 ∧ zs = []) ∨
  ∃ x, a = some x ∧ len ≤ cap ∧ cap ≤ maxLen ∧ zs.length = cap ∧ (∀ i, i < zs.length → w.cell? (x.add i) = some (.int k (zs.getD i 0))) ∧ ∀ n ∈ zs, (Lit.int k n).wf = true

attribute [local go_sem ↓] Go.wp_at_zero Go.wp_at_succ
theorem u64_rng {a : Int} (h : (Lit.int .u64 a).wf = true) : 0 ≤ a ∧ a ≤ 18446744073709551615 := by
  simp [Lit.wf, IntKind.min, IntKind.max, IntKind.signed, IntKind.bits] at h
  omega
theorem row_of {w : World} {a : Option Addr} {len cap : Nat} {zs : List Int} (h : IsRow .u64 w a len cap zs) (hl : 0 < len) :
    ∃ b off f, a = some ⟨b, off, none⟩ ∧ Row w b off len f ∧ Nums f := by
  rcases h with ⟨_, rfl, _⟩ | ⟨x, rfl, hc, _, hz, hcell, hwf⟩
  · omega
  · obtain ⟨b, off, rfl, hcs⟩ := ints_at hcell (by omega)
    refine ⟨b, off, fun j => zs.getD j 0, rfl, fun j hj => hcs j (by omega), fun j => ?_⟩
    dsimp only
    by_cases hj : j < zs.length
    · have : zs.getD j 0 = zs[j] := by simp [List.getD, hj]
      rw [this]
      exact u64_rng (hwf _ (List.getElem_mem hj))
    · have : zs.getD j 0 = 0 := by simp [List.getD, hj]
      rw [this]; omega

theorem Nums_zero : Nums (fun _ => 0) := fun _ => by dsimp only; omega
theorem prow_of {w : World} {a : Option Addr} {len cap : Nat} {zs : List Int} (h : IsRow .u64 w a len cap zs) : ∃ g, PRow w a len g ∧ Nums g := by
  by_cases hl : 0 < len
  · obtain ⟨b, off, f, e, hr, hv⟩ := row_of h hl
    exact ⟨f, fun _ => ⟨b, off, e, hr⟩, hv⟩
  · exact ⟨fun _ => 0, fun h => absurd h hl, Nums_zero⟩
theorem len_max {w : World} {a : Option Addr} {len cap : Nat} {zs : List Int} (h : IsRow .u64 w a len cap zs) : len ≤ maxLen := by
  rcases h with ⟨_, rfl, _⟩ | ⟨_, _, h1, h2, _⟩
  · exact Nat.zero_le _
  · exact Nat.le_trans h1 h2
theorem i64_rng {a : Int} (h : (Lit.int .i64 a).wf = true) : -9223372036854775808 ≤ a ∧ a ≤ 9223372036854775807 := by
  simp [Lit.wf, IntKind.min, IntKind.max, IntKind.signed, IntKind.bits] at h
  omega
/-- What holds of the world all along. -/
structure St (w W : World) (ao : Option Addr) (la : Nat) (f : Nat → Int) (ap : Option Addr) (lp : Nat) (g : Nat → Int) : Prop where
  bel : Below w.heap.size w W
  t : Tab W
  pa : PRow W ao la f
  pp : PRow W ap lp g
theorem St.next {w W W' : World} {ao ap : Option Addr} {la lp : Nat} {f g : Nat → Int} (h : St w W ao la f ap lp g) (hb : Below W.heap.size W W') : St w W' ao la f ap lp g :=
  ⟨h.bel.trans (hb.mono h.bel.size), h.t.kept hb h.t.1, h.pa.kept hb, h.pp.kept hb⟩
theorem St.drew {w W : World} {ao ap : Option Addr} {la lp : Nat} {f g : Nat → Int} (h : St w W ao la f ap lp g) : St w W.drew ao la f ap lp g := ⟨h.bel.drew, h.t.drew, h.pa.drew, h.pp.drew⟩
theorem row_next {W W' : World} {b o n : Nat} {f : Nat → Int} (h : Row W b o n f) (hb : Below W.heap.size W W') : Row W' b o n f := fun j hj => (h.kept hb (h.lt (by omega))) j hj
theorem alloc_below (w : World) (x : Obj) : Below w.heap.size w (w.alloc x) := (Below.refl _ w).alloc (Nat.le_refl _) _

def oneZero (j : Nat) : Int := if j = 0 then 1 else 0
def lit4 (j : Nat) : Int := if j = 2 then 1 else 0
theorem Nums_oneZero : Nums oneZero := fun j => by
  unfold oneZero
  split <;> omega
theorem row_oneZero (w : World) (t : TypeId) : Row (w.alloc (.cells #[.int .u64 1, .int .u64 0] t)) w.heap.size 0 2 oneZero := fun j hj => by
  rw [Nat.zero_add, World.cell?_alloc_new]
  match j, hj with
  | 0, _ => rfl
  | 1, _ => rfl
theorem row_lit4 (w : World) (t : TypeId) : Row (w.alloc (.cells #[.int .u64 0, .int .u64 0, .int .u64 1, .int .u64 0] t)) w.heap.size 0 4 lit4 := fun j hj => by
  rw [Nat.zero_add, World.cell?_alloc_new]
  match j, hj with
  | 0, _ => rfl
  | 1, _ => rfl
  | 2, _ => rfl
  | 3, _ => rfl
theorem wgt_lit4 (j : Nat) (hj : j < 4) : wgt oneZero 2 j = lit4 j := by
  match j, hj with
  | 0, _ => rfl
  | 1, _ => rfl
  | 2, _ => rfl
  | 3, _ => rfl
theorem one_step (g : Nat → Int) (n k : Nat) (z a : Int) (hz : z = ofK (sK (eqK (fun j => kk (g j)) n) k)) (ha : wgt g n k = a) : addQ z a = ofK (sK (eqK (fun j => kk (g j)) n) (k + 1)) := by
  rw [addQ_ofK, hz, ← ha, wgt, kk_ofK, kk_ofK, sK]
theorem val_step (f g : Nat → Int) (n k : Nat) (z a c : Int) (hz : z = ofK (sK (fun b => kk (f b) * eqK (fun j => kk (g j)) n b) k)) (ha : wgt g n k = a) (hc : f k = c) : addQ z (mulQ a c) = ofK (sK (fun b => kk (f b) * eqK (fun j => kk (g j)) n b) (k + 1)) := by
  rw [addQ_ofK, hz, kk_mulQ, ← ha, wgt, kk_ofK, kk_ofK, sK, hc]
  congr 1
  grind

set_option maxHeartbeats 8000000 in
set_option maxRecDepth 100000 in
theorem walk_all (ao ap : Option Addr) (la ca lp cp r N : Nat) (f0 g0 : Nat → Int) (k b : Int) (w : World) (k0 : -9223372036854775808 ≤ k) (k1 : k ≤ 9223372036854775807) (hr : k % 5 = (r : Int)) (hN : N = 2 ^ r) (hs : St w w ao la f0 ap lp g0) (hf0 : Nums f0) (hg0 : Nums g0) :
    Calls Tryd.prog 4 #[.slice ao la ca, .slice ap lp cp, .int .i64 k, .int .i64 b] w fun e w' => e = .returned (.bool true) ∧ Below w.heap.size w w' := by
  have hr4 : r ≤ 4 := by omega
  have hN2 : N ≤ 256 := by rw [hN]; exact pow_256 (by omega)
  have hN1 : 1 ≤ N := by rw [hN]; exact Nat.one_le_two_pow
  have HRR := hid hr
  have HN := hid hN
  have HS := hid hs
  have HF := hid (Nums_pad hf0 la)
  have HG := hid (Nums_pad hg0 lp)
  clear hr hN hs hf0 hg0
  go_enter Tryd.func4, Tryd.ntmps4
  go_wp2_with fail
  have hrow := row_oneZero w 23
  have HS1 := hid (HS.out.next (alloc_below w (.cells #[.int .u64 1, .int .u64 0] 23)))
  generalize w.alloc (.cells #[.int .u64 1, .int .u64 0] 23) = W at hrow HS1 ⊢
  refine (eq_ok w.heap.size 0 2 2 4 oneZero W (by omega) rfl hrow Nums_oneZero).mono ?_
  rintro e w1 ⟨rfl, hm⟩
  have HS2 := hid (HS1.out.next hm.below)
  have HL0 := hid hm.row
  clear hm hrow HS1 HS
  obtain ⟨B0, hB0⟩ : ∃ B0, W.heap.size = B0 := ⟨_, rfl⟩
  rw [hB0] at HL0 ⊢
  clear hB0
  go_wp2_with fail
  have hA := alloc_below w1 (.cells #[.int .u64 0, .int .u64 0, .int .u64 1, .int .u64 0] 23)
  have HS3 := hid (HS2.out.next hA)
  have HL1 := hid (row_next HL0.out hA)
  clear hA HS2 HL0
  refine (equal_ok _ _ 4 4 4 (wgt oneZero 2) lit4 _ (by omega) (PRow.of HL1.out) (PRow.of (row_lit4 w1 _)) wgt_lit4).mono ?_
  rintro e w2 ⟨rfl, hb⟩
  have HS4 := hid (HS3.out.next hb)
  clear hb HS3 HL1
  go_wp2_with fail
  refine (table_any ao la ca k r N f0 _ k0 k1 HRR.out HN.out HS4.out.pa).mono ?_
  rintro e w3 ⟨rfl, hm⟩
  have HS5 := hid (HS4.out.next hm.below)
  have HT3 := hid hm.row
  clear hm HS4
  obtain ⟨BT, hBT⟩ : ∃ BT, w2.heap.size = BT := ⟨_, rfl⟩
  rw [hBT] at HT3 ⊢
  clear hBT
  go_wp2_with fail
  refine (rvars_ok _ r N N _ (by omega) HN.out).mono ?_
  rintro e w' ⟨rfl, hw⟩
  obtain rfl := hw.symm
  go_wp2_with fail
  refine (point_any ap lp cp r g0 _ (by omega) HS5.out.pp).mono ?_
  rintro e w4 ⟨rfl, hm⟩
  have HS6 := hid (HS5.out.next hm.below)
  have HT4 := hid (row_next HT3.out hm.below)
  have HQ4 := hid hm.row
  clear hm HS5 HT3
  obtain ⟨BQ, hBQ⟩ : ∃ BQ, w3.heap.size = BQ := ⟨_, rfl⟩
  rw [hBQ] at HQ4 ⊢
  clear hBQ
  go_wp2_with fail
  refine (eq_ok BQ 0 r r N (padF lp g0) _ (by omega) HN.out HQ4.out HG.out).mono ?_
  rintro e w5 ⟨rfl, hm⟩
  have HS7 := hid (HS6.out.next hm.below)
  have HT5 := hid (row_next HT4.out hm.below)
  have HQ5 := hid (row_next HQ4.out hm.below)
  have HL5 := hid hm.row
  clear hm HS6 HT4 HQ4
  obtain ⟨BL, hBL⟩ : ∃ BL, w4.heap.size = BL := ⟨_, rfl⟩
  rw [hBL] at HL5 ⊢
  clear hBL
  obtain ⟨f, hf⟩ : ∃ f, padF la f0 = f := ⟨_, rfl⟩
  obtain ⟨g, hg⟩ : ∃ g, padF lp g0 = g := ⟨_, rfl⟩
  rw [hf] at HF HT5
  rw [hg] at HG HQ5 HL5
  clear hf hg
  go_wp2_with fail
  go_loopg [15, 16, 55] N (fun q x y i wr => ∃ (t : Nat) (p v : Int), t ≤ N ∧ q = N - t ∧ x = .int .u64 p ∧ y = .int .u64 v ∧ i = .int .i64 (t : Int) ∧ 0 ≤ p ∧ p ≤ 2305843009213693950 ∧ 0 ≤ v ∧ v ≤ 2305843009213693950 ∧ Hid (p = ofK (sK (eqK (fun j => kk (g j)) r) t)) ∧ Hid (v = ofK (sK (fun b => kk (f b) * eqK (fun j => kk (g j)) r b) t)) ∧ Hid (St w wr ao la f0 ap lp g0) ∧ Hid (Row wr BT 0 N f) ∧ Hid (Row wr BQ 0 r g) ∧ Hid (Row wr BL 0 N (wgt g r)))
  case atStart => exact ⟨0, 0, 0, by omega, rfl, rfl, rfl, rfl, by omega, by omega, by omega, by omega, hid rfl, hid rfl, HS7, HT5, HQ5, HL5⟩
  case round =>
    clear HS7 HT5 HQ5 HL5
    obtain ⟨t, p, v, htN, rfl, rfl, rfl, rfl, p0, p1, v0, v1, HPP, HVV, HS7, HT5, HQ5, HL5⟩ := hrel
    by_cases hlt : t < N
    · have c1 := HL5.out t hlt
      have c2 := HT5.out t hlt
      rw [Nat.zero_add] at c1 c2
      obtain ⟨a, ha⟩ : ∃ a, wgt g r t = a := ⟨_, rfl⟩
      obtain ⟨c, hc⟩ : ∃ c, f t = c := ⟨_, rfl⟩
      have ba := ofK_u64 (eqK (fun j => kk (g j)) r t)
      have bc := HF.out t
      change 0 ≤ wgt g r t ∧ wgt g r t ≤ 18446744073709551615 at ba
      rw [ha] at c1 ba
      rw [hc] at c2 bc
      obtain ⟨a0, a1⟩ := ba
      obtain ⟨d0, d1⟩ := bc
      have HST := hid (one_step g r t p a HPP.out ha)
      have HSV := hid (val_step f g r t v a c HVV.out ha hc)
      clear ha hc
      obtain ⟨m0, m1⟩ := mulQ_rng a c
      have t0 : (0 : Int) ≤ (t : Int) := by omega
      have t1 : (t : Int) < (N : Int) := by omega
      go_wp2_with (go_at_call 16; refine (add_any _ _ _ (by omega) (by omega) (by omega) (by omega)).mono ?_; rintro e w' ⟨rfl, hw⟩; obtain rfl := hw.symm)
      go_region_with (first | (go_at_call 17; refine (mul_any _ _ _ (by omega) (by omega) (by omega) (by omega)).mono ?_; rintro e w' ⟨rfl, hw⟩; obtain rfl := hw.symm) | (go_at_call 16; refine (add_any _ _ _ (by omega) (by omega) (by omega) (by omega)).mono ?_; rintro e w' ⟨rfl, hw⟩; obtain rfl := hw.symm))
      all_goals (go_wp2_with fail)
      all_goals (go_roundg (N - (t + 1)))
      all_goals first | (go_light; omega) | (exact ⟨t + 1, _, _, by omega, rfl, rfl, rfl, by go_num, (addQ_rng _ _).1, (addQ_rng _ _).2, (addQ_rng _ _).1, (addQ_rng _ _).2, HST, HSV, hid HS7.out.drew, hid HT5.out.drew, hid HQ5.out.drew, hid HL5.out.drew⟩)
    · have e : t = N := by omega
      subst e
      have hp1 : p = 1 := by rw [HPP.out, HN.out, eqK_sum]; rfl
      subst hp1
      have hev := eval_ok BT 0 r t t r (some ⟨BQ, 0, none⟩) f g wr (by omega) HN.out HS7.out.t HT5.out HF.out (PRow.of HQ5.out) HG.out
      have hv2 : ofK (evS (fun j => kk (f j)) (fun j => kk (g j)) r) = v := by rw [HVV.out, HN.out]; rfl
      rw [hv2] at hev
      have HEV := hid hev
      clear hev hv2
      go_wp2_with fail
      refine (HEV.out).mono ?_
      rintro e w8 ⟨rfl, hb⟩
      have HS8 := hid (HS7.out.next hb)
      clear hb
      go_wp2_with fail
      go_ret
      exact ⟨rfl, HS8.out.bel⟩

/-- What the row lists. -/
def laidT : List (String × DataW Unit) := [("math/bits.deBruijn32tab", Rows.laid_math_bits_deBruijn32tab), ("math/bits.deBruijn64tab", Rows.laid_math_bits_deBruijn64tab)]
theorem door_met (os : Os) (args : Array Value) : laidMetH Tryd.prog laidT ((World.laidAll Tryd.prog os laidT).forCall (fun _ _ => 0) ⟨#[], args, []⟩).memory := by
  rw [MakeChecks.laidMetH_plain _ _ _ (by kernel_rfl)]
  exact laidMet_laidAll _ (by kernel_rfl) (by kernel_rfl)
theorem tab_of_laid {W : World} (h : laidMetH Tryd.prog laidT W) : Tab W := by
  rw [MakeChecks.laidMetH_plain _ _ _ (by kernel_rfl)] at h
  obtain ⟨ps, hv, _⟩ := h
  exact tab_of_vars hv

set_option maxHeartbeats 4000000 in
set_option maxRecDepth 100000 in
theorem walk (a0 : Option Addr) (len0 cap0 : Nat) (z0 : List Int) (a1 : Option Addr) (len1 cap1 : Nat) (z1 : List Int) (a2 : Int) (a3 : Int) (w : World) (w0 : IsRow .u64 w a0 len0 cap0 z0) (w1 : IsRow .u64 w a1 len1 cap1 z1) (w2 : (Lit.int .i64 a2).wf = true) (w3 : (Lit.int .i64 a3).wf = true) (ht : Tab w) :
    Calls Tryd.prog 4 #[.slice a0 len0 cap0, .slice a1 len1 cap1, .int .i64 a2, .int .i64 a3] w fun e w' => e = .returned (.bool true) ∧ Below w.heap.size w w' := by
  obtain ⟨k0, k1⟩ := i64_rng w2
  obtain ⟨f, hp, hf⟩ := prow_of w0
  obtain ⟨g, hq, hg⟩ := prow_of w1
  exact walk_all a0 a1 len0 cap0 len1 cap1 (a2 % 5).toNat _ f g a2 a3 w k0 k1 (by omega) rfl ⟨Below.refl _ _, ht, hp, hq⟩ hf hg

set_option maxRecDepth 100000 in
theorem lifted (os : Os) (started : os.Started) (H : Type) (enc : TypeId × Value → H) :
    ReturnsInHanded {} Tryd.checked os 4 .any (fun w args => (Rows.mleEqsSpec.pre enc Tryd.prog Tryd.f4 [] false w args ∧ laidMetH Tryd.prog laidT w) ∧ sizedMet enc Tryd.prog Tryd.f4 (OpenSpec.ofChange Rows.mleEqsSpec) false w args) (Rows.mleEqsSpec.post enc Tryd.prog Tryd.f4 false true false false) := by
  refine wrap_and_shaped (C := Tryd.checked) (X := fun w _ => laidMetH Tryd.prog laidT w) (fun _ _ _ hh h => h.of_heap hh) own started (by kernel_rfl) Tryd.func4
    (ChangeSpec.witness_shaped (enc := enc) (C := Tryd.checked) (os := os) (X := fun w _ => laidMetH Tryd.prog laidT w) false (World.laidAll Tryd.prog os laidT) #[.slice none 0 0, .slice none 0 0, .int .i64 0, .int .i64 0] 8 (World.laidAll_os _ _ _) (World.shaped_of_ZipB (by kernel_rfl) (by kernel_rfl)) (by kernel_rfl) (by kernel_rfl) (by kernel_rfl) (door_met os _)) ?_
  intro W base args ds gs before hval0 hW _ _ hL hsh _
  have hval : ∀ (j : Nat) t v, Tryd.f4.params[j]? = some t → args[j]? = some v → Value.okWide Tryd.prog W .any base t v := hval0
  have hW' := hW
  obtain ⟨p, q, hA0, hV, rfl, hfz, hnd⟩ := hW
  have hA : DataW.TrodAll enc Tryd.prog W 0 (fun _ => true) true Tryd.f4.params.toList args.toList ds p := hA0
  rw [Tryd.params4] at hA hval
  obtain ⟨v0, vs0, d0, ds0, p0, q0, hargs, rfl, rfl, h0, r0⟩ := trodAll_cons hA
  obtain ⟨v1, vs1, d1, ds1, p1, q1, rfl, rfl, rfl, h1, r1⟩ := trodAll_cons r0
  obtain ⟨v2, vs2, d2, ds2, p2, q2, rfl, rfl, rfl, h2, r2⟩ := trodAll_cons r1
  obtain ⟨v3, vs3, d3, ds3, p3, q3, rfl, rfl, rfl, h3, r3⟩ := trodAll_cons r2
  obtain ⟨rfl, rfl, rfl⟩ := trodAll_nil r3
  obtain rfl : args = #[v0, v1, v2, v3] := by cases args; simp_all
  obtain ⟨rfl, rfl⟩ := trodVars_none hV
  obtain ⟨a0, len0, cap0, rfl⟩ := okWide_slice Tryd.underlying22 (hval 0 22 v0 rfl rfl)
  have k0 := h0
  have lt0 : ∀ x ∈ p0, x.block < W.heap.size := by obtain ⟨m, hm⟩ := k0; exact DataW.trod_lt m _ _ _ hm
  obtain ⟨z0, w0⟩ : ∃ zs, IsRow .u64 W a0 len0 cap0 zs := by
    obtain ⟨fuel, hf⟩ := h0
    rcases open_ints Tryd.underlying22 Tryd.underlying23 (by kernel_rfl) hf with ⟨hcs, _⟩ | ⟨x, l, c, zs, hcs, _, hl, hm, hz, _, hcell, hwz⟩
    · simp [Value.cells] at hcs
      obtain ⟨rfl, rfl, rfl⟩ := hcs
      exact ⟨[], .inl ⟨rfl, rfl, rfl, rfl⟩⟩
    · simp [Value.cells] at hcs
      obtain ⟨rfl, rfl, rfl⟩ := hcs
      exact ⟨zs, .inr ⟨_, rfl, hl, hm, by simpa using hz, hcell, hwz⟩⟩
  obtain ⟨a1, len1, cap1, rfl⟩ := okWide_slice Tryd.underlying22 (hval 1 22 v1 rfl rfl)
  have k1 := h1
  have lt1 : ∀ x ∈ p1, x.block < W.heap.size := by obtain ⟨m, hm⟩ := k1; exact DataW.trod_lt m _ _ _ hm
  obtain ⟨z1, w1⟩ : ∃ zs, IsRow .u64 W a1 len1 cap1 zs := by
    obtain ⟨fuel, hf⟩ := h1
    rcases open_ints Tryd.underlying22 Tryd.underlying23 (by kernel_rfl) hf with ⟨hcs, _⟩ | ⟨x, l, c, zs, hcs, _, hl, hm, hz, _, hcell, hwz⟩
    · simp [Value.cells] at hcs
      obtain ⟨rfl, rfl, rfl⟩ := hcs
      exact ⟨[], .inl ⟨rfl, rfl, rfl, rfl⟩⟩
    · simp [Value.cells] at hcs
      obtain ⟨rfl, rfl, rfl⟩ := hcs
      exact ⟨zs, .inr ⟨_, rfl, hl, hm, by simpa using hz, hcell, hwz⟩⟩
  obtain ⟨a2, rfl, rfl, rfl, w2⟩ := open_int Tryd.underlying3 (hval 2 3 v2 rfl rfl) h2
  obtain ⟨a3, rfl, rfl, rfl, w3⟩ := open_int Tryd.underlying3 (hval 3 3 v3 rfl rfl) h3
  clear hA0 hval0
  refine (walk a0 len0 cap0 z0 a1 len1 cap1 z1 a2 a3 W w0 w1 w2 w3 (tab_of_laid hL)).mono fun e W' ⟨he, bel⟩ => ?_
  subst he
  exact ⟨_, rfl, _, _, _, [], _, [], hW', trodAll_mk1 (shut_bool Tryd.underlying4 _), (trodAll_cons_mk (Below.trod laidOut (by kernel_rfl) (of_decide_eq_true (by kernel_rfl)) k0 bel lt0) (trodAll_cons_mk (Below.trod laidOut (by kernel_rfl) (of_decide_eq_true (by kernel_rfl)) k1 bel lt1) (trodAll_cons_mk (shut_int Tryd.underlying3 w2) (trodAll_cons_mk (shut_int Tryd.underlying3 w3) trodAll_mk0)))), rfl, bel.frame _, fun h => by cases h⟩

theorem over : Rows.mleEqsRow.holds Tryd.pinned (OpenSpec.ofChange Rows.mleEqsSpec) :=
  OpenClaim.holds_of_wide 4 Tryd.f4 rfl rfl rfl rfl rfl rfl rfl ⟨rfl, rfl, rfl, rfl, rfl⟩ rfl rfl rfl rfl rfl (by kernel_rfl) Tryd.func4 (by kernel_rfl)
    (of_decide_eq_true (by kernel_rfl)) (by unfold Func.isWrapper; first | (rw [if_pos (by decide +kernel)]; kernel_rfl) | (rw [if_neg (by decide +kernel)]; exact ⟨rfl, rfl⟩))
    (fun os started H enc _ => lifted os started H enc)

/-- ████ THE STATEMENT ████ -/
theorem proved : Rows.MleEqsSaid := over
end Go.Proofs.YtoogpkcpheannadDoor.mleEqs

namespace Go.Proofs.YtoogpkcpheannadDoor
/-- The given statement: the row's, tied to the program's text. -/
theorem mleEqs_holds : Rows.MleEqsCardSaid :=
  Claim7.holds_tied_plain_at .later [] [.data, .data] true (true, "8280cba51574707be41f3ada8b67706cbb80bfa1525eaf47f61542222f0abf29") false
    mleEqs.proved (fun _ h => by cases h) (by kernel_rfl) (fun _ h => by cases h) mleEqs_row_tie rfl ⟨rfl, rfl⟩ (by kernel_rfl) rfl
    (fun f fn hf hfn => by
      obtain rfl : f = 4 := Option.some.inj ((show Tryd.prog.funcNamed "tallystick/tallykeep.MleEqs" = some 4 by kernel_rfl).symm.trans hf) |>.symm
      obtain rfl : fn = Tryd.f4 := (Option.some.inj (Tryd.func4.symm.trans hfn)).symm
      exact ⟨by kernel_rfl, fun j t ht => by
        rw [Tryd.params4] at ht
        have hm : t ∈ [22, 22, 3, 3] := by simpa using Array.mem_of_getElem? ht
        have hall : ([22, 22, 3, 3].all fun u => !Tryd.prog.wantsStandIn u) = true := by kernel_rfl
        exact (show Tryd.prog.wantsStandIn t = false by simpa using List.all_eq_true.1 hall t hm)⟩)
    (by kernel_rfl)
end Go.Proofs.YtoogpkcpheannadDoor
