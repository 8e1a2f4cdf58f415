/-
  Whatever word and whatever two lists of numbers of 64 bits are handed in, the law SpongeSteps answers true and writes nothing that was there: two sponges that take the same give the same, and what is given ahead doesn't hang on what is taken later; no condition.
-/
import Derived.Test.YtoogpkcpheannaeRows
import Derived.WalkKit
import Derived.Test.YtoogpkcpheannaeSpg3
import Derived.Test.YtoogpkcpheannaeCome
import Derived.ProofKit
import Derived.OpenShut
import Derived.ShutString
import Derived.ChangeOld
import Derived.Below
namespace Go.Proofs.Ytoogpkcpheannae.spongeSteps
open Go.ChangeShapes Go.WideShapes Go.ChangeAt Go.RowKit
open Go.ChangeMaps (open_string shut_string)
set_option linter.unusedVariables false

theorem own : ownKnob Try.prog.godebug = none := by kernel_rfl
theorem laidOut : laidOutB Try.prog = true := by kernel_rfl

/-- WHAT THE WALK IS TOLD OF A SLICE OF INTEGERS THAT CAME IN: it is nil; or it leads to a row of 'cap' cells, the numbers 'zs' (the first 'len' are its elements, the rest its spare room), each fitting its kind. -/
def IsRow (k : IntKind) (w : World) (a : Option Addr) (len cap : Nat) (zs : List Int) : Prop :=
  (a = none ∧ len = 0 ∧ cap = 0 ∧ zs = []) ∨
  ∃ x, a = some x ∧ len ≤ cap ∧ cap ≤ maxLen ∧ zs.length = cap ∧ (∀ i, i < zs.length → w.cell? (x.add i) = some (.int k (zs.getD i 0))) ∧ ∀ n ∈ zs, (Lit.int k n).wf = true

attribute [local go_sem ↓] Go.wp_at_zero Go.wp_at_succ
theorem row_in {w : World} {a : Option Addr} {len cap : Nat} {zs : List Int} (h : IsRow .u64 w a len cap zs) (hl : 0 < len) :
    ∃ b off f, a = some ⟨b, off, none⟩ ∧ Row w b off len f ∧ Nums f := by
  rcases h with ⟨_, rfl, _⟩ | ⟨x, rfl, hc, _, hz, hcell, hwf⟩
  · omega
  · obtain ⟨b, off, rfl, hcs⟩ := ints_at hcell (by omega)
    exact ⟨b, off, fun j => zs.getD j 0, rfl, fun j hj => hcs j (by omega), nums_in hwf⟩
theorem prow_in {w : World} {a : Option Addr} {len cap : Nat} {zs : List Int} (h : IsRow .u64 w a len cap zs) : ∃ g, PRow w a len g ∧ Nums g := by
  by_cases hl : 0 < len
  · obtain ⟨b, off, f, e, hr, hv⟩ := row_in h hl
    exact ⟨f, fun _ => ⟨b, off, e, hr⟩, hv⟩
  · exact ⟨fun _ => 0, fun h => absurd h hl, Nums_nil⟩
theorem len_in {w : World} {a : Option Addr} {len cap : Nat} {zs : List Int} (h : IsRow .u64 w a len cap zs) : len ≤ maxLen := by
  rcases h with ⟨_, rfl, _⟩ | ⟨_, _, h1, h2, _⟩
  · exact Nat.zero_le _
  · exact Nat.le_trans h1 h2
theorem cap_in {w : World} {a : Option Addr} {len cap : Nat} {zs : List Int} (h : IsRow .u64 w a len cap zs) : len ≤ cap := by
  rcases h with ⟨_, rfl, _⟩ | ⟨_, _, h1, _⟩
  · exact Nat.zero_le _
  · exact h1
set_option maxHeartbeats 4000000 in
set_option maxRecDepth 100000 in
theorem steps (al am : Option Addr) (nl cl nm cm : Nat) (fl fm : Nat → Int) (word : Int) (w : World) (h0 : 0 ≤ word) (h1 : word ≤ 18446744073709551615) (hl : PRow w al nl fl) (hfl : Nums fl) (hm : PRow w am nm fm) (hfm : Nums fm) :
    Calls Try.prog 3 #[.int .u64 word, .slice al nl cl, .slice am nm cm] w fun e w' => e = .returned (.bool true) ∧ Below w.heap.size w w' := by
  have HL := hid hl
  have HFL := hid hfl
  have HM := hid hm
  have HFM := hid hfm
  have HN1 := hid (fun W => new_any word W h0 h1)
  have HN2 := hid (fun W => new_any 1 W (by omega) (by omega))
  have HNO := hid (norm_any word)
  clear hl hfl hm hfm
  go_enter Try.func3, Try.ntmps3
  go_wp2_with fail
  refine (HN1.out w).mono ?_
  rintro e w1 ⟨rfl, hb1, hlt1, hr1, hf1⟩
  go_wp2_with fail
  refine (HN1.out w1).mono ?_
  rintro e w2 ⟨rfl, hb2, hlt2, hr2, hf2⟩
  have hp : Play w w2 w.heap.size w1.heap.size (mixed (newK word)) (mixed (newK word)) := ⟨hb1.trans (hb2.mono hb1.size), hr1.kept hb2 hlt1, hf1.kept hb2 hlt1, hr2, hf2⟩
  have hsb2 : w.heap.size < w2.heap.size := by omega
  have htb2 : w1.heap.size < w2.heap.size := hlt2
  obtain ⟨sb, hsb⟩ : ∃ x, w.heap.size = x := ⟨_, rfl⟩
  obtain ⟨tb, htb⟩ : ∃ x, w1.heap.size = x := ⟨_, rfl⟩
  have hsl : w.heap.size ≤ sb := by omega
  have htl : w.heap.size ≤ tb := by omega
  have hne : tb ≠ sb := by omega
  have HP : Hid (∃ g, Play w w2 sb tb g g) := hid ⟨_, by rw [← htb, ← hsb]; exact hp⟩
  rw [htb]
  rw [show (Value.pointer (some ⟨w.heap.size, 0, none⟩)) = Value.pointer (some ⟨sb, 0, none⟩) from by rw [hsb]]
  have HS2 : Hid (sb < w2.heap.size ∧ tb < w2.heap.size) := hid ⟨by omega, by omega⟩
  clear hp hb1 hb2 hr1 hf1 hr2 hf2 hlt1 hlt2 htb HN1 hsb2 htb2
  have HSL := hid hsl
  have HTL := hid htl
  clear hsl htl hsb
  obtain ⟨g, hp⟩ := HP.out
  have HPL := hid hp
  clear HP hp
  go_wp2_with fail
  refine (HN2.out w2).mono ?_
  rintro e w3 ⟨rfl, hb3, hlt3, hr3, hf3⟩
  have HP3 : Hid (Play w w3 sb tb g g) := hid ⟨HPL.out.below.trans (hb3.mono HPL.out.below.size), HPL.out.sr.kept hb3 HS2.out.1, HPL.out.sf.kept hb3 HS2.out.1, HPL.out.tr.kept hb3 HS2.out.2, HPL.out.tf.kept hb3 HS2.out.2⟩
  have HG3 := hid (give_any w2.heap.size _ w3 hr3 hf3)
  have HS3 : Hid (sb < w2.heap.size ∧ tb < w2.heap.size ∧ w.heap.size ≤ w2.heap.size) := hid ⟨HS2.out.1, HS2.out.2, HPL.out.below.size⟩
  have HZ := hid new_one_ne
  clear hb3 hlt3 hr3 hf3 HPL HN2 HS2
  obtain ⟨c3, hc3⟩ : ∃ x, w2.heap.size = x := ⟨_, rfl⟩
  rw [hc3] at HG3 HS3 ⊢
  clear hc3
  obtain ⟨z, hz⟩ : ∃ z, ofK (mixed (newK 1) 1) = z := ⟨_, rfl⟩
  rw [hz] at HG3 HZ
  clear hz
  have zb : (z == 0) = false := beq_eq_false_iff_ne.2 HZ.out
  go_wp2_with fail
  refine (HG3.out).mono ?_
  rintro e w4 ⟨rfl, ht, _, _⟩
  have HP4 : Hid (Play w w4 sb tb g g) := hid ⟨HP3.out.below.trans (ht.below HS3.out.2.2 HP3.out.below.size), HP3.out.sr.turned ht (by have := HS3.out; omega), HP3.out.sf.turned HP3.out.sr ht (by have := HS3.out; omega), HP3.out.tr.turned ht (by have := HS3.out; omega), HP3.out.tf.turned HP3.out.tr ht (by have := HS3.out; omega)⟩
  clear ht HP3 HG3 HS3 HZ
  go_wp2_with fail
  refine (take_all sb g al nl cl fl w4 HP4.out.sr HP4.out.sf (HL.out.kept HP4.out.below) HFL.out (old_ne HL.out HSL.out)).mono ?_
  rintro e w5 ⟨rfl, ht, hr, hf⟩
  have HP5 := hid (HP4.out.s HSL.out hne ht hr hf)
  clear ht hr hf HP4
  obtain ⟨er, her⟩ : ∃ x, tkE nl = x := ⟨_, rfl⟩
  obtain ⟨g1, hg1⟩ : ∃ x, tkK g nl fl = x := ⟨_, rfl⟩
  rw [her]
  rw [hg1] at HP5
  go_wp2_with fail
  refine (take_all tb g al nl cl fl w5 HP5.out.tr HP5.out.tf (HL.out.kept HP5.out.below) HFL.out (old_ne HL.out HTL.out)).mono ?_
  rw [her, hg1]
  rintro e w6 ⟨rfl, ht, hr, hf⟩
  have HP6 := hid (HP5.out.t HTL.out hne ht hr hf)
  clear ht hr hf HP5 her hg1
  have yr := ofK_rng (g1 1)
  obtain ⟨y, hy⟩ : ∃ y, ofK (g1 1) = y := ⟨_, rfl⟩
  rw [hy] at yr
  obtain ⟨y0, y1⟩ := yr
  go_wp2_with fail
  refine (give_any sb g1 w6 HP6.out.sr HP6.out.sf).mono ?_
  rw [hy]
  rintro e w7 ⟨rfl, ht, hr, hf⟩
  have HP7 := hid (HP6.out.s HSL.out hne ht hr hf)
  clear ht hr hf HP6
  go_wp2_with fail
  refine (give_any tb g1 w7 HP7.out.tr HP7.out.tf).mono ?_
  rw [hy]
  rintro e w8 ⟨rfl, ht, hr, hf⟩
  have HP8 := hid (HP7.out.t HTL.out hne ht hr hf)
  clear ht hr hf HP7 hy
  have yP : ¬ (2305843009213693951 : Int) ≤ y := by omega
  go_wp2_with fail
  refine (take_all sb _ am nm cm fm w8 HP8.out.sr HP8.out.sf (HM.out.kept HP8.out.below) HFM.out (old_ne HM.out HSL.out)).mono ?_
  rintro e w9 ⟨rfl, ht, hr, hf⟩
  have HP9 := hid (HP8.out.s HSL.out hne ht hr hf)
  clear ht hr hf HP8
  go_wp2_with fail
  refine (take_all tb _ am nm cm fm w9 HP9.out.tr HP9.out.tf (HM.out.kept HP9.out.below) HFM.out (old_ne HM.out HTL.out)).mono ?_
  rintro e w10 ⟨rfl, ht, hr, hf⟩
  have HP10 := hid (HP9.out.t HTL.out hne ht hr hf)
  clear ht hr hf HP9
  obtain ⟨g2, hg2⟩ : ∃ x, tkK (mixed g1) nm fm = x := ⟨_, rfl⟩
  rw [hg2] at HP10
  clear hg2
  obtain ⟨u, hu⟩ : ∃ u, ofK (g2 1) = u := ⟨_, rfl⟩
  go_wp2_with fail
  refine (give_any sb g2 w10 HP10.out.sr HP10.out.sf).mono ?_
  rw [hu]
  rintro e w11 ⟨rfl, ht, hr, hf⟩
  have HP11 := hid (HP10.out.s HSL.out hne ht hr hf)
  clear ht hr hf HP10
  go_wp2_with fail
  refine (give_any tb g2 w11 HP11.out.tr HP11.out.tf).mono ?_
  rw [hu]
  rintro e w12 ⟨rfl, ht, hr, hf⟩
  have HB12 := hid (HP11.out.t HTL.out hne ht hr hf).below
  clear ht hr hf HP11 hu
  obtain ⟨n0, n1⟩ := nrm_rng word
  go_wp2_with fail
  refine (pair_any word y w12 h0 h1 (by omega) (by omega)).mono ?_
  rintro e w13 ⟨rfl, hb⟩
  have HB13 : Hid (Below w.heap.size w w13) := hid (HB12.out.trans (hb.mono HB12.out.size))
  clear hb
  go_wp2_with fail
  refine (HNO.out w13 h0 h1).mono ?_
  rintro e w14 ⟨rfl, hw⟩
  obtain rfl := hw.symm
  have hpe : pairK (nrm word) y = pairK word y := pairK_congr (kk_nrm word) rfl
  have hpa := pair_any (nrm word) y w13 (by omega) (by omega) (by omega) (by omega)
  rw [hpe] at hpa
  have HPA := hid hpa
  clear hpa hpe
  go_wp2_with fail
  refine (HPA.out).mono ?_
  rintro e w15 ⟨rfl, hb⟩
  have HB15 : Hid (Below w.heap.size w w15) := hid (HB13.out.trans (hb.mono HB13.out.size))
  clear hb
  go_wp2_with fail
  go_ret
  exact ⟨by simp, HB15.out⟩

set_option maxHeartbeats 4000000 in
set_option maxRecDepth 100000 in
theorem walk (a0 : Int) (a1 : Option Addr) (len1 cap1 : Nat) (z1 : List Int) (a2 : Option Addr) (len2 cap2 : Nat) (z2 : List Int) (w : World) (w0 : (Lit.int .u64 a0).wf = true) (w1 : IsRow .u64 w a1 len1 cap1 z1) (w2 : IsRow .u64 w a2 len2 cap2 z2) :
    Calls Try.prog 3 #[.int .u64 a0, .slice a1 len1 cap1, .slice a2 len2 cap2] w fun e w' => e = .returned (.bool true) ∧ Below w.heap.size w w' := by
  obtain ⟨c0, c1⟩ := u64_in w0
  obtain ⟨F, hl, hF⟩ := prow_in w1
  obtain ⟨G, hm, hG⟩ := prow_in w2
  exact steps a1 a2 len1 cap1 len2 cap2 F G a0 w c0 c1 hl hF hm hG

set_option maxRecDepth 100000 in
theorem lifted (os : Os) (started : os.Started) (H : Type) (enc : TypeId × Value → H) :
    ReturnsInHanded {} Try.checked os 3 .any (Rows.spongeStepsSpec.pre6 enc Try.prog Try.f3 Rows.spongeStepsRow.domain false) (Rows.spongeStepsSpec.post enc Try.prog Try.f3 false true false false) := by
  refine returnsInHanded_of_change (C := Try.checked) own started (by kernel_rfl) Try.func3
    (ChangeSpec.witness6 (enc := enc) (C := Try.checked) false ⟨#[], #[.int .u64 0, .slice none 0 0, .slice none 0 0], []⟩ 8 (by kernel_rfl) (by kernel_rfl) (by kernel_rfl) (by kernel_rfl)) ?_
  intro W base args ds gs before hval0 hW hcnd _
  have hval : ∀ (j : Nat) t v, Try.f3.params[j]? = some t → args[j]? = some v → Value.okWide Try.prog W .any base t v := hval0
  have hW' := hW
  obtain ⟨p, q, hA0, hV, rfl, hfz, hnd⟩ := hW
  have hA : DataW.TrodAll enc Try.prog W 0 (fun _ => true) true Try.f3.params.toList args.toList ds p := hA0
  rw [Try.params3] at hA hval
  obtain ⟨v0, vs0, d0, ds0, p0, q0, hargs, rfl, rfl, h0, r0⟩ := trodAll_cons hA
  obtain ⟨v1, vs1, d1, ds1, p1, q1, rfl, rfl, rfl, h1, r1⟩ := trodAll_cons r0
  obtain ⟨v2, vs2, d2, ds2, p2, q2, rfl, rfl, rfl, h2, r2⟩ := trodAll_cons r1
  obtain ⟨rfl, rfl, rfl⟩ := trodAll_nil r2
  obtain rfl : args = #[v0, v1, v2] := by cases args; simp_all
  obtain ⟨rfl, rfl⟩ := trodVars_none hV
  obtain ⟨a0, rfl, rfl, rfl, w0⟩ := open_int Try.underlying22 (hval 0 22 v0 rfl rfl) h0
  obtain ⟨a1, len1, cap1, rfl⟩ := okWide_slice Try.underlying23 (hval 1 23 v1 rfl rfl)
  have k1 := h1
  have lt1 : ∀ x ∈ p1, x.block < W.heap.size := by obtain ⟨m, hm⟩ := k1; exact DataW.trod_lt m _ _ _ hm
  obtain ⟨z1, w1⟩ : ∃ zs, IsRow .u64 W a1 len1 cap1 zs := by
    obtain ⟨fuel, hf⟩ := h1
    rcases open_ints Try.underlying23 Try.underlying22 (by kernel_rfl) hf with ⟨hcs, _⟩ | ⟨x, l, c, zs, hcs, _, hl, hm, hz, _, hcell, hwz⟩
    · simp [Value.cells] at hcs
      obtain ⟨rfl, rfl, rfl⟩ := hcs
      exact ⟨[], .inl ⟨rfl, rfl, rfl, rfl⟩⟩
    · simp [Value.cells] at hcs
      obtain ⟨rfl, rfl, rfl⟩ := hcs
      exact ⟨zs, .inr ⟨_, rfl, hl, hm, by simpa using hz, hcell, hwz⟩⟩
  obtain ⟨a2, len2, cap2, rfl⟩ := okWide_slice Try.underlying23 (hval 2 23 v2 rfl rfl)
  have k2 := h2
  have lt2 : ∀ x ∈ p2, x.block < W.heap.size := by obtain ⟨m, hm⟩ := k2; exact DataW.trod_lt m _ _ _ hm
  obtain ⟨z2, w2⟩ : ∃ zs, IsRow .u64 W a2 len2 cap2 zs := by
    obtain ⟨fuel, hf⟩ := h2
    rcases open_ints Try.underlying23 Try.underlying22 (by kernel_rfl) hf with ⟨hcs, _⟩ | ⟨x, l, c, zs, hcs, _, hl, hm, hz, _, hcell, hwz⟩
    · simp [Value.cells] at hcs
      obtain ⟨rfl, rfl, rfl⟩ := hcs
      exact ⟨[], .inl ⟨rfl, rfl, rfl, rfl⟩⟩
    · simp [Value.cells] at hcs
      obtain ⟨rfl, rfl, rfl⟩ := hcs
      exact ⟨zs, .inr ⟨_, rfl, hl, hm, by simpa using hz, hcell, hwz⟩⟩
  clear hA0 hval0
  refine (walk a0 a1 len1 cap1 z1 a2 len2 cap2 z2 W w0 w1 w2).mono fun e W' ⟨he, bel⟩ => ?_
  subst he
  exact ⟨_, rfl, _, _, _, [], _, [], hW', trodAll_mk1 (shut_bool Try.underlying4 _), (trodAll_cons_mk (shut_int Try.underlying22 w0) (trodAll_cons_mk (Below.trod laidOut (by kernel_rfl) (of_decide_eq_true (by kernel_rfl)) k1 bel lt1) (trodAll_cons_mk (Below.trod laidOut (by kernel_rfl) (of_decide_eq_true (by kernel_rfl)) k2 bel lt2) trodAll_mk0))), rfl, bel.frame _, fun h => by cases h⟩

theorem over : Rows.spongeStepsRow.holds Try.pinned (OpenSpec.ofChange Rows.spongeStepsSpec) :=
  OpenClaim.holds_of_wide 3 Try.f3 rfl rfl rfl rfl rfl rfl rfl ⟨rfl, rfl, rfl, rfl, rfl⟩ rfl rfl rfl rfl rfl (by kernel_rfl) Try.func3 (by kernel_rfl)
    (of_decide_eq_true (by kernel_rfl)) (by unfold Func.isWrapper; first | (rw [if_pos (by decide +kernel)]; kernel_rfl) | (rw [if_neg (by decide +kernel)]; exact ⟨rfl, rfl⟩))
    (fun os started H enc _ => lifted os started H enc)

/-- ████ THE STATEMENT ████ -/
theorem proved : Rows.SpongeStepsSaid := over
end Go.Proofs.Ytoogpkcpheannae.spongeSteps

namespace Go.Proofs.Ytoogpkcpheannae
/-- The given statement. -/
theorem spongeSteps_holds : Rows.SpongeStepsSaid := spongeSteps.proved
end Go.Proofs.Ytoogpkcpheannae
