/-
  Whatever list of numbers of 64 bits and whatever number is handed in, the law UniSays answers true and writes nothing that was there: Check, At and Coefs of package uni answer what the document's own answer (package tallyref) says; no condition.
-/
import Derived.Test.YtoogpkcpheannaaRows
import Derived.WalkKit
import Derived.Test.YtoogpkcpheannaaUni
import Derived.Test.YtoogpkcpheannaaRefUni
import Derived.ProofKit
import Derived.OpenShut
import Derived.ShutString
import Derived.ChangeOld
import Derived.Below
namespace Go.Proofs.Ytoogpkcpheannaa.uniSays
open Go.ChangeShapes Go.WideShapes Go.ChangeAt Go.RowKit
open Go.ChangeMaps (open_string shut_string)
set_option linter.unusedVariables false

theorem own : ownKnob Try.prog.godebug = none := by kernel_rfl
theorem laidOut : laidOutB Try.prog = true := by kernel_rfl

/-- WHAT THE WALK IS TOLD OF A SLICE OF INTEGERS THAT CAME IN: it is nil; or it leads to a row of 'cap' cells, the numbers 'zs' (the first 'len' are its elements, the rest its spare room), each fitting its kind. -/
def IsRow (k : IntKind) (w : World) (a : Option Addr) (len cap : Nat) (zs : List Int) : Prop :=
  (a = none ∧ len = 0 ∧ cap = 0 ∧ zs = []) ∨
  ∃ x, a = some x ∧ len ≤ cap ∧ cap ≤ maxLen ∧ zs.length = cap ∧ (∀ i, i < zs.length → w.cell? (x.add i) = some (.int k (zs.getD i 0))) ∧ ∀ n ∈ zs, (Lit.int k n).wf = true

attribute [local go_sem ↓] Go.wp_at_zero Go.wp_at_succ
theorem u64_rng {a : Int} (h : (Lit.int .u64 a).wf = true) : 0 ≤ a ∧ a ≤ 18446744073709551615 := by
  simp [Lit.wf, IntKind.min, IntKind.max, IntKind.signed, IntKind.bits] at h
  omega
theorem row_of {w : World} {a : Option Addr} {len cap : Nat} {zs : List Int} (h : IsRow .u64 w a len cap zs) (hl : 0 < len) :
    ∃ b off f, a = some ⟨b, off, none⟩ ∧ Row w b off len f ∧ Nums f := by
  rcases h with ⟨_, rfl, _⟩ | ⟨x, rfl, hc, _, hz, hcell, hwf⟩
  · omega
  · obtain ⟨b, off, rfl, hcs⟩ := ints_at hcell (by omega)
    refine ⟨b, off, fun j => zs.getD j 0, rfl, fun j hj => hcs j (by omega), fun j => ?_⟩
    dsimp only
    by_cases hj : j < zs.length
    · have : zs.getD j 0 = zs[j] := by simp [List.getD, hj]
      rw [this]
      exact u64_rng (hwf _ (List.getElem_mem hj))
    · have : zs.getD j 0 = 0 := by simp [List.getD, hj]
      rw [this]; omega

set_option maxHeartbeats 1000000 in
set_option maxRecDepth 100000 in
theorem walk_ok (b off n cap : Nat) (v : Nat → Int) (x : Int) (w : World) (hn1 : 1 ≤ n) (hn8 : n ≤ 8) (hr : Row w b off n v) (hv : Nums v) (x0 : 0 ≤ x) (x1 : x ≤ 18446744073709551615) :
    Calls Try.prog 4 #[.slice (some ⟨b, off, none⟩) n cap, .int .u64 x] w fun e w' => e = .returned (.bool true) ∧ Below w.heap.size w w' := by
  have hlt0 : b < w.heap.size := hr.lt (by omega)
  have HLT := hid hlt0
  have HR := hid hr
  have HV := hid hv
  have HA := hid (at_ok b off n cap v x w hn1 hn8 hr hv x0 x1)
  clear hr hv hlt0
  go_enter Try.func4, Try.ntmps4
  go_wp2_with (first
    | (go_at_call 18; refine (HA.out).mono ?_; rintro e w1 ⟨rfl, hb⟩; have HB := hid hb; have HR1 := hid (HR.out.kept hb HLT.out); clear hb HA)
    | (go_at_call 19; refine (coefs_ok b off n cap v _ hn1 hn8 HR1.out HV.out).mono ?_; rintro e w2 ⟨rfl, hm⟩; have HM := hid hm; clear hm)
    | (go_at_call 20; refine (check_ok _ _ _ _ hn1 hn8).mono ?_; rintro e w' ⟨rfl, hw⟩; obtain rfl := hw.symm))
  have HL := hid (fun k (hk : k < n) => sum_at v n k hk (by omega))
  go_loopg [55] n (fun g i wr => ∃ k : Nat, k ≤ n ∧ g = n - k ∧ i = .int .i64 (k : Int) ∧ Hid (Below w.heap.size w wr) ∧ Hid (Row wr b off n v) ∧ Hid (Row wr w1.heap.size 0 n (cfQ v n)))
  case atStart => exact ⟨0, by omega, rfl, rfl, hid (HB.out.trans (HM.out.below.mono HB.out.size)), hid (HR1.out.kept HM.out.below (HR1.out.lt (by omega))), hid HM.out.row⟩
  case round =>
    clear HM HB HR1
    obtain ⟨k, hk, rfl, rfl, HB, HR1, HR2⟩ := hrel
    by_cases hlt : k < n
    · have c1 := HR1.out k hlt
      obtain ⟨a, ha⟩ : ∃ a, v k = a := ⟨_, rfl⟩
      have ba := HV.out k
      have hs := HL.out k hlt
      rw [ha] at c1 ba hs
      obtain ⟨a0, a1⟩ := ba
      have hrc := fun w' (h : Row w' w1.heap.size 0 n (cfQ v n)) => rcoef_any w1.heap.size 0 n n (cfQ v n) (k : Int) w' (by omega) h (fun j => by have := cfQ_rng v n j; omega) (by omega) (by omega)
      rw [hs] at hrc
      have HC := hid hrc
      clear hrc hs ha
      have k0 : (0 : Int) ≤ (k : Int) := by omega
      have k1 : (k : Int) < (n : Int) := by omega
      have wk : IntKind.u64.wrap (k : Int) = (k : Int) := by rw [IntKind.wrap_u64]; omega
      go_wp2_with fail
      go_region_with (first | (go_at_call 21; refine (HC.out _ (by exact HR2.out)).mono ?_; rintro e w' ⟨rfl, hw⟩; obtain rfl := hw.symm) | (go_at_call 7; refine (rnorm_any _ _ (by omega) (by omega)).mono ?_; rintro e w' ⟨rfl, hw⟩; obtain rfl := hw.symm))
      all_goals (go_wp2_with fail)
      all_goals (go_roundg (n - (k + 1)))
      all_goals first | (go_light; omega) | (exact ⟨k + 1, by omega, rfl, by go_num, hid HB.out.drew, hid HR1.out.drew, hid HR2.out.drew⟩)
    · have e : k = n := by omega
      subst e
      have HT := hid (rat_any b off k cap v x wr (by omega) HR1.out HV.out x0 x1)
      go_wp2_with (go_at_call 22; refine (HT.out).mono ?_; rintro e w' ⟨rfl, hw⟩; obtain rfl := hw.symm)
      go_ret
      exact ⟨rfl, HB.out⟩
set_option maxHeartbeats 4000000 in
set_option maxRecDepth 100000 in
theorem walk (a0 : Option Addr) (len0 cap0 : Nat) (z0 : List Int) (a1 : Int) (w : World) (w0 : IsRow .u64 w a0 len0 cap0 z0) (w1 : (Lit.int .u64 a1).wf = true) :
    Calls Try.prog 4 #[.slice a0 len0 cap0, .int .u64 a1] w fun e w' => e = .returned (.bool true) ∧ Below w.heap.size w w' := by
  obtain ⟨x0, x1⟩ := u64_rng w1
  by_cases hn : 1 ≤ len0 ∧ len0 ≤ 8
  · obtain ⟨b, off, v, rfl, hr, hv⟩ := row_of w0 (by omega)
    exact walk_ok b off len0 cap0 v a1 w hn.1 hn.2 hr hv x0 x1
  · have h : len0 = 0 ∨ 8 < len0 := by omega
    have HA := hid (fun w => at_bad a0 len0 cap0 a1 w h)
    have HC := hid (fun w => coefs_bad a0 len0 cap0 w h)
    have HK := hid (fun w => check_bad a0 len0 cap0 w h)
    clear w0 w1 hn
    rcases h with rfl | h
    · go_enter Try.func4, Try.ntmps4
      go_wp2_with (first
        | (go_at_call 18; refine (HA.out _).mono ?_; rintro e w1 ⟨rfl, hw⟩; obtain rfl := hw.symm)
        | (go_at_call 19; refine (HC.out _).mono ?_; rintro e w1 ⟨rfl, hw⟩; obtain rfl := hw.symm)
        | (go_at_call 20; refine (HK.out _).mono ?_; rintro e w1 ⟨rfl, hw⟩; obtain rfl := hw.symm))
      go_ret
      exact ⟨rfl, Below.refl _ _⟩
    · go_enter Try.func4, Try.ntmps4
      go_wp2_with (first
        | (go_at_call 18; refine (HA.out _).mono ?_; rintro e w1 ⟨rfl, hw⟩; obtain rfl := hw.symm)
        | (go_at_call 19; refine (HC.out _).mono ?_; rintro e w1 ⟨rfl, hw⟩; obtain rfl := hw.symm)
        | (go_at_call 20; refine (HK.out _).mono ?_; rintro e w1 ⟨rfl, hw⟩; obtain rfl := hw.symm))
      go_ret
      exact ⟨rfl, Below.refl _ _⟩

set_option maxRecDepth 100000 in
theorem lifted (os : Os) (started : os.Started) (H : Type) (enc : TypeId × Value → H) :
    ReturnsInHanded {} Try.checked os 4 .any (Rows.uniSaysSpec.pre6 enc Try.prog Try.f4 Rows.uniSaysRow.domain false) (Rows.uniSaysSpec.post enc Try.prog Try.f4 false true false false) := by
  refine returnsInHanded_of_change (C := Try.checked) own started (by kernel_rfl) Try.func4
    (ChangeSpec.witness6 (enc := enc) (C := Try.checked) false ⟨#[], #[.slice none 0 0, .int .u64 0], []⟩ 8 (by kernel_rfl) (by kernel_rfl) (by kernel_rfl) (by kernel_rfl)) ?_
  intro W base args ds gs before hval0 hW hcnd _
  have hval : ∀ (j : Nat) t v, Try.f4.params[j]? = some t → args[j]? = some v → Value.okWide Try.prog W .any base t v := hval0
  have hW' := hW
  obtain ⟨p, q, hA0, hV, rfl, hfz, hnd⟩ := hW
  have hA : DataW.TrodAll enc Try.prog W 0 (fun _ => true) true Try.f4.params.toList args.toList ds p := hA0
  rw [Try.params4] at hA hval
  obtain ⟨v0, vs0, d0, ds0, p0, q0, hargs, rfl, rfl, h0, r0⟩ := trodAll_cons hA
  obtain ⟨v1, vs1, d1, ds1, p1, q1, rfl, rfl, rfl, h1, r1⟩ := trodAll_cons r0
  obtain ⟨rfl, rfl, rfl⟩ := trodAll_nil r1
  obtain rfl : args = #[v0, v1] := by cases args; simp_all
  obtain ⟨rfl, rfl⟩ := trodVars_none hV
  obtain ⟨a0, len0, cap0, rfl⟩ := okWide_slice Try.underlying29 (hval 0 29 v0 rfl rfl)
  have k0 := h0
  have lt0 : ∀ x ∈ p0, x.block < W.heap.size := by obtain ⟨m, hm⟩ := k0; exact DataW.trod_lt m _ _ _ hm
  obtain ⟨z0, w0⟩ : ∃ zs, IsRow .u64 W a0 len0 cap0 zs := by
    obtain ⟨fuel, hf⟩ := h0
    rcases open_ints Try.underlying29 Try.underlying22 (by kernel_rfl) hf with ⟨hcs, _⟩ | ⟨x, l, c, zs, hcs, _, hl, hm, hz, _, hcell, hwz⟩
    · simp [Value.cells] at hcs
      obtain ⟨rfl, rfl, rfl⟩ := hcs
      exact ⟨[], .inl ⟨rfl, rfl, rfl, rfl⟩⟩
    · simp [Value.cells] at hcs
      obtain ⟨rfl, rfl, rfl⟩ := hcs
      exact ⟨zs, .inr ⟨_, rfl, hl, hm, by simpa using hz, hcell, hwz⟩⟩
  obtain ⟨a1, rfl, rfl, rfl, w1⟩ := open_int Try.underlying22 (hval 1 22 v1 rfl rfl) h1
  clear hA0 hval0
  refine (walk a0 len0 cap0 z0 a1 W w0 w1).mono fun e W' ⟨he, bel⟩ => ?_
  subst he
  exact ⟨_, rfl, _, _, _, [], _, [], hW', trodAll_mk1 (shut_bool Try.underlying4 _), (trodAll_cons_mk (Below.trod laidOut (by kernel_rfl) (of_decide_eq_true (by kernel_rfl)) k0 bel lt0) (trodAll_cons_mk (shut_int Try.underlying22 w1) trodAll_mk0)), rfl, bel.frame _, fun h => by cases h⟩

theorem over : Rows.uniSaysRow.holds Try.pinned (OpenSpec.ofChange Rows.uniSaysSpec) :=
  OpenClaim.holds_of_wide 4 Try.f4 rfl rfl rfl rfl rfl rfl rfl ⟨rfl, rfl, rfl, rfl, rfl⟩ rfl rfl rfl rfl rfl (by kernel_rfl) Try.func4 (by kernel_rfl)
    (of_decide_eq_true (by kernel_rfl)) (by unfold Func.isWrapper; first | (rw [if_pos (by decide +kernel)]; kernel_rfl) | (rw [if_neg (by decide +kernel)]; exact ⟨rfl, rfl⟩))
    (fun os started H enc _ => lifted os started H enc)

/-- ████ THE STATEMENT ████ -/
theorem proved : Rows.UniSaysSaid := over
end Go.Proofs.Ytoogpkcpheannaa.uniSays

namespace Go.Proofs.Ytoogpkcpheannaa
/-- The given statement. -/
theorem uniSays_holds : Rows.UniSaysSaid := uniSays.proved
end Go.Proofs.Ytoogpkcpheannaa
