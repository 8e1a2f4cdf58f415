/-
  Whatever list of numbers of 64 bits is handed in, the law MleEq answers true and writes nothing that was there: Eq of package mle answers what the document's own answer (package tallyref) says; no condition.
-/
import Derived.Test.YtoogpkcpheannaaRows
import Derived.WalkKit
import Derived.Test.YtoogpkcpheannaaMleEqC
import Derived.Test.YtoogpkcpheannaaMleRef
import Derived.ProofKit
import Derived.OpenShut
import Derived.ShutString
import Derived.ChangeOld
import Derived.Below
namespace Go.Proofs.Ytoogpkcpheannaa.mleEq
open Go.ChangeShapes Go.WideShapes Go.ChangeAt Go.RowKit
open Go.ChangeMaps (open_string shut_string)
set_option linter.unusedVariables false

theorem own : ownKnob Try.prog.godebug = none := by kernel_rfl
theorem laidOut : laidOutB Try.prog = true := by kernel_rfl

/-- WHAT THE WALK IS TOLD OF A SLICE OF INTEGERS THAT CAME IN: it is nil; or it leads to a row of 'cap' cells, the numbers 'zs' (the first 'len' are its elements, the rest its spare room), each fitting its kind. -/
def IsRow (k : IntKind) (w : World) (a : Option Addr) (len cap : Nat) (zs : List Int) : Prop :=
  (a = none ∧ len = 0 ∧ cap = 0 ∧ zs = []) ∨
  ∃ x, a = some x ∧ len ≤ cap ∧ cap ≤ maxLen ∧ zs.length = cap ∧ (∀ i, i < zs.length → w.cell? (x.add i) = some (.int k (zs.getD i 0))) ∧ ∀ n ∈ zs, (Lit.int k n).wf = true

attribute [local go_sem ↓] Go.wp_at_zero Go.wp_at_succ
theorem u64_rng {a : Int} (h : (Lit.int .u64 a).wf = true) : 0 ≤ a ∧ a ≤ 18446744073709551615 := by
  simp [Lit.wf, IntKind.min, IntKind.max, IntKind.signed, IntKind.bits] at h
  omega
theorem row_of {w : World} {a : Option Addr} {len cap : Nat} {zs : List Int} (h : IsRow .u64 w a len cap zs) (hl : 0 < len) :
    ∃ b off f, a = some ⟨b, off, none⟩ ∧ Row w b off len f ∧ Nums f := by
  rcases h with ⟨_, rfl, _⟩ | ⟨x, rfl, hc, _, hz, hcell, hwf⟩
  · omega
  · obtain ⟨b, off, rfl, hcs⟩ := ints_at hcell (by omega)
    refine ⟨b, off, fun j => zs.getD j 0, rfl, fun j hj => hcs j (by omega), fun j => ?_⟩
    dsimp only
    by_cases hj : j < zs.length
    · have : zs.getD j 0 = zs[j] := by simp [List.getD, hj]
      rw [this]
      exact u64_rng (hwf _ (List.getElem_mem hj))
    · have : zs.getD j 0 = 0 := by simp [List.getD, hj]
      rw [this]; omega


set_option maxHeartbeats 2000000 in
set_option maxRecDepth 100000 in
theorem walk_ok (b off n cap N : Nat) (g : Nat → Int) (w : World) (hn1 : 1 ≤ n) (hn : n ≤ 8) (hN : N = 2 ^ n) (hr : Row w b off n g) (hv : Nums g) :
    Calls Try.prog 5 #[.slice (some ⟨b, off, none⟩) n cap] w fun e w' => e = .returned (.bool true) ∧ Below w.heap.size w w' := by
  have HLT := hid (hr.lt (by omega))
  have HR := hid hr
  have HV := hid hv
  have HE := hid (eq_ok b off n cap N g w hn hN hr hv)
  have hw := wrap_pow hn hN
  have hp := pow8 hn
  rw [← hN] at hp
  have HN := hid hN
  clear hr hv hN
  go_enter Try.func5, Try.ntmps5
  go_wp2_with (go_at_call 23; refine (HE.out).mono ?_; rintro e w1 ⟨rfl, hm⟩; have HM := hid hm; clear hm)
  clear hw HE
  have HRW := hid (HR.out.kept HM.out.below HLT.out)
  go_loopg [33] N (fun q i wr => ∃ k : Nat, k ≤ N ∧ q = N - k ∧ i = .int .i64 (k : Int) ∧ Hid (Below w.heap.size w wr) ∧ Hid (Row wr b off n g) ∧ Hid (Row wr w.heap.size 0 N (wgt g n)))
  case atStart => exact ⟨0, by omega, rfl, rfl, hid HM.out.below, HRW, hid HM.out.row⟩
  case round =>
    clear HM HRW
    obtain ⟨k, hk, rfl, rfl, HB, HR1, HR2⟩ := hrel
    by_cases hlt : k < N
    · have c1 := HR2.out k hlt
      rw [Nat.zero_add] at c1
      have hq := fun w' (h : Row w' b off n g) => req_any b off n cap g k w' (by omega) h HV.out (by omega)
      obtain ⟨a, ha⟩ : ∃ a, wgt g n k = a := ⟨_, rfl⟩
      rw [ha] at c1
      have ha' : ofK (eqK (fun j => kk (g j)) n k) = a := ha
      simp only [ha'] at hq
      have HC := hid hq
      clear hq ha ha'
      have k0 : (0 : Int) ≤ (k : Int) := by omega
      have k1 : (k : Int) < (N : Int) := by omega
      go_wp2_with fail
      go_region_with (first | (go_at_call 24; refine (HC.out _ (by exact HR1.out)).mono ?_; rintro e w' ⟨rfl, hw⟩; obtain rfl := hw.symm))
      all_goals (go_wp2_with fail)
      all_goals (go_roundg (N - (k + 1)))
      all_goals first | (go_light; omega) | (exact ⟨k + 1, by omega, rfl, by go_num, hid HB.out.drew, hid HR1.out.drew, hid HR2.out.drew⟩)
    · have e : k = N := by omega
      subst e
      go_wp2_with fail
      go_ret
      exact ⟨rfl, HB.out⟩

set_option maxHeartbeats 2000000 in
set_option maxRecDepth 100000 in
theorem walk_zero (ao : Option Addr) (cap : Nat) (w : World) :
    Calls Try.prog 5 #[.slice ao 0 cap] w fun e w' => e = .returned (.bool true) ∧ Below w.heap.size w w' := by
  have HE := hid (eq_zero ao cap (fun _ => 0) w)
  go_enter Try.func5, Try.ntmps5
  go_wp2_with (go_at_call 23; refine (HE.out).mono ?_; rintro e w1 ⟨rfl, hm⟩; have HM := hid hm; clear hm)
  clear HE
  go_loopg [33] 1 (fun q i wr => ∃ k : Nat, k ≤ 1 ∧ q = 1 - k ∧ i = .int .i64 (k : Int) ∧ Hid (Below w.heap.size w wr) ∧ Hid (Row wr w.heap.size 0 1 (wgt (fun _ => 0) 0)))
  case atStart => exact ⟨0, by omega, rfl, rfl, hid HM.out.below, hid HM.out.row⟩
  case round =>
    clear HM
    obtain ⟨k, hk, rfl, rfl, HB, HR2⟩ := hrel
    by_cases hlt : k < 1
    · obtain rfl : k = 0 := by omega
      have c1 := HR2.out 0 hlt
      rw [Nat.zero_add, show wgt (fun _ => 0) 0 0 = 1 from rfl] at c1
      have HC := hid (fun w => req_zero ao cap 0 w (by omega))
      go_wp2_with fail
      go_region_with (first | (go_at_call 24; refine (HC.out _).mono ?_; rintro e w' ⟨rfl, hw⟩; obtain rfl := hw.symm))
      all_goals (go_wp2_with fail)
      all_goals (go_roundg 0)
      all_goals first | (go_light; omega) | (exact ⟨1, by omega, rfl, by go_num, hid HB.out.drew, hid HR2.out.drew⟩)
    · have e : k = 1 := by omega
      subst e
      go_wp2_with fail
      go_ret
      exact ⟨rfl, HB.out⟩
set_option maxHeartbeats 4000000 in
set_option maxRecDepth 100000 in
theorem walk (a0 : Option Addr) (len0 cap0 : Nat) (z0 : List Int) (w : World) (w0 : IsRow .u64 w a0 len0 cap0 z0) :
    Calls Try.prog 5 #[.slice a0 len0 cap0] w fun e w' => e = .returned (.bool true) ∧ Below w.heap.size w w' := by
  by_cases hn : len0 ≤ 8
  · by_cases hn1 : 1 ≤ len0
    · obtain ⟨b, off, v, rfl, hr, hv⟩ := row_of w0 (by omega)
      exact walk_ok b off len0 cap0 _ v w hn1 hn rfl hr hv
    · obtain rfl : len0 = 0 := by omega
      exact walk_zero a0 cap0 w
  · have HE := hid (fun w => eq_bad a0 len0 cap0 w (by omega))
    clear w0
    go_enter Try.func5, Try.ntmps5
    go_wp2_with (go_at_call 23; refine (HE.out _).mono ?_; rintro e w1 ⟨rfl, hw⟩; obtain rfl := hw.symm)
    go_ret
    exact ⟨rfl, Below.refl _ _⟩

set_option maxRecDepth 100000 in
theorem lifted (os : Os) (started : os.Started) (H : Type) (enc : TypeId × Value → H) :
    ReturnsInHanded {} Try.checked os 5 .any (Rows.mleEqSpec.pre6 enc Try.prog Try.f5 Rows.mleEqRow.domain false) (Rows.mleEqSpec.post enc Try.prog Try.f5 false true false false) := by
  refine returnsInHanded_of_change (C := Try.checked) own started (by kernel_rfl) Try.func5
    (ChangeSpec.witness6 (enc := enc) (C := Try.checked) false ⟨#[], #[.slice none 0 0], []⟩ 8 (by kernel_rfl) (by kernel_rfl) (by kernel_rfl) (by kernel_rfl)) ?_
  intro W base args ds gs before hval0 hW hcnd _
  have hval : ∀ (j : Nat) t v, Try.f5.params[j]? = some t → args[j]? = some v → Value.okWide Try.prog W .any base t v := hval0
  have hW' := hW
  obtain ⟨p, q, hA0, hV, rfl, hfz, hnd⟩ := hW
  have hA : DataW.TrodAll enc Try.prog W 0 (fun _ => true) true Try.f5.params.toList args.toList ds p := hA0
  rw [Try.params5] at hA hval
  obtain ⟨v0, vs0, d0, ds0, p0, q0, hargs, rfl, rfl, h0, r0⟩ := trodAll_cons hA
  obtain ⟨rfl, rfl, rfl⟩ := trodAll_nil r0
  obtain rfl : args = #[v0] := by cases args; simp_all
  obtain ⟨rfl, rfl⟩ := trodVars_none hV
  obtain ⟨a0, len0, cap0, rfl⟩ := okWide_slice Try.underlying29 (hval 0 29 v0 rfl rfl)
  have k0 := h0
  have lt0 : ∀ x ∈ p0, x.block < W.heap.size := by obtain ⟨m, hm⟩ := k0; exact DataW.trod_lt m _ _ _ hm
  obtain ⟨z0, w0⟩ : ∃ zs, IsRow .u64 W a0 len0 cap0 zs := by
    obtain ⟨fuel, hf⟩ := h0
    rcases open_ints Try.underlying29 Try.underlying22 (by kernel_rfl) hf with ⟨hcs, _⟩ | ⟨x, l, c, zs, hcs, _, hl, hm, hz, _, hcell, hwz⟩
    · simp [Value.cells] at hcs
      obtain ⟨rfl, rfl, rfl⟩ := hcs
      exact ⟨[], .inl ⟨rfl, rfl, rfl, rfl⟩⟩
    · simp [Value.cells] at hcs
      obtain ⟨rfl, rfl, rfl⟩ := hcs
      exact ⟨zs, .inr ⟨_, rfl, hl, hm, by simpa using hz, hcell, hwz⟩⟩
  clear hA0 hval0
  refine (walk a0 len0 cap0 z0 W w0).mono fun e W' ⟨he, bel⟩ => ?_
  subst he
  exact ⟨_, rfl, _, _, _, [], _, [], hW', trodAll_mk1 (shut_bool Try.underlying4 _), (trodAll_cons_mk (Below.trod laidOut (by kernel_rfl) (of_decide_eq_true (by kernel_rfl)) k0 bel lt0) trodAll_mk0), rfl, bel.frame _, fun h => by cases h⟩

theorem over : Rows.mleEqRow.holds Try.pinned (OpenSpec.ofChange Rows.mleEqSpec) :=
  OpenClaim.holds_of_wide 5 Try.f5 rfl rfl rfl rfl rfl rfl rfl ⟨rfl, rfl, rfl, rfl, rfl⟩ rfl rfl rfl rfl rfl (by kernel_rfl) Try.func5 (by kernel_rfl)
    (of_decide_eq_true (by kernel_rfl)) (by unfold Func.isWrapper; first | (rw [if_pos (by decide +kernel)]; kernel_rfl) | (rw [if_neg (by decide +kernel)]; exact ⟨rfl, rfl⟩))
    (fun os started H enc _ => lifted os started H enc)

/-- ████ THE STATEMENT ████ -/
theorem proved : Rows.MleEqSaid := over
end Go.Proofs.Ytoogpkcpheannaa.mleEq

namespace Go.Proofs.Ytoogpkcpheannaa
/-- The given statement. -/
theorem mleEq_holds : Rows.MleEqSaid := mleEq.proved
end Go.Proofs.Ytoogpkcpheannaa
