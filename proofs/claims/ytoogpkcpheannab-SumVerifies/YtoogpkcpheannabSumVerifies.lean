/-
  Whatever claim, whatever list of rounds and whatever list of draws of numbers of 64 bits is handed in, the law SumVerifies answers true and writes nothing that was there: Verify of package sum answers what the document's own answer (package tallyref) says; no condition.
-/
import Derived.Test.YtoogpkcpheannabRows
import Derived.Test.YtoogpkcpheannabListsOpen
import Derived.WalkKit
import Derived.Test.YtoogpkcpheannabRefTold
import Derived.Test.YtoogpkcpheannabSumV
import Derived.ProofKit
import Derived.OpenShut
import Derived.ShutString
import Derived.ChangeOld
import Derived.Below
namespace Go.Proofs.Ytoogpkcpheannab.sumVerifies
open Go.ChangeShapes Go.WideShapes Go.ChangeAt Go.RowKit
open Go.ChangeMaps (open_string shut_string)
set_option linter.unusedVariables false

theorem own : ownKnob Try.prog.godebug = none := by kernel_rfl
theorem laidOut : laidOutB Try.prog = true := by kernel_rfl

/-- WHAT THE WALK IS TOLD OF A SLICE OF INTEGERS THAT CAME IN: it is nil; or it leads to a row of 'cap' cells, the numbers 'zs' (the first 'len' are its elements, the rest its spare room), each fitting its kind. -/
def IsRow (k : IntKind) (w : World) (a : Option Addr) (len cap : Nat) (zs : List Int) : Prop :=
  (a = none ∧ len = 0 ∧ cap = 0 ∧ zs = []) ∨
  ∃ x, a = some x ∧ len ≤ cap ∧ cap ≤ maxLen ∧ zs.length = cap ∧ (∀ i, i < zs.length → w.cell? (x.add i) = some (.int k (zs.getD i 0))) ∧ ∀ n ∈ zs, (Lit.int k n).wf = true

attribute [local go_sem ↓] Go.wp_at_zero Go.wp_at_succ
theorem row_of {w : World} {a : Option Addr} {len cap : Nat} {zs : List Int} (h : IsRow .u64 w a len cap zs) (hl : 0 < len) :
    ∃ b off f, a = some ⟨b, off, none⟩ ∧ Row w b off len f ∧ Nums f := by
  rcases h with ⟨_, rfl, _⟩ | ⟨x, rfl, hc, _, hz, hcell, hwf⟩
  · omega
  · obtain ⟨b, off, rfl, hcs⟩ := ints_at hcell (by omega)
    exact ⟨b, off, fun j => zs.getD j 0, rfl, fun j hj => hcs j (by omega), nums_of_wf hwf⟩
theorem Nums_zero : Nums (fun _ => 0) := fun _ => by dsimp only; omega
theorem prow_of {w : World} {a : Option Addr} {len cap : Nat} {zs : List Int} (h : IsRow .u64 w a len cap zs) : ∃ g, PRow w a len g ∧ Nums g := by
  by_cases hl : 0 < len
  · obtain ⟨b, off, f, e, hr, hv⟩ := row_of h hl
    exact ⟨f, fun _ => ⟨b, off, e, hr⟩, hv⟩
  · exact ⟨fun _ => 0, fun h => absurd h hl, Nums_zero⟩
theorem len_max {w : World} {a : Option Addr} {len cap : Nat} {zs : List Int} (h : IsRow .u64 w a len cap zs) : len ≤ maxLen := by
  rcases h with ⟨_, rfl, _⟩ | ⟨_, _, h1, h2, _⟩
  · exact Nat.zero_le _
  · exact Nat.le_trans h1 h2
theorem i64_rng {a : Int} (h : (Lit.int .i64 a).wf = true) : -9223372036854775808 ≤ a ∧ a ≤ 9223372036854775807 := by
  simp [Lit.wf, IntKind.min, IntKind.max, IntKind.signed, IntKind.bits] at h
  omega

set_option maxHeartbeats 1000000 in
theorem v_many (a1 a2 : Option Addr) (m cap1 nd cap2 : Nat) (claim : Int) (w : World) (h : 40 < m) :
    Calls Try.prog 3 #[.int .u64 claim, .slice a1 m cap1, .slice a2 nd cap2] w fun e w' => e = .returned (.bool true) ∧ Below w.heap.size w w' := by
  have h1 : (40 : Int) < (m : Int) := by omega
  go_enter Try.func3, Try.ntmps3
  go_wp2_with fail
  go_ret
  exact ⟨rfl, Below.refl _ _⟩
set_option maxHeartbeats 4000000 in
set_option maxRecDepth 100000 in
theorem v_arg (a1 a2 : Option Addr) (m cap1 nd cap2 : Nat) (A : Nat → Option Addr) (L C : Nat → Nat) (F : Nat → Nat → Int) (claim : Int) (w : World) (hm : m ≤ 40) (hl : LRow w a1 m A L C F) (h : m ≠ nd) :
    Calls Try.prog 3 #[.int .u64 claim, .slice a1 m cap1, .slice a2 nd cap2] w fun e w' => e = .returned (.bool true) ∧ Below w.heap.size w w' := by
  have h1 : ¬ ((40 : Int) < (m : Int)) := by omega
  have hb : ((m : Int) != (nd : Int)) = true := bne_iff_ne.2 (by omega)
  have HVE := hid (verify_arg a1 a2 m cap1 nd cap2 claim w h)
  have HL := hid hl
  clear hl h
  go_enter Try.func3, Try.ntmps3
  go_wp2_with fail
  go_loopg [7, 25] m (fun q x i wr => ∃ k : Nat, k ≤ m ∧ q = m - k ∧ x = .int .i64 1 ∧ i = .int .i64 (k : Int) ∧ wr = w)
  case atStart => exact ⟨0, by omega, rfl, rfl, rfl, rfl⟩
  case round =>
    obtain ⟨k, hk, rfl, rfl, rfl, hw⟩ := hrel
    obtain rfl := hw.symm
    by_cases hlt : k < m
    · obtain ⟨B, o, rfl, hr⟩ := HL.out (by omega)
      have c1 := (hr k hlt).1
      clear hr
      have k0 : (0 : Int) ≤ (k : Int) := by omega
      have k1 : (k : Int) < (m : Int) := by omega
      go_wp2_with fail
      go_roundg (m - (k + 1))
      case measure => go_light; omega
      case rel => exact ⟨k + 1, by omega, rfl, rfl, by go_num, rfl⟩
    · have e : k = m := by omega
      subst e
      go_wp2_with (go_at_call 7; refine (HVE.out).mono ?_; rintro e w' ⟨rfl, hw⟩; obtain rfl := hw.symm)
      go_ret
      exact ⟨rfl, Below.refl _ _⟩
set_option maxHeartbeats 4000000 in
set_option maxRecDepth 100000 in
theorem v_form (a1 a2 : Option Addr) (m cap1 cap2 : Nat) (A : Nat → Option Addr) (L C : Nat → Nat) (F : Nat → Nat → Int) (claim : Int) (w : World) (hm : m ≤ 40) (hl : LRow w a1 m A L C F) (hno : ∀ c, ¬ (2 ≤ c ∧ c ≤ 8 ∧ ∀ i, i < m → L i = c)) :
    Calls Try.prog 3 #[.int .u64 claim, .slice a1 m cap1, .slice a2 m cap2] w fun e w' => e = .returned (.bool true) ∧ Below w.heap.size w w' := by
  have h1 : ¬ ((40 : Int) < (m : Int)) := by omega
  have HVE := hid (verify_form a1 a2 m cap1 cap2 A L C F claim w (by omega) hl hno)
  have HL := hid hl
  have HNO := hid hno
  clear hl hno
  go_enter Try.func3, Try.ntmps3
  go_wp2_with fail
  go_loopg [7, 25] m (fun q x i wr => ∃ (k : Nat) (z : Int), k ≤ m ∧ q = m - k ∧ x = .int .i64 z ∧ i = .int .i64 (k : Int) ∧ wr = w ∧ Hid (z = 4 ∨ (z = 0 ∧ ∀ i, i < k → 2 ≤ L i ∧ L i ≤ 8 ∧ L i = L 0)))
  case atStart => exact ⟨0, 0, by omega, rfl, rfl, rfl, rfl, hid (.inr ⟨rfl, fun i hi => absurd hi (by omega)⟩)⟩
  case round =>
    obtain ⟨k, z, hk, rfl, rfl, rfl, hw, HZ⟩ := hrel
    obtain rfl := hw.symm
    by_cases hlt : k < m
    · obtain ⟨B, o, rfl, hr⟩ := HL.out (by omega)
      have c1 := (hr k hlt).1
      have c0 := (hr 0 (by omega)).1
      rw [Nat.add_zero] at c0
      clear hr
      have k0 : (0 : Int) ≤ (k : Int) := by omega
      have k1 : (k : Int) < (m : Int) := by omega
      have k2 : (0 : Int) < (m : Int) := by omega
      rcases HZ.out with rfl | ⟨rfl, hz⟩
      · go_wp2_with fail
        go_roundg (m - (k + 1))
        case measure => go_light; omega
        case rel => exact ⟨k + 1, 4, by omega, rfl, rfl, by go_num, rfl, hid (.inl rfl)⟩
      · have HZZ := hid hz
        clear hz HZ
        by_cases g1 : L k < 2
        · have g1' : (L k : Int) < 2 := by omega
          go_wp2_with fail
          go_roundg (m - (k + 1))
          case measure => go_light; omega
          case rel => exact ⟨k + 1, 4, by omega, rfl, rfl, by go_num, rfl, hid (.inl rfl)⟩
        · have g1' : ¬ (L k : Int) < 2 := by omega
          by_cases g2 : 8 < L k
          · have g2' : (8 : Int) < (L k : Int) := by omega
            go_wp2_with fail
            go_roundg (m - (k + 1))
            case measure => go_light; omega
            case rel => exact ⟨k + 1, 4, by omega, rfl, rfl, by go_num, rfl, hid (.inl rfl)⟩
          · have g2' : ¬ (8 : Int) < (L k : Int) := by omega
            by_cases g3 : L k = L 0
            · have hb : ((L k : Int) != (L 0 : Int)) = false := by rw [g3]; simp
              have HZ2 : Hid (∀ i, i < k + 1 → 2 ≤ L i ∧ L i ≤ 8 ∧ L i = L 0) := hid (fun i hi => by
                by_cases e2 : i = k
                · subst e2; exact ⟨by omega, by omega, g3⟩
                · exact HZZ.out i (by omega))
              clear g1 g2 g3
              go_wp2_with fail
              go_roundg (m - (k + 1))
              case measure => go_light; omega
              case rel => exact ⟨k + 1, 0, by omega, rfl, rfl, by go_num, rfl, hid (.inr ⟨rfl, HZ2.out⟩)⟩
            · have hb : ((L k : Int) != (L 0 : Int)) = true := bne_iff_ne.2 (by omega)
              clear g1 g2 g3
              go_wp2_with fail
              go_roundg (m - (k + 1))
              case measure => go_light; omega
              case rel => exact ⟨k + 1, 4, by omega, rfl, rfl, by go_num, rfl, hid (.inl rfl)⟩
    · have e : k = m := by omega
      subst e
      have hz : z = 4 := by
        rcases HZ.out with h | ⟨_, h⟩
        · exact h
        · by_cases h0 : k = 0
          · exact absurd ⟨Nat.le_refl 2, by omega, fun i hi => absurd hi (by omega)⟩ (HNO.out 2)
          · exact absurd ⟨(h 0 (by omega)).1, (h 0 (by omega)).2.1, fun i hi => (h i hi).2.2⟩ (HNO.out (L 0))
      subst hz
      clear HZ
      go_wp2_with (go_at_call 7; refine (HVE.out).mono ?_; rintro e w' ⟨rfl, hw⟩; obtain rfl := hw.symm)
      go_ret
      exact ⟨rfl, Below.refl _ _⟩
set_option maxHeartbeats 4000000 in
set_option maxRecDepth 100000 in
theorem v_both (a1 a2 : Option Addr) (m cap1 cap2 c : Nat) (A : Nat → Option Addr) (L C : Nat → Nat) (F : Nat → Nat → Int) (D : Nat → Int) (claim y : Int) (ok : Bool) (w : World) (hm : m ≤ 40) (hc2 : 2 ≤ c) (hc : c ≤ 8) (hl : LRow w a1 m A L C F) (hL : ∀ i, i < m → L i = c) (hd : PRow w a2 m D)
    (ht : Calls Try.prog 6 #[.int .u64 claim, .slice a1 m cap1, .slice a2 m cap2] w fun e w' => e = .returned (.tuple #[.int .u64 y, .bool ok]) ∧ Below w.heap.size w w')
    (hve : ∀ w1, LRow w1 a1 m A L C F → PRow w1 a2 m D → Calls Try.prog 7 #[.int .u64 claim, .slice a1 m cap1, .slice a2 m cap2] w1 fun e w' => e = .returned (.tuple #[.int .u64 y, .bool ok, .int .i64 0]) ∧ Below w1.heap.size w1 w') :
    Calls Try.prog 3 #[.int .u64 claim, .slice a1 m cap1, .slice a2 m cap2] w fun e w' => e = .returned (.bool true) ∧ Below w.heap.size w w' := by
  have h1 : ¬ ((40 : Int) < (m : Int)) := by omega
  have HVE := hid hve
  have HTO := hid ht
  have HL := hid hl
  have HD := hid hd
  have HLL := hid hL
  clear hl hL hd ht hve
  have g1 : ¬ (c : Int) < 2 := by omega
  have g2 : ¬ (8 : Int) < (c : Int) := by omega
  go_enter Try.func3, Try.ntmps3
  go_wp2_with fail
  go_loopg [7, 25] m (fun q x i wr => ∃ k : Nat, k ≤ m ∧ q = m - k ∧ x = .int .i64 0 ∧ i = .int .i64 (k : Int) ∧ wr = w)
  case atStart => exact ⟨0, by omega, rfl, rfl, rfl, rfl⟩
  case round =>
    obtain ⟨k, hk, rfl, rfl, rfl, hw⟩ := hrel
    obtain rfl := hw.symm
    by_cases hlt : k < m
    · obtain ⟨B, o, rfl, hr⟩ := HL.out (by omega)
      have c1 := (hr k hlt).1
      have c0 := (hr 0 (by omega)).1
      rw [HLL.out k hlt] at c1
      rw [HLL.out 0 (by omega), Nat.add_zero] at c0
      clear hr
      have k0 : (0 : Int) ≤ (k : Int) := by omega
      have k1 : (k : Int) < (m : Int) := by omega
      have k2 : (0 : Int) < (m : Int) := by omega
      go_wp2_with fail
      go_roundg (m - (k + 1))
      case measure => go_light; omega
      case rel => exact ⟨k + 1, by omega, rfl, rfl, by go_num, rfl⟩
    · have e : k = m := by omega
      subst e
      go_wp2_with (first
        | (go_at_call 6; refine (HTO.out).mono ?_; rintro e w1 ⟨rfl, hb⟩; have HB := hid hb; clear hb)
        | (go_at_call 7; refine (HVE.out _ (HL.out.kept HB.out) (HD.out.kept HB.out)).mono ?_; rintro e w2 ⟨rfl, hb⟩; have HB2 := hid hb; clear hb))
      go_ret
      exact ⟨by cases ok <;> simp, HB.out.trans (HB2.out.mono HB.out.size)⟩
theorem v_form_of (m : Nat) (L : Nat → Nat) : (∃ c, 2 ≤ c ∧ c ≤ 8 ∧ ∀ i, i < m → L i = c) ∨ ∀ c, ¬ (2 ≤ c ∧ c ≤ 8 ∧ ∀ i, i < m → L i = c) := by
  by_cases h : ∃ c, 2 ≤ c ∧ c ≤ 8 ∧ ∀ i, i < m → L i = c
  · exact .inl h
  · exact .inr fun c hc => h ⟨c, hc⟩

set_option maxHeartbeats 4000000 in
set_option maxRecDepth 100000 in
theorem walk (a0 : Int) (a1 : Option Addr) (len1 cap1 : Nat) (A1 : Nat → Option Addr) (L1 C1 : Nat → Nat) (F1 : Nat → Nat → Int) (a2 : Option Addr) (len2 cap2 : Nat) (z2 : List Int) (w : World) (w0 : (Lit.int .u64 a0).wf = true) (w1 : IsLists w a1 len1 cap1 A1 L1 C1 F1) (w2 : IsRow .u64 w a2 len2 cap2 z2) :
    Calls Try.prog 3 #[.int .u64 a0, .slice a1 len1 cap1, .slice a2 len2 cap2] w fun e w' => e = .returned (.bool true) ∧ Below w.heap.size w w' := by
  obtain ⟨c0, c1⟩ := u64_of_wf w0
  obtain ⟨hl, hmax, hF, _⟩ := w1
  obtain ⟨D, hd, hD⟩ := prow_of w2
  by_cases hm : 40 < len1
  · exact v_many a1 a2 len1 cap1 len2 cap2 a0 w hm
  · by_cases hne : len1 = len2
    · subst hne
      rcases v_form_of len1 L1 with ⟨c, hc2, hc, hL⟩ | hno
      · rcases first_no (fun k => addQ (F1 k 0) (F1 k 1) = toldQ (nrm a0) F1 c D k) len1 with hall | ⟨t, ht, hno, hall⟩
        · refine v_both a1 a2 len1 cap1 cap2 c A1 L1 C1 F1 D a0 (toldQ (nrm a0) F1 c D len1) true w (by omega) hc2 hc hl hL hd ?_ ?_
          · rw [← told_nrm]
            exact told_ok a1 a2 len1 cap1 cap2 c A1 L1 C1 F1 D a0 w (by omega) hc2 (by omega) c0 c1 hl hL (fun i hi => (hF i hi).1) hd hD (fun k hk => by rw [told_nrm]; exact hall k hk)
          · exact fun w1 hl1 hd1 => verify_ok a1 a2 len1 cap1 cap2 c A1 L1 C1 F1 D a0 w1 (by omega) hc2 hc c0 c1 hl1 hL (fun i hi => (hF i hi).1) hd1 hD hall
        · refine v_both a1 a2 len1 cap1 cap2 c A1 L1 C1 F1 D a0 0 false w (by omega) hc2 hc hl hL hd ?_ ?_
          · exact told_bad a1 a2 len1 cap1 cap2 c A1 L1 C1 F1 D a0 w (by omega) hc2 (by omega) c0 c1 hl hL (fun i hi => (hF i hi).1) hd hD t ht (fun k hk => by rw [told_nrm]; exact hall k hk) (by rw [told_nrm]; exact hno)
          · exact fun w1 hl1 hd1 => verify_bad a1 a2 len1 cap1 cap2 c A1 L1 C1 F1 D a0 w1 (by omega) hc2 hc c0 c1 hl1 hL (fun i hi => (hF i hi).1) hd1 hD t ht hall hno
      · exact v_form a1 a2 len1 cap1 cap2 A1 L1 C1 F1 a0 w (by omega) hl hno
    · exact v_arg a1 a2 len1 cap1 len2 cap2 A1 L1 C1 F1 a0 w (by omega) hl hne

set_option maxRecDepth 100000 in
theorem lifted (os : Os) (started : os.Started) (H : Type) (enc : TypeId × Value → H) :
    ReturnsInHanded {} Try.checked os 3 .any (Rows.sumVerifiesSpec.pre6 enc Try.prog Try.f3 Rows.sumVerifiesRow.domain false) (Rows.sumVerifiesSpec.post enc Try.prog Try.f3 false true false false) := by
  refine returnsInHanded_of_change (C := Try.checked) own started (by kernel_rfl) Try.func3
    (ChangeSpec.witness6 (enc := enc) (C := Try.checked) false ⟨#[], #[.int .u64 0, .slice none 0 0, .slice none 0 0], []⟩ 8 (by kernel_rfl) (by kernel_rfl) (by kernel_rfl) (by kernel_rfl)) ?_
  intro W base args ds gs before hval0 hW hcnd _
  have hval : ∀ (j : Nat) t v, Try.f3.params[j]? = some t → args[j]? = some v → Value.okWide Try.prog W .any base t v := hval0
  have hW' := hW
  obtain ⟨p, q, hA0, hV, rfl, hfz, hnd⟩ := hW
  have hA : DataW.TrodAll enc Try.prog W 0 (fun _ => true) true Try.f3.params.toList args.toList ds p := hA0
  rw [Try.params3] at hA hval
  obtain ⟨v0, vs0, d0, ds0, p0, q0, hargs, rfl, rfl, h0, r0⟩ := trodAll_cons hA
  obtain ⟨v1, vs1, d1, ds1, p1, q1, rfl, rfl, rfl, h1, r1⟩ := trodAll_cons r0
  obtain ⟨v2, vs2, d2, ds2, p2, q2, rfl, rfl, rfl, h2, r2⟩ := trodAll_cons r1
  obtain ⟨rfl, rfl, rfl⟩ := trodAll_nil r2
  obtain rfl : args = #[v0, v1, v2] := by cases args; simp_all
  obtain ⟨rfl, rfl⟩ := trodVars_none hV
  obtain ⟨a0, rfl, rfl, rfl, w0⟩ := open_int Try.underlying22 (hval 0 22 v0 rfl rfl) h0
  obtain ⟨a1, len1, cap1, rfl⟩ := okWide_slice Try.underlying23 (hval 1 23 v1 rfl rfl)
  have k1 := h1
  have lt1 : ∀ x ∈ p1, x.block < W.heap.size := by obtain ⟨m, hm⟩ := k1; exact DataW.trod_lt m _ _ _ hm
  obtain ⟨A1, L1, C1, F1, w1⟩ : ∃ A L C F, IsLists W a1 len1 cap1 A L C F := by
    obtain ⟨fuel, hf⟩ := h1
    exact lists_of hf
  obtain ⟨a2, len2, cap2, rfl⟩ := okWide_slice Try.underlying24 (hval 2 24 v2 rfl rfl)
  have k2 := h2
  have lt2 : ∀ x ∈ p2, x.block < W.heap.size := by obtain ⟨m, hm⟩ := k2; exact DataW.trod_lt m _ _ _ hm
  obtain ⟨z2, w2⟩ : ∃ zs, IsRow .u64 W a2 len2 cap2 zs := by
    obtain ⟨fuel, hf⟩ := h2
    rcases open_ints Try.underlying24 Try.underlying22 (by kernel_rfl) hf with ⟨hcs, _⟩ | ⟨x, l, c, zs, hcs, _, hl, hm, hz, _, hcell, hwz⟩
    · simp [Value.cells] at hcs
      obtain ⟨rfl, rfl, rfl⟩ := hcs
      exact ⟨[], .inl ⟨rfl, rfl, rfl, rfl⟩⟩
    · simp [Value.cells] at hcs
      obtain ⟨rfl, rfl, rfl⟩ := hcs
      exact ⟨zs, .inr ⟨_, rfl, hl, hm, by simpa using hz, hcell, hwz⟩⟩
  clear hA0 hval0
  refine (walk a0 a1 len1 cap1 A1 L1 C1 F1 a2 len2 cap2 z2 W w0 w1 w2).mono fun e W' ⟨he, bel⟩ => ?_
  subst he
  exact ⟨_, rfl, _, _, _, [], _, [], hW', trodAll_mk1 (shut_bool Try.underlying4 _), (trodAll_cons_mk (shut_int Try.underlying22 w0) (trodAll_cons_mk (Below.trod laidOut (by kernel_rfl) (of_decide_eq_true (by kernel_rfl)) k1 bel lt1) (trodAll_cons_mk (Below.trod laidOut (by kernel_rfl) (of_decide_eq_true (by kernel_rfl)) k2 bel lt2) trodAll_mk0))), rfl, bel.frame _, fun h => by cases h⟩

theorem over : Rows.sumVerifiesRow.holds Try.pinned (OpenSpec.ofChange Rows.sumVerifiesSpec) :=
  OpenClaim.holds_of_wide 3 Try.f3 rfl rfl rfl rfl rfl rfl rfl ⟨rfl, rfl, rfl, rfl, rfl⟩ rfl rfl rfl rfl rfl (by kernel_rfl) Try.func3 (by kernel_rfl)
    (of_decide_eq_true (by kernel_rfl)) (by unfold Func.isWrapper; first | (rw [if_pos (by decide +kernel)]; kernel_rfl) | (rw [if_neg (by decide +kernel)]; exact ⟨rfl, rfl⟩))
    (fun os started H enc _ => lifted os started H enc)

/-- ████ THE STATEMENT ████ -/
theorem proved : Rows.SumVerifiesSaid := over
end Go.Proofs.Ytoogpkcpheannab.sumVerifies

namespace Go.Proofs.Ytoogpkcpheannab
/-- The given statement. -/
theorem sumVerifies_holds : Rows.SumVerifiesSaid := sumVerifies.proved
end Go.Proofs.Ytoogpkcpheannab
