/-
  Whatever two lists of numbers of 64 bits and whatever number are handed in, the law UniValues answers true and writes nothing that was there: at 0, 1, 2 a polynomial has its values, sums of values are values of sums, one value more that it has leaves it as it is; no condition.
-/
import Derived.Test.YtoogpkcpheannadRows
import Derived.WalkKit
import Derived.Test.YtoogpkcpheannadUni
import Derived.Test.YtoogpkcpheannadUniMore
import Derived.ProofKit
import Derived.OpenShut
import Derived.ShutString
import Derived.ChangeOld
import Derived.Below
namespace Go.Proofs.Ytoogpkcpheannad.uniValues
open Go.ChangeShapes Go.WideShapes Go.ChangeAt Go.RowKit
open Go.ChangeMaps (open_string shut_string)
set_option linter.unusedVariables false

theorem own : ownKnob Try.prog.godebug = none := by kernel_rfl
theorem laidOut : laidOutB Try.prog = true := by kernel_rfl

/-- WHAT THE WALK IS TOLD OF A SLICE OF INTEGERS THAT CAME IN: it is nil; or it leads to a row of 'cap' cells, the numbers 'zs' (the first 'len' are its elements, the rest its spare room), each fitting its kind. -/
def IsRow (k : IntKind) (w : World) (a : Option Addr) (len cap : Nat) (zs : List Int) : Prop :=
  (a = none ∧ len = 0 ∧ cap = 0 ∧ zs = []) ∨
  ∃ x, a = some x ∧ len ≤ cap ∧ cap ≤ maxLen ∧ zs.length = cap ∧ (∀ i, i < zs.length → w.cell? (x.add i) = some (.int k (zs.getD i 0))) ∧ ∀ n ∈ zs, (Lit.int k n).wf = true

attribute [local go_sem ↓] Go.wp_at_zero Go.wp_at_succ
theorem u64_rng {a : Int} (h : (Lit.int .u64 a).wf = true) : 0 ≤ a ∧ a ≤ 18446744073709551615 := by
  simp [Lit.wf, IntKind.min, IntKind.max, IntKind.signed, IntKind.bits] at h
  omega
theorem row_of {w : World} {a : Option Addr} {len cap : Nat} {zs : List Int} (h : IsRow .u64 w a len cap zs) (hl : 0 < len) :
    ∃ b off f, a = some ⟨b, off, none⟩ ∧ Row w b off len f ∧ Nums f := by
  rcases h with ⟨_, rfl, _⟩ | ⟨x, rfl, hc, _, hz, hcell, hwf⟩
  · omega
  · obtain ⟨b, off, rfl, hcs⟩ := ints_at hcell (by omega)
    refine ⟨b, off, fun j => zs.getD j 0, rfl, fun j hj => hcs j (by omega), fun j => ?_⟩
    dsimp only
    by_cases hj : j < zs.length
    · have : zs.getD j 0 = zs[j] := by simp [List.getD, hj]
      rw [this]
      exact u64_rng (hwf _ (List.getElem_mem hj))
    · have : zs.getD j 0 = 0 := by simp [List.getD, hj]
      rw [this]; omega

set_option maxHeartbeats 400000 in
set_option maxRecDepth 100000 in
theorem walk_bad (ao : Option Addr) (n cap : Nat) (bo : Option Addr) (m cap2 : Nat) (x : Int) (w : World) (h : n = 0 ∨ 8 < n) :
    Calls Try.prog 4 #[.slice ao n cap, .slice bo m cap2, .int .u64 x] w fun e w' => e = .returned (.bool true) ∧ Below w.heap.size w w' := by
  have HA := hid (fun w => at_bad ao n cap x w h)
  have HK := hid (fun w => check_bad ao n cap w h)
  clear h
  go_enter Try.func4, Try.ntmps4
  go_wp2_with fail
  refine (lit_at w).mono ?_
  rintro e w1 ⟨rfl, hb⟩
  have HB := hid hb
  clear hb
  go_wp2_with (first | (go_at_call 12; refine (HK.out _).mono ?_; rintro e w2 ⟨rfl, hw⟩; obtain rfl := hw.symm) | (go_at_call 11; refine (HA.out _).mono ?_; rintro e w2 ⟨rfl, hw⟩; obtain rfl := hw.symm))
  go_ret
  exact ⟨rfl, HB.out⟩

set_option maxHeartbeats 1000000 in
set_option maxRecDepth 100000 in
theorem walk_other (b off n cap : Nat) (v : Nat → Int) (bo : Option Addr) (m cap2 : Nat) (x : Int) (w : World) (hn1 : 1 ≤ n) (hn8 : n ≤ 8) (hm : n ≠ m) (hr : Row w b off n v) (hv : Nums v) (x0 : 0 ≤ x) (x1 : x ≤ 18446744073709551615) :
    Calls Try.prog 4 #[.slice (some ⟨b, off, none⟩) n cap, .slice bo m cap2, .int .u64 x] w fun e w' => e = .returned (.bool true) ∧ Below w.heap.size w w' := by
  have HAT := hid (fun (x : Int) (w' : World) (x0 : 0 ≤ x) (x1 : x ≤ 18446744073709551615) (hb : Below w.heap.size w w') => at_on b off n cap v x w w' hn1 hn8 hr hv x0 x1 hb)
  have HLT := hid (hr.lt (by omega))
  have HR := hid hr
  have HV := hid hv
  clear hr hv
  go_enter Try.func4, Try.ntmps4
  go_wp2_with fail
  refine (lit_at w).mono ?_
  rintro e w1 ⟨rfl, hb⟩
  have HB := hid hb
  clear hb
  go_wp2_with fail
  refine (check_ok _ _ _ _ hn1 hn8).mono ?_
  rintro e w2 ⟨rfl, hw⟩
  obtain rfl := hw.symm
  go_wp2_with fail
  go_loopg [50] n (fun g i wr => ∃ k : Nat, k ≤ n ∧ g = n - k ∧ i = .int .i64 (k : Int) ∧ Hid (Below w.heap.size w wr))
  case atStart => exact ⟨0, by omega, rfl, rfl, HB⟩
  case round =>
    clear HB
    obtain ⟨k, hk, rfl, rfl, HB⟩ := hrel
    by_cases hlt : k < n
    · have ha := HAT.out (k : Int) wr (by omega) (by omega) HB.out
      rw [at_self v n k hlt (by omega)] at ha
      have hc := HR.out k hlt
      obtain ⟨a, hva⟩ : ∃ a, v k = a := ⟨_, rfl⟩
      have ba := HV.out k
      rw [hva] at ha hc ba
      obtain ⟨a0, a1⟩ := ba
      have HA := hid ha
      have HC := hid hc
      clear ha hc hva
      go_wp2_with (first
        | (go_at_call 11; refine (HA.out).mono ?_; rintro e w3 ⟨rfl, hb⟩; have c3 := (hb.cell (p := ⟨b, off + k, none⟩) HLT.out).trans HC.out; have HB3 := hid hb; clear hb)
        | (go_at_call 9; refine (norm_any _ _ (by omega) (by omega)).mono ?_; rintro e w4 ⟨rfl, hw⟩; obtain rfl := hw.symm))
      go_roundg (n - (k + 1))
      case measure => go_light; omega
      case rel => exact ⟨k + 1, by omega, rfl, by go_num, HB3⟩
    · have e : k = n := by omega
      subst e
      have hmb : ((k : Int) == (m : Int)) = false := beq_eq_false_iff_ne.2 (by omega)
      clear hlt hk hm
      go_wp2_with fail
      refine (HAT.out x _ x0 x1 HB.out).mono ?_
      rintro e w3 ⟨rfl, hb⟩
      have HB3 := hid hb
      clear hb HB
      by_cases h8 : k = 8
      · subst h8
        go_wp2_with fail
        go_ret
        exact ⟨rfl, HB3.out⟩
      · have h8b : ((k : Int) == 8) = false := beq_eq_false_iff_ne.2 (by omega)
        have h7 : k ≤ 7 := by omega
        clear h8
        go_wp2_with fail
        refine (HAT.out (k : Int) _ (by omega) (by omega) HB3.out).mono ?_
        rintro e w4 ⟨rfl, hb⟩
        have HB4 := hid hb
        clear hb HB3
        obtain ⟨y, hy⟩ : ∃ y, atQ v k (k : Int) = y := ⟨_, rfl⟩
        rw [hy]
        have HY := hid hy
        clear hy
        go_wp2_with fail
        refine (clone_any b off k cap v w4 hn1 (by omega) (HR.out.kept HB4.out HLT.out)).mono ?_
        rintro e w5 ⟨g, c, rfl, hown, hb⟩
        have HO := hid hown
        have HB5 := hid hb
        clear hown hb
        obtain ⟨i0, hi, hz0, hz1, hz2⟩ := info_parts Try.infoU
        have HI := hid (And.intro hi (And.intro hz0 (And.intro hz1 hz2)))
        clear hi hz0 hz1 hz2
        go_wp2_with (at_builtin; refine wpList_append_lies _ rfl _ _ 30 rfl w4.heap.size 22 i0 (.int .u64 0) 1 8 Try.underlying30 HI.out.1 HI.out.2.1 HI.out.2.2.1 HI.out.2.2.2 rfl (by decide) _ _ _ rfl (HO.out.alloc _) ⟨w5.heap.size, 0, none⟩ 1 1 [.int .u64 y] rfl rfl ?qc2 ?qc3 ?qc4 ?qc5 ?qc6 ?qc7 (w5.heap.size + 1) ?qc8 ?_)
        case qc2 =>
          intro j u hj
          match j, hj with
          | 0, hj => simp at hj; subst hj; simp [Addr.add]
        case qc3 => intro u hu; simp at hu; subst hu; rfl
        case qc4 => omega
        case qc5 => unfold maxLen; omega
        case qc6 => omega
        case qc7 => have := HB5.out.size; simp; omega
        case qc8 => simp
        intro g2 c2 w6 hown2 hgrow2 hat2 hlt2
        have HR6 := hid (row_own_next hown2)
        have HB6 : Hid (Below w.heap.size w w6) := hid (HB4.out.trans (((HB5.out.alloc HB5.out.size _).grown hgrow2 (by have := HB5.out.size; simp; omega) (by intro t ht; exact (HO.out.lt t ht).1)).mono HB4.out.size))
        clear hown2 hgrow2 hat2 hlt2 HI
        have hat := at_ok g2 0 (k + 1) c2 _ x w6 (by omega) (by omega) HR6.out (by rw [← HY.out]; exact Nums_atQ HV.out k _) x0 x1
        rw [at_next v _ k x (by omega) (fun j hj => by rw [if_pos hj]) (by rw [if_neg (Nat.lt_irrefl k)]; exact HY.out.symm)] at hat
        have HA6 := hid hat
        clear hat
        go_wp2_with fail
        refine (HA6.out).mono ?_
        rintro e w7 ⟨rfl, hb⟩
        have HB7 : Hid (Below w.heap.size w w7) := hid (HB6.out.trans (hb.mono HB6.out.size))
        clear hb
        go_wp2_with fail
        go_ret
        exact ⟨rfl, HB7.out⟩

set_option maxHeartbeats 1000000 in
set_option maxRecDepth 100000 in
theorem walk_same (b off n cap : Nat) (v : Nat → Int) (b2 off2 cap2 : Nat) (u : Nat → Int) (x : Int) (w : World) (hn1 : 1 ≤ n) (hn8 : n ≤ 8) (hr : Row w b off n v) (hv : Nums v) (hr2 : Row w b2 off2 n u) (hv2 : Nums u) (x0 : 0 ≤ x) (x1 : x ≤ 18446744073709551615) :
    Calls Try.prog 4 #[.slice (some ⟨b, off, none⟩) n cap, .slice (some ⟨b2, off2, none⟩) n cap2, .int .u64 x] w fun e w' => e = .returned (.bool true) ∧ Below w.heap.size w w' := by
  have HAT := hid (fun (x : Int) (w' : World) (x0 : 0 ≤ x) (x1 : x ≤ 18446744073709551615) (hb : Below w.heap.size w w') => at_on b off n cap v x w w' hn1 hn8 hr hv x0 x1 hb)
  have HLT := hid (hr.lt (by omega))
  have HR := hid hr
  have HV := hid hv
  have HLT2 := hid (hr2.lt (by omega))
  have HR2 := hid hr2
  have HV2 := hid hv2
  clear hr hv hr2 hv2
  go_enter Try.func4, Try.ntmps4
  go_wp2_with fail
  refine (lit_at w).mono ?_
  rintro e w1 ⟨rfl, hb⟩
  have HB := hid hb
  clear hb
  go_wp2_with fail
  refine (check_ok _ _ _ _ hn1 hn8).mono ?_
  rintro e w2 ⟨rfl, hw⟩
  obtain rfl := hw.symm
  go_wp2_with fail
  go_loopg [50] n (fun g i wr => ∃ k : Nat, k ≤ n ∧ g = n - k ∧ i = .int .i64 (k : Int) ∧ Hid (Below w.heap.size w wr))
  case atStart => exact ⟨0, by omega, rfl, rfl, HB⟩
  case round =>
    clear HB
    obtain ⟨k, hk, rfl, rfl, HB⟩ := hrel
    by_cases hlt : k < n
    · have ha := HAT.out (k : Int) wr (by omega) (by omega) HB.out
      rw [at_self v n k hlt (by omega)] at ha
      have hc := HR.out k hlt
      obtain ⟨a, hva⟩ : ∃ a, v k = a := ⟨_, rfl⟩
      have ba := HV.out k
      rw [hva] at ha hc ba
      obtain ⟨a0, a1⟩ := ba
      have HA := hid ha
      have HC := hid hc
      clear ha hc hva
      go_wp2_with (first
        | (go_at_call 11; refine (HA.out).mono ?_; rintro e w3 ⟨rfl, hb⟩; have c3 := (hb.cell (p := ⟨b, off + k, none⟩) HLT.out).trans HC.out; have HB3 := hid hb; clear hb)
        | (go_at_call 9; refine (norm_any _ _ (by omega) (by omega)).mono ?_; rintro e w4 ⟨rfl, hw⟩; obtain rfl := hw.symm))
      go_roundg (n - (k + 1))
      case measure => go_light; omega
      case rel => exact ⟨k + 1, by omega, rfl, by go_num, HB3⟩
    · have e : k = n := by omega
      subst e
      clear hlt hk
      go_wp2_with fail
      refine (HAT.out x _ x0 x1 HB.out).mono ?_
      rintro e w0 ⟨rfl, hb⟩
      have HB0 := hid hb
      clear hb HB
      have hmk := run_make_row' (P := Try.prog) 30 22 (.int .u64 0) 8 Try.underlying30 Try.infoU rfl .i64 .i64 k (by omega) (by omega)
      go_wp2_with fail
      clear hmk
      go_loopg [88] k (fun g i wr => ∃ t : Nat, t ≤ k ∧ g = k - t ∧ i = .int .i64 (t : Int) ∧ Hid (Made w0 wr k (fun j => if j < t then addQ (v j) (u j) else 0)))
      case atStart => exact ⟨0, by omega, rfl, rfl, hid ((Made.start w0 k 22).congr fun j _ => by rw [if_neg (by omega)])⟩
      case round =>
        obtain ⟨t, ht, rfl, rfl, HM⟩ := hrel
        by_cases hlt : t < k
        · have c1 := HM.out.old (HR.out.kept HB0.out HLT.out) t hlt
          have c2 := HM.out.old (HR2.out.kept HB0.out HLT2.out) t hlt
          have c3 := HM.out.cell t hlt
          have fr := HM.out.frozen t hlt
          rw [if_neg (by omega)] at c3
          obtain ⟨p, hp⟩ : ∃ p, v t = p := ⟨_, rfl⟩
          obtain ⟨q, hq⟩ : ∃ q, u t = q := ⟨_, rfl⟩
          have bp := HV.out t
          have bq := HV2.out t
          rw [hp] at c1 bp
          rw [hq] at c2 bq
          obtain ⟨p0, p1⟩ := bp
          obtain ⟨q0, q1⟩ := bq
          have HP := hid hp
          have HQ := hid hq
          clear hp hq
          have t0 : (0 : Int) ≤ (t : Int) := by omega
          have t1 : (t : Int) < (k : Int) := by omega
          go_wp2_with fail
          go_region_with (first | (go_at_call 8; refine (add_any _ _ _ (by omega) (by omega) (by omega) (by omega)).mono ?_; rintro e w' ⟨rfl, hw⟩; obtain rfl := hw.symm))
          all_goals (go_wp2_with fail)
          all_goals (go_roundg (k - (t + 1)))
          all_goals first | (go_light; omega) | (exact ⟨t + 1, by omega, rfl, by go_num, hid ((HM.out.store t _ hlt).congr fun j _ => by rw [← HP.out, ← HQ.out]; exact sum_step v u t j).drew⟩)
        · have e : t = k := by omega
          subst e
          clear hlt ht
          obtain ⟨k, hk⟩ : ∃ k, k = t := ⟨_, rfl⟩
          subst hk
          have HBm : Hid (Below w.heap.size w wr) := hid (HB0.out.trans (HM.out.below.mono HB0.out.size))
          go_wp2_with fail
          refine (at_ok b2 off2 k cap2 u x wr hn1 hn8 (HR2.out.kept HBm.out HLT2.out) HV2.out x0 x1).mono ?_
          rintro e wz ⟨rfl, hb⟩
          have HBz : Hid (Below w.heap.size w wz) := hid (HBm.out.trans (hb.mono HBm.out.size))
          have hat := at_ok w0.heap.size 0 k k _ x wz hn1 hn8 (HM.out.row.kept hb (HM.out.row.lt (by omega))) (Nums_sum v u k) x0 x1
          rw [at_add v u _ k x (by omega) (fun j hj => by rw [if_pos hj])] at hat
          have HS := hid hat
          clear hat hb HM HBm
          go_wp2_with fail
          refine (HS.out).mono ?_
          rintro e w3 ⟨rfl, hb⟩
          have HB3 : Hid (Below w.heap.size w w3) := hid (HBz.out.trans (hb.mono HBz.out.size))
          clear hb HS HBz HB0
          obtain ⟨y0, y1⟩ := atQ_rng v k x
          obtain ⟨z0, z1⟩ := atQ_rng u k x
          by_cases h8 : k = 8
          · subst h8
            go_wp2_with (go_at_call 8; refine (add_any _ _ _ (by omega) (by omega) (by omega) (by omega)).mono ?_; rintro e w' ⟨rfl, hw⟩; obtain rfl := hw.symm)
            go_ret
            exact ⟨rfl, HB3.out⟩
          · have h8b : ((k : Int) == 8) = false := beq_eq_false_iff_ne.2 (by omega)
            have h7 : k ≤ 7 := by omega
            clear h8
            go_wp2_with (go_at_call 8; refine (add_any _ _ _ (by omega) (by omega) (by omega) (by omega)).mono ?_; rintro e w' ⟨rfl, hw⟩; obtain rfl := hw.symm)
            refine (HAT.out (k : Int) _ (by omega) (by omega) HB3.out).mono ?_
            rintro e w4 ⟨rfl, hb⟩
            have HB4 := hid hb
            clear hb HB3
            obtain ⟨y, hy⟩ : ∃ y, atQ v k (k : Int) = y := ⟨_, rfl⟩
            rw [hy]
            have HY := hid hy
            clear hy
            go_wp2_with fail
            refine (clone_any b off k cap v w4 hn1 (by omega) (HR.out.kept HB4.out HLT.out)).mono ?_
            rintro e w5 ⟨g, c, rfl, hown, hb⟩
            have HO := hid hown
            have HB5 := hid hb
            clear hown hb
            obtain ⟨i0, hi, hz0, hz1, hz2⟩ := info_parts Try.infoU
            have HI := hid (And.intro hi (And.intro hz0 (And.intro hz1 hz2)))
            clear hi hz0 hz1 hz2
            go_wp2_with (at_builtin; refine wpList_append_lies _ rfl _ _ 30 rfl w4.heap.size 22 i0 (.int .u64 0) 1 8 Try.underlying30 HI.out.1 HI.out.2.1 HI.out.2.2.1 HI.out.2.2.2 rfl (by decide) _ _ _ rfl (HO.out.alloc _) ⟨w5.heap.size, 0, none⟩ 1 1 [.int .u64 y] rfl rfl ?qc2 ?qc3 ?qc4 ?qc5 ?qc6 ?qc7 (w5.heap.size + 1) ?qc8 ?_)
            case qc2 =>
              intro j u hj
              match j, hj with
              | 0, hj => simp at hj; subst hj; simp [Addr.add]
            case qc3 => intro u hu; simp at hu; subst hu; rfl
            case qc4 => omega
            case qc5 => unfold maxLen; omega
            case qc6 => omega
            case qc7 => have := HB5.out.size; simp; omega
            case qc8 => simp
            intro g2 c2 w6 hown2 hgrow2 hat2 hlt2
            have HR6 := hid (row_own_next hown2)
            have HB6 : Hid (Below w.heap.size w w6) := hid (HB4.out.trans (((HB5.out.alloc HB5.out.size _).grown hgrow2 (by have := HB5.out.size; simp; omega) (by intro t ht; exact (HO.out.lt t ht).1)).mono HB4.out.size))
            clear hown2 hgrow2 hat2 hlt2 HI
            have hat := at_ok g2 0 (k + 1) c2 _ x w6 (by omega) (by omega) HR6.out (by rw [← HY.out]; exact Nums_atQ HV.out k _) x0 x1
            rw [at_next v _ k x (by omega) (fun j hj => by rw [if_pos hj]) (by rw [if_neg (Nat.lt_irrefl k)]; exact HY.out.symm)] at hat
            have HA6 := hid hat
            clear hat
            go_wp2_with fail
            refine (HA6.out).mono ?_
            rintro e w7 ⟨rfl, hb⟩
            have HB7 : Hid (Below w.heap.size w w7) := hid (HB6.out.trans (hb.mono HB6.out.size))
            clear hb
            go_wp2_with fail
            go_ret
            exact ⟨rfl, HB7.out⟩
set_option maxHeartbeats 4000000 in
set_option maxRecDepth 100000 in
theorem walk (a0 : Option Addr) (len0 cap0 : Nat) (z0 : List Int) (a1 : Option Addr) (len1 cap1 : Nat) (z1 : List Int) (a2 : Int) (w : World) (w0 : IsRow .u64 w a0 len0 cap0 z0) (w1 : IsRow .u64 w a1 len1 cap1 z1) (w2 : (Lit.int .u64 a2).wf = true) :
    Calls Try.prog 4 #[.slice a0 len0 cap0, .slice a1 len1 cap1, .int .u64 a2] w fun e w' => e = .returned (.bool true) ∧ Below w.heap.size w w' := by
  obtain ⟨x0, x1⟩ := u64_rng w2
  by_cases hn : 1 ≤ len0 ∧ len0 ≤ 8
  · obtain ⟨b, off, v, rfl, hr, hv⟩ := row_of w0 (by omega)
    by_cases hm : len0 = len1
    · subst hm
      obtain ⟨b2, off2, u, rfl, hr2, hv2⟩ := row_of w1 (by omega)
      exact walk_same b off len0 cap0 v b2 off2 cap1 u a2 w hn.1 hn.2 hr hv hr2 hv2 x0 x1
    · exact walk_other b off len0 cap0 v a1 len1 cap1 a2 w hn.1 hn.2 hm hr hv x0 x1
  · exact walk_bad a0 len0 cap0 a1 len1 cap1 a2 w (by omega)

set_option maxRecDepth 100000 in
theorem lifted (os : Os) (started : os.Started) (H : Type) (enc : TypeId × Value → H) :
    ReturnsInHanded {} Try.checked os 4 .any (Rows.uniValuesSpec.pre6 enc Try.prog Try.f4 Rows.uniValuesRow.domain false) (Rows.uniValuesSpec.post enc Try.prog Try.f4 false true false false) := by
  refine returnsInHanded_of_change (C := Try.checked) own started (by kernel_rfl) Try.func4
    (ChangeSpec.witness6 (enc := enc) (C := Try.checked) false ⟨#[], #[.slice none 0 0, .slice none 0 0, .int .u64 0], []⟩ 8 (by kernel_rfl) (by kernel_rfl) (by kernel_rfl) (by kernel_rfl)) ?_
  intro W base args ds gs before hval0 hW hcnd _
  have hval : ∀ (j : Nat) t v, Try.f4.params[j]? = some t → args[j]? = some v → Value.okWide Try.prog W .any base t v := hval0
  have hW' := hW
  obtain ⟨p, q, hA0, hV, rfl, hfz, hnd⟩ := hW
  have hA : DataW.TrodAll enc Try.prog W 0 (fun _ => true) true Try.f4.params.toList args.toList ds p := hA0
  rw [Try.params4] at hA hval
  obtain ⟨v0, vs0, d0, ds0, p0, q0, hargs, rfl, rfl, h0, r0⟩ := trodAll_cons hA
  obtain ⟨v1, vs1, d1, ds1, p1, q1, rfl, rfl, rfl, h1, r1⟩ := trodAll_cons r0
  obtain ⟨v2, vs2, d2, ds2, p2, q2, rfl, rfl, rfl, h2, r2⟩ := trodAll_cons r1
  obtain ⟨rfl, rfl, rfl⟩ := trodAll_nil r2
  obtain rfl : args = #[v0, v1, v2] := by cases args; simp_all
  obtain ⟨rfl, rfl⟩ := trodVars_none hV
  obtain ⟨a0, len0, cap0, rfl⟩ := okWide_slice Try.underlying30 (hval 0 30 v0 rfl rfl)
  have k0 := h0
  have lt0 : ∀ x ∈ p0, x.block < W.heap.size := by obtain ⟨m, hm⟩ := k0; exact DataW.trod_lt m _ _ _ hm
  obtain ⟨z0, w0⟩ : ∃ zs, IsRow .u64 W a0 len0 cap0 zs := by
    obtain ⟨fuel, hf⟩ := h0
    rcases open_ints Try.underlying30 Try.underlying22 (by kernel_rfl) hf with ⟨hcs, _⟩ | ⟨x, l, c, zs, hcs, _, hl, hm, hz, _, hcell, hwz⟩
    · simp [Value.cells] at hcs
      obtain ⟨rfl, rfl, rfl⟩ := hcs
      exact ⟨[], .inl ⟨rfl, rfl, rfl, rfl⟩⟩
    · simp [Value.cells] at hcs
      obtain ⟨rfl, rfl, rfl⟩ := hcs
      exact ⟨zs, .inr ⟨_, rfl, hl, hm, by simpa using hz, hcell, hwz⟩⟩
  obtain ⟨a1, len1, cap1, rfl⟩ := okWide_slice Try.underlying30 (hval 1 30 v1 rfl rfl)
  have k1 := h1
  have lt1 : ∀ x ∈ p1, x.block < W.heap.size := by obtain ⟨m, hm⟩ := k1; exact DataW.trod_lt m _ _ _ hm
  obtain ⟨z1, w1⟩ : ∃ zs, IsRow .u64 W a1 len1 cap1 zs := by
    obtain ⟨fuel, hf⟩ := h1
    rcases open_ints Try.underlying30 Try.underlying22 (by kernel_rfl) hf with ⟨hcs, _⟩ | ⟨x, l, c, zs, hcs, _, hl, hm, hz, _, hcell, hwz⟩
    · simp [Value.cells] at hcs
      obtain ⟨rfl, rfl, rfl⟩ := hcs
      exact ⟨[], .inl ⟨rfl, rfl, rfl, rfl⟩⟩
    · simp [Value.cells] at hcs
      obtain ⟨rfl, rfl, rfl⟩ := hcs
      exact ⟨zs, .inr ⟨_, rfl, hl, hm, by simpa using hz, hcell, hwz⟩⟩
  obtain ⟨a2, rfl, rfl, rfl, w2⟩ := open_int Try.underlying22 (hval 2 22 v2 rfl rfl) h2
  clear hA0 hval0
  refine (walk a0 len0 cap0 z0 a1 len1 cap1 z1 a2 W w0 w1 w2).mono fun e W' ⟨he, bel⟩ => ?_
  subst he
  exact ⟨_, rfl, _, _, _, [], _, [], hW', trodAll_mk1 (shut_bool Try.underlying4 _), (trodAll_cons_mk (Below.trod laidOut (by kernel_rfl) (of_decide_eq_true (by kernel_rfl)) k0 bel lt0) (trodAll_cons_mk (Below.trod laidOut (by kernel_rfl) (of_decide_eq_true (by kernel_rfl)) k1 bel lt1) (trodAll_cons_mk (shut_int Try.underlying22 w2) trodAll_mk0))), rfl, bel.frame _, fun h => by cases h⟩

theorem over : Rows.uniValuesRow.holds Try.pinned (OpenSpec.ofChange Rows.uniValuesSpec) :=
  OpenClaim.holds_of_wide 4 Try.f4 rfl rfl rfl rfl rfl rfl rfl ⟨rfl, rfl, rfl, rfl, rfl⟩ rfl rfl rfl rfl rfl (by kernel_rfl) Try.func4 (by kernel_rfl)
    (of_decide_eq_true (by kernel_rfl)) (by unfold Func.isWrapper; first | (rw [if_pos (by decide +kernel)]; kernel_rfl) | (rw [if_neg (by decide +kernel)]; exact ⟨rfl, rfl⟩))
    (fun os started H enc _ => lifted os started H enc)

/-- ████ THE STATEMENT ████ -/
theorem proved : Rows.UniValuesSaid := over
end Go.Proofs.Ytoogpkcpheannad.uniValues

namespace Go.Proofs.Ytoogpkcpheannad
/-- The given statement. -/
theorem uniValues_holds : Rows.UniValuesSaid := uniValues.proved
end Go.Proofs.Ytoogpkcpheannad
