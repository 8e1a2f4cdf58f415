/-
  Whatever lists of numbers of 64 bits and whatever number are handed in, the law MleSays answers true and writes nothing that was there: Vars, Sum, Fix and Eval of package mle answer what the document's own answer (package tallyref) says (of tables of at most 64 numbers, or lists that are none: the law's own bound); tied to the program's text: Go's two tables deBruijn32tab and deBruijn64tab hold what math/bits lays.
-/
import Derived.Test.YtoogpkcpheannaaDoorRows
import Derived.Test.YtoogpkcpheannaaDoorCards
import Derived.Test.YtoogpkcpheannaaDoorTie
import Derived.Test.YtoogpkcpheannaaDoorWrap
import Derived.Test.YtoogpkcpheannaaDoorLaid
import Derived.SevenTiedAt
import Derived.WalkKit
import Derived.Test.YtoogpkcpheannaaDoorMleEv
import Derived.Test.YtoogpkcpheannaaDoorMleSum
import Derived.Test.YtoogpkcpheannaaDoorRefFix
import Derived.Test.YtoogpkcpheannaaDoorRefPart
import Derived.Test.YtoogpkcpheannaaDoorEqual
import Derived.ProofKit
import Derived.OpenShut
import Derived.ShutString
import Derived.ChangeOld
import Derived.Below
namespace Go.Proofs.YtoogpkcpheannaaDoor.mleSays
open Go.ChangeShapes Go.WideShapes Go.ChangeAt Go.RowKit
open Go.ChangeMaps (open_string shut_string)
set_option linter.unusedVariables false

theorem own : ownKnob Tryd.prog.godebug = none := by kernel_rfl
theorem laidOut : laidOutB Tryd.prog = true := by kernel_rfl

/-- WHAT THE WALK IS TOLD OF A SLICE OF INTEGERS THAT CAME IN: it is nil; or it leads to a row of 'cap' cells, the numbers 'zs' (the first 'len' are its elements, the rest its spare room), each fitting its kind. -/
def IsRow (k : IntKind) (w : World) (a : Option Addr) (len cap : Nat) (zs : List Int) : Prop :=
  (a = none ∧ len = 0 ∧ cap = 0 ∧ zs = []) ∨
  ∃ x, a = some x ∧ len ≤ cap ∧ cap ≤ maxLen ∧ zs.length = cap ∧ (∀ i, i < zs.length → w.cell? (x.add i) = some (.int k (zs.getD i 0))) ∧ ∀ n ∈ zs, (Lit.int k n).wf = true

attribute [local go_sem ↓] Go.wp_at_zero Go.wp_at_succ
theorem u64_rng {a : Int} (h : (Lit.int .u64 a).wf = true) : 0 ≤ a ∧ a ≤ 18446744073709551615 := by
  simp [Lit.wf, IntKind.min, IntKind.max, IntKind.signed, IntKind.bits] at h
  omega
theorem row_of {w : World} {a : Option Addr} {len cap : Nat} {zs : List Int} (h : IsRow .u64 w a len cap zs) (hl : 0 < len) :
    ∃ b off f, a = some ⟨b, off, none⟩ ∧ Row w b off len f ∧ Nums f := by
  rcases h with ⟨_, rfl, _⟩ | ⟨x, rfl, hc, _, hz, hcell, hwf⟩
  · omega
  · obtain ⟨b, off, rfl, hcs⟩ := ints_at hcell (by omega)
    refine ⟨b, off, fun j => zs.getD j 0, rfl, fun j hj => hcs j (by omega), fun j => ?_⟩
    dsimp only
    by_cases hj : j < zs.length
    · have : zs.getD j 0 = zs[j] := by simp [List.getD, hj]
      rw [this]
      exact u64_rng (hwf _ (List.getElem_mem hj))
    · have : zs.getD j 0 = 0 := by simp [List.getD, hj]
      rw [this]; omega

theorem Nums_zero : Nums (fun _ => 0) := fun _ => by dsimp only; omega
theorem prow_of {w : World} {a : Option Addr} {len cap : Nat} {zs : List Int} (h : IsRow .u64 w a len cap zs) : ∃ g, PRow w a len g ∧ Nums g := by
  by_cases hl : 0 < len
  · obtain ⟨b, off, f, e, hr, hv⟩ := row_of h hl
    exact ⟨f, fun _ => ⟨b, off, e, hr⟩, hv⟩
  · exact ⟨fun _ => 0, fun h => absurd h hl, Nums_zero⟩
theorem len_max {w : World} {a : Option Addr} {len cap : Nat} {zs : List Int} (h : IsRow .u64 w a len cap zs) : len ≤ maxLen := by
  rcases h with ⟨_, rfl, _⟩ | ⟨_, _, h1, h2, _⟩
  · exact Nat.zero_le _
  · exact Nat.le_trans h1 h2
theorem part_one (f : Nat → Int) (n N : Nat) (hN : N = 2 ^ n) : partS (fun _ => f) (fun _ => 0) 0 n 1 N = sK (fun j => kk (f j)) N := by
  unfold partS
  refine sK_congr _ fun b hb => ?_
  unfold partP
  simp only [pKr, Nat.zero_add]
  rw [evS_congr (f' := fun j => kk (f j)) (g' := bitK b n) n (fun _ _ => rfl) (fun j _ => by unfold catF; rw [if_neg (by omega), Nat.sub_zero, kk_bitF]), evS_bit _ n b (by rw [← hN]; exact hb)]
  grind
theorem fld_fix (f : Nat → Int) (h : Nat) (x : Int) (j : Nat) : fldF f h x j = fixQ f h x j := by
  unfold fixQ
  exact eq_ofK (addQ_rng _ _).1 (addQ_rng _ _).2 (kk_fldF f h x j)
/-- What holds of the world all along. -/
structure St (w W : World) (b off N : Nat) (f : Nat → Int) (ao : Option Addr) (n1 : Nat) (g : Nat → Int) : Prop where
  bel : Below w.heap.size w W
  t : Tab W
  r : Row W b off N f
  p : PRow W ao n1 g
theorem St.next {w W W' : World} {b off N : Nat} {f : Nat → Int} {ao : Option Addr} {n1 : Nat} {g : Nat → Int} (h : St w W b off N f ao n1 g) (hN : 0 < N) (hb : Below W.heap.size W W') : St w W' b off N f ao n1 g :=
  ⟨h.bel.trans (hb.mono h.bel.size), h.t.kept hb h.t.1, h.r.kept hb (h.r.lt hN), h.p.kept hb⟩
theorem lit_row (w : World) (v : Value) (t : TypeId) : ∀ i, i < 1 → (w.alloc (.cells #[v] t)).cell? ⟨w.heap.size, 0 + i, none⟩ = some v := fun i hi => by
  rw [World.cell?_alloc_new]
  match i, hi with
  | 0, _ => rfl

set_option maxHeartbeats 4000000 in
set_option maxRecDepth 100000 in
theorem says_1e (b off m h cap : Nat) (hm : m + 1 ≤ 6) (hh : h = 2 ^ m) (f : Nat → Int) (a1 : Option Addr) (cap1 : Nat) (g : Nat → Int) (x : Int) (w : World) (ht : Tab w) (hr : Row w b off (2 * h) f) (hv : Nums f) (hp : PRow w a1 (m + 1) g) (hg : Nums g) (x0 : 0 ≤ x) (x1 : x ≤ 18446744073709551615) :
    Calls Tryd.prog 3 #[.slice (some ⟨b, off, none⟩) (2 * h) cap, .slice a1 (m + 1) cap1, .int .u64 x] w fun e w' => e = .returned (.bool true) ∧ Below w.heap.size w w' := by
  have HS : Hid (St w w b off (2 * h) f a1 (m + 1) g) := hid ⟨Below.refl _ _, ht, hr, hp⟩
  have HV := hid hv
  have HG := hid hg
  have h1 : 1 ≤ h := by rw [hh]; exact Nat.one_le_two_pow
  have hN0 : 0 < 2 * h := by omega
  have HN : Hid (2 * h = 2 ^ (m + 1)) := hid (by rw [Nat.pow_succ, hh, Nat.mul_comm])
  have HH := hid hh
  have h2 : h ≤ 256 := by rw [hh]; exact Nat.pow_le_pow_right (j := 8) (by omega) (by omega)
  clear hh
  clear ht hr hv hp hg
  have HRV := hid (rvars_ok (some ⟨b, off, none⟩) (m + 1) (2 * h) cap w (by omega) HN.out)
  go_enter Tryd.func3, Tryd.ntmps3
  go_wp2_with (go_at_call 6; refine (HRV.out).mono ?_; rintro e w' ⟨rfl, hw⟩; obtain rfl := hw.symm)
  clear HRV
  have hA : Below w.heap.size w (w.alloc (.cells #[.slice (some ⟨b, off, none⟩) (2 * h) cap] 22)) := (Below.refl _ w).alloc (Nat.le_refl _) _
  have HSA := hid (HS.out.next hN0 hA)
  clear hA
  have hpt := rpart_any w.heap.size 0 1 1 (fun _ => b) (fun _ => off) (fun _ => cap) (fun _ => f) none 0 0 (m + 1) (2 * h) (2 * h) (fun _ => 0) _ (by omega) (by omega) (by omega) (by rw [Nat.zero_add]; exact HN.out) HN.out (lit_row w _ 22) (fun _ _ => HSA.out.r) (fun _ _ => HV.out) (fun h => by omega) Nums_zero
  rw [part_one f (m + 1) (2 * h) HN.out] at hpt
  obtain ⟨s, hs⟩ : ∃ s, ofK (sK (fun j => kk (f j)) (2 * h)) = s := ⟨_, rfl⟩
  rw [hs] at hpt
  have HSS := hid hs
  have HPT := hid hpt
  clear hs hpt HS
  refine (HPT.out).mono ?_
  rintro e w1 ⟨rfl, hb1⟩
  have HS := hid (HSA.out.next hN0 hb1)
  clear hb1 HSA HPT
  go_wp2_with fail
  refine (rfix_ok b off m h cap f x _ (by omega) HH.out HS.out.r HV.out x0 x1).mono ?_
  rintro e w2 ⟨vf, rfl, hof, hb1⟩
  obtain ⟨af, cf, rfl, hpf, _⟩ := hof.is
  have HPF := hid hpf
  have HS2 := hid (HS.out.next hN0 hb1)
  clear hof hpf hb1 HS
  go_wp2_with fail
  have hev := reval_any b off (m + 1) (2 * h) cap cap1 a1 f g _ (by omega) HN.out (by omega) HS2.out.r HV.out HS2.out.p HG.out
  obtain ⟨y, hy⟩ : ∃ y, ofK (evS (fun j => kk (f j)) (fun j => kk (g j)) (m + 1)) = y := ⟨_, rfl⟩
  rw [hy] at hev
  have HY := hid hy
  have HEV := hid hev
  clear hy hev
  refine (HEV.out).mono ?_
  rintro e w3 ⟨rfl, hb1⟩
  have HS3 := hid (HS2.out.next hN0 hb1)
  have HPF3 := hid (HPF.out.kept hb1)
  clear HPF
  clear hb1 HS2 HEV
  go_wp2_with fail
  refine (vars_ok (some ⟨b, off, none⟩) (m + 1) (2 * h) cap _ (by omega) HN.out HS3.out.t).mono ?_
  rintro e w' ⟨rfl, hw⟩
  obtain rfl := hw.symm
  have hsum := sum_ok b off (m + 1) (2 * h) cap f _ (by omega) HN.out HS3.out.t HS3.out.r HV.out
  rw [HSS.out] at hsum
  have HSU := hid hsum
  clear hsum
  go_wp2_with fail
  refine (HSU.out).mono ?_
  rintro e w' ⟨rfl, hw⟩
  obtain rfl := hw.symm
  clear HSU
  go_wp2_with fail
  refine (fix_ok b off m h cap f x _ (by omega) HH.out HS3.out.t HS3.out.r HV.out x0 x1).mono ?_
  rintro e w4 ⟨rfl, hmd⟩
  have HPF4 := hid (HPF3.out.kept hmd.below)
  have HPL4 := hid (PRow.of hmd.row)
  have HS4 := hid (HS3.out.next hN0 hmd.below)
  clear hmd HS3 HPF3
  go_wp2_with fail
  have hev := eval_ok b off (m + 1) (2 * h) cap cap1 a1 f g _ (by omega) HN.out HS4.out.t HS4.out.r HV.out HS4.out.p HG.out
  rw [HY.out] at hev
  have HEV := hid hev
  clear hev
  refine (HEV.out).mono ?_
  rintro e w5 ⟨rfl, hb1⟩
  have HPF5 := hid (HPF4.out.kept hb1)
  have HPL5 := hid (HPL4.out.kept hb1)
  have HS5 := hid (HS4.out.next hN0 hb1)
  clear hb1 HS4 HEV
  go_wp2_with fail
  refine (equal_ok _ _ h h cf (fldF f h x) (fixQ f h x) _ (by omega) HPL5.out HPF5.out (fun j _ => fld_fix f h x j)).mono ?_
  rintro e w6 ⟨rfl, hb1⟩
  have HS6 := hid (HS5.out.next hN0 hb1)
  clear hb1 HS5
  go_wp2_with fail
  go_ret
  exact ⟨rfl, HS6.out.bel⟩

set_option maxHeartbeats 4000000 in
set_option maxRecDepth 100000 in
theorem says_1n (b off m h cap : Nat) (hm : m + 1 ≤ 6) (hh : h = 2 ^ m) (f : Nat → Int) (a1 : Option Addr) (n1 : Nat) (hne : n1 ≠ (m + 1)) (cap1 : Nat) (g : Nat → Int) (x : Int) (w : World) (ht : Tab w) (hr : Row w b off (2 * h) f) (hv : Nums f) (hp : PRow w a1 n1 g) (hg : Nums g) (x0 : 0 ≤ x) (x1 : x ≤ 18446744073709551615) :
    Calls Tryd.prog 3 #[.slice (some ⟨b, off, none⟩) (2 * h) cap, .slice a1 n1 cap1, .int .u64 x] w fun e w' => e = .returned (.bool true) ∧ Below w.heap.size w w' := by
  have HS : Hid (St w w b off (2 * h) f a1 n1 g) := hid ⟨Below.refl _ _, ht, hr, hp⟩
  have HV := hid hv
  have HG := hid hg
  have h1 : 1 ≤ h := by rw [hh]; exact Nat.one_le_two_pow
  have hN0 : 0 < 2 * h := by omega
  have HN : Hid (2 * h = 2 ^ (m + 1)) := hid (by rw [Nat.pow_succ, hh, Nat.mul_comm])
  have HH := hid hh
  have h2 : h ≤ 256 := by rw [hh]; exact Nat.pow_le_pow_right (j := 8) (by omega) (by omega)
  clear hh
  clear ht hr hv hp hg
  have hb : ((n1 : Int) == (((m + 1) : Nat) : Int)) = false := beq_eq_false_iff_ne.2 (by omega)
  have hb2 : ((n1 : Int) == ((m : Int) + 1)) = false := beq_eq_false_iff_ne.2 (by omega)
  have HRV := hid (rvars_ok (some ⟨b, off, none⟩) (m + 1) (2 * h) cap w (by omega) HN.out)
  go_enter Tryd.func3, Tryd.ntmps3
  go_wp2_with (go_at_call 6; refine (HRV.out).mono ?_; rintro e w' ⟨rfl, hw⟩; obtain rfl := hw.symm)
  clear HRV
  have hA : Below w.heap.size w (w.alloc (.cells #[.slice (some ⟨b, off, none⟩) (2 * h) cap] 22)) := (Below.refl _ w).alloc (Nat.le_refl _) _
  have HSA := hid (HS.out.next hN0 hA)
  clear hA
  have hpt := rpart_any w.heap.size 0 1 1 (fun _ => b) (fun _ => off) (fun _ => cap) (fun _ => f) none 0 0 (m + 1) (2 * h) (2 * h) (fun _ => 0) _ (by omega) (by omega) (by omega) (by rw [Nat.zero_add]; exact HN.out) HN.out (lit_row w _ 22) (fun _ _ => HSA.out.r) (fun _ _ => HV.out) (fun h => by omega) Nums_zero
  rw [part_one f (m + 1) (2 * h) HN.out] at hpt
  obtain ⟨s, hs⟩ : ∃ s, ofK (sK (fun j => kk (f j)) (2 * h)) = s := ⟨_, rfl⟩
  rw [hs] at hpt
  have HSS := hid hs
  have HPT := hid hpt
  clear hs hpt HS
  refine (HPT.out).mono ?_
  rintro e w1 ⟨rfl, hb1⟩
  have HS := hid (HSA.out.next hN0 hb1)
  clear hb1 HSA HPT
  go_wp2_with fail
  refine (rfix_ok b off m h cap f x _ (by omega) HH.out HS.out.r HV.out x0 x1).mono ?_
  rintro e w2 ⟨vf, rfl, hof, hb1⟩
  obtain ⟨af, cf, rfl, hpf, _⟩ := hof.is
  have HPF := hid hpf
  have HS2 := hid (HS.out.next hN0 hb1)
  clear hof hpf hb1 HS
  go_wp2_with fail
  refine (vars_ok (some ⟨b, off, none⟩) (m + 1) (2 * h) cap _ (by omega) HN.out HS2.out.t).mono ?_
  rintro e w' ⟨rfl, hw⟩
  obtain rfl := hw.symm
  have hsum := sum_ok b off (m + 1) (2 * h) cap f _ (by omega) HN.out HS2.out.t HS2.out.r HV.out
  rw [HSS.out] at hsum
  have HSU := hid hsum
  clear hsum
  go_wp2_with fail
  refine (HSU.out).mono ?_
  rintro e w' ⟨rfl, hw⟩
  obtain rfl := hw.symm
  clear HSU
  go_wp2_with fail
  refine (fix_ok b off m h cap f x _ (by omega) HH.out HS2.out.t HS2.out.r HV.out x0 x1).mono ?_
  rintro e w4 ⟨rfl, hmd⟩
  have HPF4 := hid (HPF.out.kept hmd.below)
  have HPL4 := hid (PRow.of hmd.row)
  have HS4 := hid (HS2.out.next hN0 hmd.below)
  clear hmd HS2 HPF
  go_wp2_with fail
  refine (eval_arg (some ⟨b, off, none⟩) a1 (m + 1) (2 * h) cap n1 cap1 _ (by omega) HN.out HS4.out.t hne).mono ?_
  rintro e w' ⟨rfl, hw⟩
  obtain rfl := hw.symm
  go_wp2_with fail
  refine (equal_ok _ _ h h cf (fldF f h x) (fixQ f h x) _ (by omega) HPL4.out HPF4.out (fun j _ => fld_fix f h x j)).mono ?_
  rintro e w6 ⟨rfl, hb1⟩
  have HS6 := hid (HS4.out.next hN0 hb1)
  clear hb1 HS4
  go_wp2_with fail
  go_ret
  exact ⟨rfl, HS6.out.bel⟩

set_option maxHeartbeats 4000000 in
set_option maxRecDepth 100000 in
theorem says_0e (b off cap : Nat) (f : Nat → Int) (a1 : Option Addr) (cap1 : Nat) (g : Nat → Int) (x : Int) (w : World) (ht : Tab w) (hr : Row w b off 1 f) (hv : Nums f) (hp : PRow w a1 0 g) (hg : Nums g) (x0 : 0 ≤ x) (x1 : x ≤ 18446744073709551615) :
    Calls Tryd.prog 3 #[.slice (some ⟨b, off, none⟩) 1 cap, .slice a1 0 cap1, .int .u64 x] w fun e w' => e = .returned (.bool true) ∧ Below w.heap.size w w' := by
  have HS : Hid (St w w b off 1 f a1 0 g) := hid ⟨Below.refl _ _, ht, hr, hp⟩
  have HV := hid hv
  have HG := hid hg
  have hN0 : 0 < 1 := by omega
  clear ht hr hv hp hg
  have HRV := hid (rvars_ok (some ⟨b, off, none⟩) 0 1 cap w (by omega) rfl)
  go_enter Tryd.func3, Tryd.ntmps3
  go_wp2_with (go_at_call 6; refine (HRV.out).mono ?_; rintro e w' ⟨rfl, hw⟩; obtain rfl := hw.symm)
  clear HRV
  have hA : Below w.heap.size w (w.alloc (.cells #[.slice (some ⟨b, off, none⟩) 1 cap] 22)) := (Below.refl _ w).alloc (Nat.le_refl _) _
  have HSA := hid (HS.out.next hN0 hA)
  clear hA
  have hpt := rpart_any w.heap.size 0 1 1 (fun _ => b) (fun _ => off) (fun _ => cap) (fun _ => f) none 0 0 0 1 1 (fun _ => 0) _ (by omega) (by omega) (by omega) rfl rfl (lit_row w _ 22) (fun _ _ => HSA.out.r) (fun _ _ => HV.out) (fun h => by omega) Nums_zero
  rw [part_one f 0 1 rfl] at hpt
  obtain ⟨s, hs⟩ : ∃ s, ofK (sK (fun j => kk (f j)) 1) = s := ⟨_, rfl⟩
  rw [hs] at hpt
  have HSS := hid hs
  have HPT := hid hpt
  clear hs hpt HS
  refine (HPT.out).mono ?_
  rintro e w1 ⟨rfl, hb1⟩
  have HS := hid (HSA.out.next hN0 hb1)
  clear hb1 HSA HPT
  go_wp2_with fail
  have hev := reval_any b off 0 1 cap cap1 a1 f g _ (by omega) rfl (by omega) HS.out.r HV.out HS.out.p HG.out
  obtain ⟨y, hy⟩ : ∃ y, ofK (evS (fun j => kk (f j)) (fun j => kk (g j)) 0) = y := ⟨_, rfl⟩
  rw [hy] at hev
  have HY := hid hy
  have HEV := hid hev
  clear hy hev
  refine (HEV.out).mono ?_
  rintro e w3 ⟨rfl, hb1⟩
  have HS3 := hid (HS.out.next hN0 hb1)
  clear hb1 HS HEV
  go_wp2_with fail
  refine (vars_ok (some ⟨b, off, none⟩) 0 1 cap _ (by omega) rfl HS3.out.t).mono ?_
  rintro e w' ⟨rfl, hw⟩
  obtain rfl := hw.symm
  have hsum := sum_ok b off 0 1 cap f _ (by omega) rfl HS3.out.t HS3.out.r HV.out
  rw [HSS.out] at hsum
  have HSU := hid hsum
  clear hsum
  go_wp2_with fail
  refine (HSU.out).mono ?_
  rintro e w' ⟨rfl, hw⟩
  obtain rfl := hw.symm
  clear HSU
  go_wp2_with fail
  refine (fix_none (some ⟨b, off, none⟩) cap x _ HS3.out.t).mono ?_
  rintro e w' ⟨rfl, hw⟩
  obtain rfl := hw.symm
  go_wp2_with fail
  have hev := eval_ok b off 0 1 cap cap1 a1 f g _ (by omega) rfl HS3.out.t HS3.out.r HV.out HS3.out.p HG.out
  rw [HY.out] at hev
  have HEV := hid hev
  clear hev
  refine (HEV.out).mono ?_
  rintro e w5 ⟨rfl, hb1⟩
  have HS5 := hid (HS3.out.next hN0 hb1)
  clear hb1 HS3 HEV
  go_wp2_with fail
  refine (equal_ok none none 0 0 0 (fun _ => 0) (fun _ => 0) _ (by omega) (fun h => by omega) (fun h => by omega) (fun _ _ => rfl)).mono ?_
  rintro e w6 ⟨rfl, hb1⟩
  have HS6 := hid (HS5.out.next hN0 hb1)
  clear hb1 HS5
  go_wp2_with fail
  go_ret
  exact ⟨rfl, HS6.out.bel⟩

set_option maxHeartbeats 4000000 in
set_option maxRecDepth 100000 in
theorem says_0n (b off cap : Nat) (f : Nat → Int) (a1 : Option Addr) (n1 : Nat) (hne : n1 ≠ 0) (cap1 : Nat) (g : Nat → Int) (x : Int) (w : World) (ht : Tab w) (hr : Row w b off 1 f) (hv : Nums f) (hp : PRow w a1 n1 g) (hg : Nums g) (x0 : 0 ≤ x) (x1 : x ≤ 18446744073709551615) :
    Calls Tryd.prog 3 #[.slice (some ⟨b, off, none⟩) 1 cap, .slice a1 n1 cap1, .int .u64 x] w fun e w' => e = .returned (.bool true) ∧ Below w.heap.size w w' := by
  have HS : Hid (St w w b off 1 f a1 n1 g) := hid ⟨Below.refl _ _, ht, hr, hp⟩
  have HV := hid hv
  have HG := hid hg
  have hN0 : 0 < 1 := by omega
  clear ht hr hv hp hg
  have hb : ((n1 : Int) == ((0 : Nat) : Int)) = false := beq_eq_false_iff_ne.2 (by omega)
  have hb2 : ((n1 : Int) == 0) = false := beq_eq_false_iff_ne.2 (by omega)
  have hb3 : n1 ≠ 0 := by omega
  have HRV := hid (rvars_ok (some ⟨b, off, none⟩) 0 1 cap w (by omega) rfl)
  go_enter Tryd.func3, Tryd.ntmps3
  go_wp2_with (go_at_call 6; refine (HRV.out).mono ?_; rintro e w' ⟨rfl, hw⟩; obtain rfl := hw.symm)
  clear HRV
  have hA : Below w.heap.size w (w.alloc (.cells #[.slice (some ⟨b, off, none⟩) 1 cap] 22)) := (Below.refl _ w).alloc (Nat.le_refl _) _
  have HSA := hid (HS.out.next hN0 hA)
  clear hA
  have hpt := rpart_any w.heap.size 0 1 1 (fun _ => b) (fun _ => off) (fun _ => cap) (fun _ => f) none 0 0 0 1 1 (fun _ => 0) _ (by omega) (by omega) (by omega) rfl rfl (lit_row w _ 22) (fun _ _ => HSA.out.r) (fun _ _ => HV.out) (fun h => by omega) Nums_zero
  rw [part_one f 0 1 rfl] at hpt
  obtain ⟨s, hs⟩ : ∃ s, ofK (sK (fun j => kk (f j)) 1) = s := ⟨_, rfl⟩
  rw [hs] at hpt
  have HSS := hid hs
  have HPT := hid hpt
  clear hs hpt HS
  refine (HPT.out).mono ?_
  rintro e w1 ⟨rfl, hb1⟩
  have HS := hid (HSA.out.next hN0 hb1)
  clear hb1 HSA HPT
  go_wp2_with fail
  refine (vars_ok (some ⟨b, off, none⟩) 0 1 cap _ (by omega) rfl HS.out.t).mono ?_
  rintro e w' ⟨rfl, hw⟩
  obtain rfl := hw.symm
  have hsum := sum_ok b off 0 1 cap f _ (by omega) rfl HS.out.t HS.out.r HV.out
  rw [HSS.out] at hsum
  have HSU := hid hsum
  clear hsum
  go_wp2_with fail
  refine (HSU.out).mono ?_
  rintro e w' ⟨rfl, hw⟩
  obtain rfl := hw.symm
  clear HSU
  go_wp2_with fail
  refine (fix_none (some ⟨b, off, none⟩) cap x _ HS.out.t).mono ?_
  rintro e w' ⟨rfl, hw⟩
  obtain rfl := hw.symm
  go_wp2_with fail
  refine (eval_arg (some ⟨b, off, none⟩) a1 0 1 cap n1 cap1 _ (by omega) rfl HS.out.t hne).mono ?_
  rintro e w' ⟨rfl, hw⟩
  obtain rfl := hw.symm
  go_wp2_with fail
  refine (equal_ok none none 0 0 0 (fun _ => 0) (fun _ => 0) _ (by omega) (fun h => by omega) (fun h => by omega) (fun _ _ => rfl)).mono ?_
  rintro e w6 ⟨rfl, hb1⟩
  have HS6 := hid (HS.out.next hN0 hb1)
  clear hb1 HS
  go_wp2_with fail
  go_ret
  exact ⟨rfl, HS6.out.bel⟩

/-- What the row lists. -/
def laidT : List (String × DataW Unit) := [("math/bits.deBruijn32tab", Rows.laid_math_bits_deBruijn32tab), ("math/bits.deBruijn64tab", Rows.laid_math_bits_deBruijn64tab)]
theorem door_met (os : Os) (args : Array Value) : laidMetH Tryd.prog laidT ((World.laidAll Tryd.prog os laidT).forCall (fun _ _ => 0) ⟨#[], args, []⟩).memory := by
  rw [MakeChecks.laidMetH_plain _ _ _ (by kernel_rfl)]
  exact laidMet_laidAll _ (by kernel_rfl) (by kernel_rfl)
theorem tab_of_laid {W : World} (h : laidMetH Tryd.prog laidT W) : Tab W := by
  rw [MakeChecks.laidMetH_plain _ _ _ (by kernel_rfl)] at h
  obtain ⟨ps, hv, _⟩ := h
  exact tab_of_vars hv

set_option maxHeartbeats 4000000 in
set_option maxRecDepth 100000 in
theorem walk (a0 : Option Addr) (len0 cap0 : Nat) (z0 : List Int) (a1 : Option Addr) (len1 cap1 : Nat) (z1 : List Int) (a2 : Int) (w : World) (w0 : IsRow .u64 w a0 len0 cap0 z0) (w1 : IsRow .u64 w a1 len1 cap1 z1) (w2 : (Lit.int .u64 a2).wf = true) (ht : Tab w) :
    Calls Tryd.prog 3 #[.slice a0 len0 cap0, .slice a1 len1 cap1, .int .u64 a2] w fun e w' => e = .returned (.bool true) ∧ Below w.heap.size w w' := by
  obtain ⟨x0, x1⟩ := u64_rng w2
  have hmax := len_max w0
  obtain ⟨g, hp, hg⟩ := prow_of w1
  by_cases hT : ∃ n, n ≤ 8 ∧ len0 = 2 ^ n
  · obtain ⟨n, hn, hN⟩ := hT
    obtain ⟨b, off, f, rfl, hr, hv⟩ := row_of w0 (by rw [hN]; exact Nat.two_pow_pos _)
    by_cases h6 : n ≤ 6
    · by_cases hz : n = 0
      · subst hz
        obtain rfl : len0 = 1 := hN
        by_cases he : len1 = 0
        · subst he
          exact says_0e b off cap0 f a1 cap1 g a2 w ht hr hv hp hg x0 x1
        · exact says_0n b off cap0 f a1 len1 he cap1 g a2 w ht hr hv hp hg x0 x1
      · obtain ⟨m, rfl⟩ : ∃ m, n = m + 1 := ⟨n - 1, by omega⟩
        obtain ⟨h, hh⟩ : ∃ h, h = 2 ^ m := ⟨_, rfl⟩
        obtain rfl : len0 = 2 * h := by rw [hN, Nat.pow_succ, hh, Nat.mul_comm]
        by_cases he : len1 = m + 1
        · subst he
          exact says_1e b off m h cap0 h6 hh f a1 cap1 g a2 w ht hr hv hp hg x0 x1
        · exact says_1n b off m h cap0 h6 hh f a1 len1 he cap1 g a2 w ht hr hv hp hg x0 x1
    · have HRV := hid (rvars_ok (some ⟨b, off, none⟩) n len0 cap0 w hn hN)
      have h7 : (6 : Int) < (n : Int) := by omega
      clear w0 w1 w2 hr hv hp hg ht hN hmax
      go_enter Tryd.func3, Tryd.ntmps3
      go_wp2_with (go_at_call 6; refine (HRV.out).mono ?_; rintro e w' ⟨rfl, hw⟩; obtain rfl := hw.symm)
      go_ret
      exact ⟨rfl, Below.refl _ _⟩
  · have hbad : ∀ n, n ≤ 8 → len0 ≠ 2 ^ n := fun n hn e => hT ⟨n, hn, e⟩
    have HRV := hid (fun w => rvars_bad a0 len0 cap0 w hbad)
    have HVA := hid (fun w => vars_bad a0 len0 cap0 w hbad hmax)
    have HSU := hid (fun w => sum_bad a0 len0 cap0 w hbad hmax)
    have HFI := hid (fun w => fix_bad a0 len0 cap0 a2 w hbad hmax)
    have HEV := hid (fun w => eval_bad a0 a1 len0 cap0 len1 cap1 w hbad hmax)
    have HEQ := hid (fun w => equal_ok none none 0 0 0 (fun _ => 0) (fun _ => 0) w (by omega) (fun h => by omega) (fun h => by omega) (fun _ _ => rfl))
    clear w0 w1 w2 hp hg ht hmax hT hbad
    go_enter Tryd.func3, Tryd.ntmps3
    go_wp2_with (first
      | (go_at_call 6; refine (HRV.out _).mono ?_; rintro e w1 ⟨rfl, hw⟩; obtain rfl := hw.symm)
      | (go_at_call 10; refine (HVA.out _).mono ?_; rintro e w1 ⟨rfl, hw⟩; obtain rfl := hw.symm)
      | (go_at_call 11; refine (HSU.out _).mono ?_; rintro e w1 ⟨rfl, hw⟩; obtain rfl := hw.symm)
      | (go_at_call 12; refine (HFI.out _).mono ?_; rintro e w1 ⟨rfl, hw⟩; obtain rfl := hw.symm)
      | (go_at_call 13; refine (HEV.out _).mono ?_; rintro e w1 ⟨rfl, hw⟩; obtain rfl := hw.symm)
      | (go_at_call 14; refine (HEQ.out _).mono ?_; rintro e w1 ⟨rfl, hb1⟩; have HB := hid hb1; clear hb1))
    go_ret
    exact ⟨rfl, HB.out⟩

set_option maxRecDepth 100000 in
theorem lifted (os : Os) (started : os.Started) (H : Type) (enc : TypeId × Value → H) :
    ReturnsInHanded {} Tryd.checked os 3 .any (fun w args => (Rows.mleSaysSpec.pre enc Tryd.prog Tryd.f3 [] false w args ∧ laidMetH Tryd.prog laidT w) ∧ sizedMet enc Tryd.prog Tryd.f3 (OpenSpec.ofChange Rows.mleSaysSpec) false w args) (Rows.mleSaysSpec.post enc Tryd.prog Tryd.f3 false true false false) := by
  refine wrap_and_shaped (C := Tryd.checked) (X := fun w _ => laidMetH Tryd.prog laidT w) (fun _ _ _ hh h => h.of_heap hh) own started (by kernel_rfl) Tryd.func3
    (ChangeSpec.witness_shaped (enc := enc) (C := Tryd.checked) (os := os) (X := fun w _ => laidMetH Tryd.prog laidT w) false (World.laidAll Tryd.prog os laidT) #[.slice none 0 0, .slice none 0 0, .int .u64 0] 8 (World.laidAll_os _ _ _) (World.shaped_of_ZipB (by kernel_rfl) (by kernel_rfl)) (by kernel_rfl) (by kernel_rfl) (by kernel_rfl) (door_met os _)) ?_
  intro W base args ds gs before hval0 hW _ _ hL hsh _
  have hval : ∀ (j : Nat) t v, Tryd.f3.params[j]? = some t → args[j]? = some v → Value.okWide Tryd.prog W .any base t v := hval0
  have hW' := hW
  obtain ⟨p, q, hA0, hV, rfl, hfz, hnd⟩ := hW
  have hA : DataW.TrodAll enc Tryd.prog W 0 (fun _ => true) true Tryd.f3.params.toList args.toList ds p := hA0
  rw [Tryd.params3] at hA hval
  obtain ⟨v0, vs0, d0, ds0, p0, q0, hargs, rfl, rfl, h0, r0⟩ := trodAll_cons hA
  obtain ⟨v1, vs1, d1, ds1, p1, q1, rfl, rfl, rfl, h1, r1⟩ := trodAll_cons r0
  obtain ⟨v2, vs2, d2, ds2, p2, q2, rfl, rfl, rfl, h2, r2⟩ := trodAll_cons r1
  obtain ⟨rfl, rfl, rfl⟩ := trodAll_nil r2
  obtain rfl : args = #[v0, v1, v2] := by cases args; simp_all
  obtain ⟨rfl, rfl⟩ := trodVars_none hV
  obtain ⟨a0, len0, cap0, rfl⟩ := okWide_slice Tryd.underlying22 (hval 0 22 v0 rfl rfl)
  have k0 := h0
  have lt0 : ∀ x ∈ p0, x.block < W.heap.size := by obtain ⟨m, hm⟩ := k0; exact DataW.trod_lt m _ _ _ hm
  obtain ⟨z0, w0⟩ : ∃ zs, IsRow .u64 W a0 len0 cap0 zs := by
    obtain ⟨fuel, hf⟩ := h0
    rcases open_ints Tryd.underlying22 Tryd.underlying23 (by kernel_rfl) hf with ⟨hcs, _⟩ | ⟨x, l, c, zs, hcs, _, hl, hm, hz, _, hcell, hwz⟩
    · simp [Value.cells] at hcs
      obtain ⟨rfl, rfl, rfl⟩ := hcs
      exact ⟨[], .inl ⟨rfl, rfl, rfl, rfl⟩⟩
    · simp [Value.cells] at hcs
      obtain ⟨rfl, rfl, rfl⟩ := hcs
      exact ⟨zs, .inr ⟨_, rfl, hl, hm, by simpa using hz, hcell, hwz⟩⟩
  obtain ⟨a1, len1, cap1, rfl⟩ := okWide_slice Tryd.underlying22 (hval 1 22 v1 rfl rfl)
  have k1 := h1
  have lt1 : ∀ x ∈ p1, x.block < W.heap.size := by obtain ⟨m, hm⟩ := k1; exact DataW.trod_lt m _ _ _ hm
  obtain ⟨z1, w1⟩ : ∃ zs, IsRow .u64 W a1 len1 cap1 zs := by
    obtain ⟨fuel, hf⟩ := h1
    rcases open_ints Tryd.underlying22 Tryd.underlying23 (by kernel_rfl) hf with ⟨hcs, _⟩ | ⟨x, l, c, zs, hcs, _, hl, hm, hz, _, hcell, hwz⟩
    · simp [Value.cells] at hcs
      obtain ⟨rfl, rfl, rfl⟩ := hcs
      exact ⟨[], .inl ⟨rfl, rfl, rfl, rfl⟩⟩
    · simp [Value.cells] at hcs
      obtain ⟨rfl, rfl, rfl⟩ := hcs
      exact ⟨zs, .inr ⟨_, rfl, hl, hm, by simpa using hz, hcell, hwz⟩⟩
  obtain ⟨a2, rfl, rfl, rfl, w2⟩ := open_int Tryd.underlying23 (hval 2 23 v2 rfl rfl) h2
  clear hA0 hval0
  refine (walk a0 len0 cap0 z0 a1 len1 cap1 z1 a2 W w0 w1 w2 (tab_of_laid hL)).mono fun e W' ⟨he, bel⟩ => ?_
  subst he
  exact ⟨_, rfl, _, _, _, [], _, [], hW', trodAll_mk1 (shut_bool Tryd.underlying4 _), (trodAll_cons_mk (Below.trod laidOut (by kernel_rfl) (of_decide_eq_true (by kernel_rfl)) k0 bel lt0) (trodAll_cons_mk (Below.trod laidOut (by kernel_rfl) (of_decide_eq_true (by kernel_rfl)) k1 bel lt1) (trodAll_cons_mk (shut_int Tryd.underlying23 w2) trodAll_mk0))), rfl, bel.frame _, fun h => by cases h⟩

theorem over : Rows.mleSaysRow.holds Tryd.pinned (OpenSpec.ofChange Rows.mleSaysSpec) :=
  OpenClaim.holds_of_wide 3 Tryd.f3 rfl rfl rfl rfl rfl rfl rfl ⟨rfl, rfl, rfl, rfl, rfl⟩ rfl rfl rfl rfl rfl (by kernel_rfl) Tryd.func3 (by kernel_rfl)
    (of_decide_eq_true (by kernel_rfl)) (by unfold Func.isWrapper; first | (rw [if_pos (by decide +kernel)]; kernel_rfl) | (rw [if_neg (by decide +kernel)]; exact ⟨rfl, rfl⟩))
    (fun os started H enc _ => lifted os started H enc)

/-- ████ THE STATEMENT ████ -/
theorem proved : Rows.MleSaysSaid := over
end Go.Proofs.YtoogpkcpheannaaDoor.mleSays

namespace Go.Proofs.YtoogpkcpheannaaDoor
/-- The given statement: the row's, tied to the program's text. -/
theorem mleSays_holds : Rows.MleSaysCardSaid :=
  Claim7.holds_tied_plain_at .later [] [.data, .data] true (true, "287f21f75c4a23ec8e66bf8296e90ad98cae14138d756f3ed6db4f2d476e5d45") false
    mleSays.proved (fun _ h => by cases h) (by kernel_rfl) (fun _ h => by cases h) mleSays_row_tie rfl ⟨rfl, rfl⟩ (by kernel_rfl) rfl
    (fun f fn hf hfn => by
      obtain rfl : f = 3 := Option.some.inj ((show Tryd.prog.funcNamed "tallystick/tallylaw.MleSays" = some 3 by kernel_rfl).symm.trans hf) |>.symm
      obtain rfl : fn = Tryd.f3 := (Option.some.inj (Tryd.func3.symm.trans hfn)).symm
      exact ⟨by kernel_rfl, fun j t ht => by
        rw [Tryd.params3] at ht
        have hm : t ∈ [22, 22, 23] := by simpa using Array.mem_of_getElem? ht
        have hall : ([22, 22, 23].all fun u => !Tryd.prog.wantsStandIn u) = true := by kernel_rfl
        exact (show Tryd.prog.wantsStandIn t = false by simpa using List.all_eq_true.1 hall t hm)⟩)
    (by kernel_rfl)
end Go.Proofs.YtoogpkcpheannaaDoor
