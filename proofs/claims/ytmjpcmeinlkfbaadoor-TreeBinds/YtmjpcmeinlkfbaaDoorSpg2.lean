/-
  Contracts of package sponge's functions, each for every input: mix, takeOne, Take, Give turn the sponge's own block and write nothing else that was there; New and Pair write nothing that was there.
-/
import Derived.Test.YtmjpcmeinlkfbaaDoorSpg
namespace Go.Proofs.YtmjpcmeinlkfbaaDoor
open Go.RowKit
set_option linter.unusedVariables false
attribute [local go_sem ↓] Go.wp_at_zero Go.wp_at_succ

/-- The numbers behind n turns. -/
def mixF (f : Nat → Int) : Nat → Nat → Int
  | 0 => f
  | n + 1 => numsK (mixK (fun k => kk (f k)) (n + 1))
theorem Nums_mixF {f : Nat → Int} (hv : Nums f) (n : Nat) : Nums (mixF f n) := by
  cases n with
  | zero => exact hv
  | succ n => exact Nums_K _
theorem kk_mixF (f : Nat → Int) (n : Nat) : (fun k => kk (mixF f n k)) = mixK (fun k => kk (f k)) n := by
  cases n with
  | zero => rfl
  | succ n => funext k; show kk (ofK _) = _; rw [kk_ofK]
theorem kk_numsK (g : Nat → K) : (fun k => kk (numsK g k)) = g := by funext k; show kk (ofK _) = _; rw [kk_ofK]

set_option maxHeartbeats 1000000 in
set_option maxRecDepth 100000 in
theorem mix_any (b : Nat) (f : Nat → Int) (w : World) (hr : Row w b 0 3 f) (hf : Free w b 0 3) (hv : Nums f) :
    Calls Tryd.prog 87 #[.pointer (some ⟨b, 0, none⟩)] w fun e w' => e = .returned (.tuple #[]) ∧ Turned b w w' ∧ Row w' b 0 3 (numsK (mixed fun k => kk (f k))) ∧ Free w' b 0 3 := by
  have HR := hid hr
  have HF := hid hf
  have HV := hid hv
  clear hr hf hv
  go_enter Tryd.func87, Tryd.ntmps87
  go_wp2_with fail
  go_loopg [2] 8 (fun q i wr => ∃ n : Nat, n ≤ 8 ∧ q = 8 - n ∧ i = .int .u64 ((n : Int) + 1) ∧ Hid (Turned b w wr) ∧ Hid (Row wr b 0 3 (mixF f n)) ∧ Hid (Free wr b 0 3))
  case atStart => exact ⟨0, by omega, rfl, rfl, hid (Turned.refl _ _), HR, HF⟩
  case round =>
    clear HR HF
    obtain ⟨n, hn, rfl, rfl, HTU, HR, HF⟩ := hrel
    by_cases hlt : n < 8
    · have n0 : (n : Int) + 1 ≤ 8 := by omega
      have hT := turn_any b (n + 1) (mixF f n) wr (by omega) HR.out HF.out (Nums_mixF HV.out n)
      rw [kk_mixF, show ((n + 1 : Nat) : Int) = (n : Int) + 1 from by omega] at hT
      have HT := hid hT
      clear hT
      go_wp2_with (go_at_call 103; refine (HT.out).mono ?_; rintro e w1 ⟨rfl, ht, hr, hf⟩; have HT1 := hid ht; have HR1 := hid hr; have HF1 := hid hf; clear ht hr hf)
      go_roundg (8 - (n + 1))
      case measure => go_light; omega
      case rel => exact ⟨n + 1, by omega, rfl, by go_num, hid (HTU.out.trans HT1.out), HR1, HF1⟩
    · have e : n = 8 := by omega
      subst e
      go_wp2_with fail
      go_end0
      exact ⟨rfl, HTU.out, HR.out, HF.out⟩

set_option maxHeartbeats 1000000 in
theorem give_any (b : Nat) (g : Nat → K) (w : World) (hr : Row w b 0 3 (numsK g)) (hf : Free w b 0 3) :
    Calls Tryd.prog 61 #[.pointer (some ⟨b, 0, none⟩)] w fun e w' => e = .returned (.int .u64 (ofK (g 1))) ∧ Turned b w w' ∧ Row w' b 0 3 (numsK (mixed g)) ∧ Free w' b 0 3 := by
  have hM := mix_any b (numsK g) w hr hf (Nums_K g)
  rw [kk_numsK] at hM
  have HM := hid hM
  have c1 := hr 1 (by omega)
  rw [Nat.zero_add] at c1
  obtain ⟨y, hy⟩ : ∃ y, ofK (g 1) = y := ⟨_, rfl⟩
  have hy2 : numsK g 1 = y := hy
  rw [hy2] at c1
  rw [hy]
  clear hr hf hy hy2 hM
  go_enter Tryd.func61, Tryd.ntmps61
  go_wp2_with (go_at_call 87; refine (HM.out).mono ?_; rintro e w1 ⟨rfl, ht, hr, hf⟩; have HT := hid ht; have HR := hid hr; have HF := hid hf; clear ht hr hf)
  go_ret
  exact ⟨rfl, HT.out, HR.out, HF.out⟩

set_option maxHeartbeats 1000000 in
set_option maxRecDepth 100000 in
theorem takeOne_any (b : Nat) (g : Nat → K) (x : Int) (w : World) (hr : Row w b 0 3 (numsK g)) (hf : Free w b 0 3) (x0 : 0 ≤ x) (x1 : x ≤ 18446744073709551615) :
    Calls Tryd.prog 88 #[.pointer (some ⟨b, 0, none⟩), .int .u64 x] w fun e w' => e = .returned (.tuple #[]) ∧ Turned b w w' ∧ Row w' b 0 3 (numsK (takeK g (kk x))) ∧ Free w' b 0 3 := by
  have c1 := hr 0 (by omega)
  have f1 := hf 0 (by omega)
  rw [Nat.zero_add] at c1 f1
  obtain ⟨s, hs⟩ : ∃ s, ofK (g 0) = s := ⟨_, rfl⟩
  have hs2 : numsK g 0 = s := hs
  have sr := ofK_rng (g 0)
  rw [hs] at sr
  rw [hs2] at c1
  obtain ⟨s0, s1⟩ := sr
  have hst := add_row (x := x) hr hf
  rw [hs] at hst
  have hM := mix_any b _ _ hst.1 hst.2 (Nums_K _)
  rw [kk_numsK] at hM
  have HM := hid hM
  clear hr hf hs hs2 hst hM
  go_enter Tryd.func88, Tryd.ntmps88
  go_wp2_with fail
  refine (add_any s x _ (by omega) (by omega) (by omega) (by omega)).mono ?_
  rintro e w' ⟨rfl, hw⟩
  obtain rfl := hw.symm
  go_wp2_with (go_at_call 87; refine (HM.out).mono ?_; rintro e w1 ⟨rfl, ht, hr, hf⟩; have HT := hid ht; have HR := hid hr; have HF := hid hf; clear ht hr hf)
  go_end0
  exact ⟨rfl, ((Turned.refl b _).setCell 0 (.int .u64 (addQ s x))).trans HT.out, HR.out, HF.out⟩

set_option maxHeartbeats 400000 in
theorem take_large (b n cap : Nat) (ao : Option Addr) (w : World) (hn : 1000 < n) :
    Calls Tryd.prog 60 #[.pointer (some ⟨b, 0, none⟩), .slice ao n cap] w fun e w' => e = .returned (.int .i64 2) ∧ w' = w := by
  have h1 : (1000 : Int) < (n : Int) := by omega
  go_enter Tryd.func60, Tryd.ntmps60
  go_wp2_with fail
  go_ret
  exact ⟨rfl, rfl⟩

set_option maxHeartbeats 1000000 in
set_option maxRecDepth 100000 in
theorem take_any (b : Nat) (g : Nat → K) (ao : Option Addr) (n cap : Nat) (f : Nat → Int) (w : World) (hr : Row w b 0 3 (numsK g)) (hf : Free w b 0 3) (hn : n ≤ 1000) (hp : PRow w ao n f) (hv : Nums f) (hne : 0 < n → ∀ c o, ao = some ⟨c, o, none⟩ → c ≠ b) :
    Calls Tryd.prog 60 #[.pointer (some ⟨b, 0, none⟩), .slice ao n cap] w fun e w' => e = .returned (.int .i64 0) ∧ Turned b w w' ∧ Row w' b 0 3 (numsK (takesK g n f n)) ∧ Free w' b 0 3 := by
  have HT0 := hid (takeOne_any b g (n : Int) w hr hf (by omega) (by omega))
  have HP := hid hp
  have HV := hid hv
  have HNE := hid hne
  clear hr hf hp hv hne
  have n1 : ¬ (1000 : Int) < (n : Int) := by omega
  have wn : IntKind.u64.wrap (n : Int) = (n : Int) := by rw [IntKind.wrap_u64]; omega
  go_enter Tryd.func60, Tryd.ntmps60
  go_wp2_with (go_at_call 88; refine (HT0.out).mono ?_; rintro e w1 ⟨rfl, ht, hr, hf⟩; have HT := hid ht; have HR := hid hr; have HF := hid hf; clear ht hr hf)
  go_loopg [17, 6] n (fun q i a wr => ∃ k : Nat, k ≤ n ∧ q = n - k ∧ i = .int .i64 (k : Int) ∧ Hid (Turned b w wr) ∧ Hid (Row wr b 0 3 (numsK (takesK g n f k))) ∧ Hid (Free wr b 0 3))
  case atStart => exact ⟨0, by omega, rfl, rfl, HT, HR, HF⟩
  case round =>
    clear HR HF HT
    obtain ⟨k, hk, rfl, rfl, HTU, HR, HF⟩ := hrel
    by_cases hlt : k < n
    · obtain ⟨bl, ol, rfl, hrl⟩ := HP.out (by omega)
      have cl := (hrl.turned HTU.out (HNE.out (by omega) bl ol rfl)) k (by omega)
      obtain ⟨x, hx⟩ : ∃ x, f k = x := ⟨_, rfl⟩
      have bx := HV.out k
      rw [hx] at cl bx
      obtain ⟨x0, x1⟩ := bx
      have HT1 := hid (takeOne_any b (takesK g n f k) x wr HR.out HF.out x0 x1)
      have HX := hid hx
      clear hrl hx
      have j0 : (0 : Int) ≤ (k : Int) := by omega
      have j1 : (k : Int) < (n : Int) := by omega
      go_wp2_with (go_at_call 88; refine (HT1.out).mono ?_; rintro e w2 ⟨rfl, ht, hr, hf⟩; have HT2 := hid ht; have HR2 := hid hr; have HF2 := hid hf; clear ht hr hf)
      go_roundg (n - (k + 1))
      case measure => go_light; omega
      case rel => exact ⟨k + 1, by omega, rfl, by go_num, hid (HTU.out.trans HT2.out), hid (by rw [takesK, HX.out]; exact HR2.out), HF2⟩
    · have e : k = n := by omega
      subst e
      go_wp2_with fail
      go_ret
      exact ⟨rfl, HTU.out, HR.out, HF.out⟩

set_option maxHeartbeats 1000000 in
theorem new_any (word : Int) (w : World) (h0 : 0 ≤ word) (h1 : word ≤ 18446744073709551615) :
    Calls Tryd.prog 59 #[.int .u64 word] w fun e w' => e = .returned (.pointer (some ⟨w.heap.size, 0, none⟩)) ∧ Below w.heap.size w w' ∧ w.heap.size < w'.heap.size ∧ Row w' w.heap.size 0 3 (numsK (mixed (newK word))) ∧ Free w' w.heap.size 0 3 := by
  obtain ⟨hr, hf⟩ := row_new3 w 0 1 word 131
  have hM := mix_any w.heap.size _ _ hr hf (Nums_set3 (by omega) (by omega) ⟨h0, h1⟩)
  rw [kk_set3] at hM
  have HM := hid hM
  have hlt := hr.lt (by omega)
  have HB : Hid (Below w.heap.size w (w.alloc (.cells #[.int .u64 0, .int .u64 1, .int .u64 word] 131))) := hid ((Below.refl _ w).alloc (Nat.le_refl _) _)
  have HLT := hid hlt
  clear hr hf hM hlt
  go_enter Tryd.func59, Tryd.ntmps59
  go_wp2_with (go_at_call 87; refine (HM.out).mono ?_; rintro e w1 ⟨rfl, ht, hr, hf⟩; have HT := hid ht; have HR := hid hr; have HF := hid hf; clear ht hr hf)
  go_ret
  exact ⟨rfl, HB.out.trans (HT.out.below (Nat.le_refl _) HB.out.size), Nat.lt_of_lt_of_le HLT.out HT.out.size, HR.out, HF.out⟩

set_option maxHeartbeats 1000000 in
set_option maxRecDepth 100000 in
theorem pair_any (a b : Int) (w : World) (h0 : 0 ≤ a) (h1 : a ≤ 18446744073709551615) (g0 : 0 ≤ b) (g1 : b ≤ 18446744073709551615) :
    Calls Tryd.prog 29 #[.int .u64 a, .int .u64 b] w fun e w' => e = .returned (.int .u64 (ofK (pairK a b))) ∧ Below w.heap.size w w' := by
  have HN := hid (new_any 7 w (by omega) (by omega))
  go_enter Tryd.func29, Tryd.ntmps29
  go_wp2_with fail
  refine (HN.out).mono ?_
  rintro e w1 ⟨rfl, hb, hlt, hr, hf⟩
  have hB : Below w1.heap.size w1 (w1.alloc (.cells #[.int .u64 a, .int .u64 b] 45)) := (Below.refl _ w1).alloc (Nat.le_refl _) _
  have hT := take_any w.heap.size _ (some ⟨w1.heap.size, 0, none⟩) 2 2 (pairF a b) _ (hr.kept hB hlt) (hf.kept hB hlt) (by omega) (PRow.of (pair_lit w1 a b 45)) (Nums_pair h0 h1 g0 g1) (fun _ c o e => by injection e with e; injection e with e1 e2; omega)
  have HB : Hid (Below w.heap.size w (w1.alloc (.cells #[.int .u64 a, .int .u64 b] 45))) := hid (hb.trans (hB.mono hb.size))
  have HT := hid hT
  clear hb hr hf hB hT HN
  go_wp2_with fail
  refine (HT.out).mono ?_
  rintro e w2 ⟨rfl, ht, hr, hf⟩
  have HB2 : Hid (Below w.heap.size w w2) := hid (HB.out.trans (ht.below (Nat.le_refl _) HB.out.size))
  have HG := hid (give_any w.heap.size _ w2 hr hf)
  clear ht hr hf HB HT
  go_wp2_with fail
  refine (HG.out).mono ?_
  rintro e w3 ⟨rfl, ht, hr, hf⟩
  have HB3 : Hid (Below w.heap.size w w3) := hid (HB2.out.trans (ht.below (Nat.le_refl _) HB2.out.size))
  clear ht hr hf
  go_wp2_with fail
  go_ret
  exact ⟨rfl, HB3.out⟩

end Go.Proofs.YtmjpcmeinlkfbaaDoor
