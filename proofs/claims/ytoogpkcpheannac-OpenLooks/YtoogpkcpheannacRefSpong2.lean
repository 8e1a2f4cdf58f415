/-
  Contracts of tallyref's Sponge: Give and Take; each turns the sponge's own block, makes new ones, and writes nothing else that was there.
-/
import Derived.Test.YtoogpkcpheannacRefSpong
namespace Go.Proofs.Ytoogpkcpheannac
open Go.RowKit
set_option linter.unusedVariables false
attribute [local go_sem ↓] Go.wp_at_zero Go.wp_at_succ

set_option maxHeartbeats 1000000 in
theorem rgive_any (b : Nat) (g : Nat → K) (w : World) (hr : Row w b 0 3 (numsK g)) (hf : Free w b 0 3) :
    Calls Try.prog 25 #[.pointer (some ⟨b, 0, none⟩)] w fun e w' => e = .returned (.int .u64 (ofK (g 1))) ∧ Turned b w w' ∧ Row w' b 0 3 (numsK (mixed g)) ∧ Free w' b 0 3 := by
  have HM := hid (rmix_any b g w hr hf)
  have c1 := hr 1 (by omega)
  rw [Nat.zero_add] at c1
  obtain ⟨y, hy⟩ : ∃ y, ofK (g 1) = y := ⟨_, rfl⟩
  have hy2 : numsK g 1 = y := hy
  rw [hy2] at c1
  rw [hy]
  clear hr hf hy hy2
  go_enter Try.func25, Try.ntmps25
  go_wp2_with (go_at_call 31; refine (HM.out).mono ?_; rintro e w1 ⟨rfl, ht, hr, hf⟩; have HT := hid ht; have HR := hid hr; have HF := hid hf; clear ht hr hf)
  go_ret
  exact ⟨rfl, HT.out, HR.out, HF.out⟩

/-- A sponge's numbers behind k steps of Take. -/
def stK (g : Nat → K) (n : Nat) (f : Nat → Int) : Nat → Nat → K
  | 0 => g
  | k + 1 => takesK g n f k
theorem stK_step (g : Nat → K) (n : Nat) (f : Nat → Int) (k : Nat) : takeK (stK g n f k) (if k = 0 then kn n else kk (f (k - 1))) = stK g n f (k + 1) := by
  cases k with
  | zero => rfl
  | succ k => rw [if_neg (by omega)]; rfl
set_option maxHeartbeats 4000000 in
set_option maxRecDepth 100000 in
theorem rtake_any (b : Nat) (g : Nat → K) (ao : Option Addr) (n cap : Nat) (f : Nat → Int) (w : World) (hr : Row w b 0 3 (numsK g)) (hf : Free w b 0 3) (hn : n ≤ 1000) (hp : PRow w ao n f) (hv : Nums f) (hne : 0 < n → ∀ c o, ao = some ⟨c, o, none⟩ → c ≠ b) :
    Calls Try.prog 24 #[.pointer (some ⟨b, 0, none⟩), .slice ao n cap] w fun e w' => e = .returned (.tuple #[]) ∧ Turned b w w' ∧ Row w' b 0 3 (numsK (takesK g n f n)) ∧ Free w' b 0 3 := by
  have HR := hid hr
  have HF := hid hf
  have HP := hid hp
  have HV := hid hv
  have HNE := hid hne
  clear hr hf hp hv hne
  go_enter Try.func24, Try.ntmps24
  go_wp2_with fail
  go_loopg [4] (n + 1) (fun q i wr => ∃ (k : Nat) (t : Int), k ≤ n + 1 ∧ q = n + 1 - k ∧ i = .int .i64 t ∧ Hid (t = (k : Int) - 1) ∧ Hid (Turned b w wr) ∧ Hid (Row wr b 0 3 (numsK (stK g n f k))) ∧ Hid (Free wr b 0 3))
  case atStart => exact ⟨0, -1, by omega, rfl, rfl, hid rfl, hid (Turned.refl _ _), HR, HF⟩
  case round =>
    clear HR HF
    obtain ⟨k, t, hk, rfl, rfl, HT, HTU, HR, HF⟩ := hrel
    by_cases hlt : k < n + 1
    · have c1 := HR.out 0 (by omega)
      have f1 := HF.out 0 (by omega)
      rw [Nat.zero_add] at c1 f1
      obtain ⟨s, hs⟩ : ∃ s, ofK (stK g n f k 0) = s := ⟨_, rfl⟩
      have hs2 : numsK (stK g n f k) 0 = s := hs
      have sr := ofK_rng (stK g n f k 0)
      rw [hs] at sr
      rw [hs2] at c1
      obtain ⟨s0, s1⟩ := sr
      by_cases hk0 : k = 0
      · have ht : t = -1 := by have := HT.out; omega
        subst ht
        have hst := add_row (x := (n : Int)) HR.out HF.out
        rw [hs] at hst
        have HST := hid hst
        have HX : Hid (kk (n : Int) = if k = 0 then kn n else kk (f (k - 1))) := hid (by rw [if_pos hk0]; rfl)
        clear hs hs2 hst hk0
        have wn : IntKind.u64.wrap (n : Int) = (n : Int) := by rw [IntKind.wrap_u64]; omega
        have n0 : (-1 : Int) < (n : Int) := by omega
        go_wp2_with fail
        refine wp_region_still_tail 11 Try.mixedS (by kernel_rfl) ?_
        simp only [List.take_succ_cons, List.take_zero, List.drop_succ_cons, List.drop_zero]
        iterate 7 still_step
        still_call (radd_any s (n : Int) _ (by omega) (by omega) (by omega) (by omega))
        iterate 3 still_step
        refine wpStill_nil ?_
        go_wp2_with fail
        refine (rmix_any b _ _ (by exact HST.out.1) (by exact HST.out.2)).mono ?_
        rintro e w1 ⟨rfl, ht1, hr1, hf1⟩
        have HT1 : Hid (Turned b w w1) := hid ((HTU.out.setCell 0 (.int .u64 (addQ s (n : Int)))).trans ⟨ht1.os, ht1.tape, ht1.output, ht1.size, ht1.block⟩)
        have HR1 : Hid (Row w1 b 0 3 (numsK (stK g n f (k + 1)))) := hid (by rw [← stK_step, ← HX.out]; exact hr1)
        have HF1 := hid hf1
        clear ht1 hr1 hf1
        go_wp2_with fail
        go_roundg (n + 1 - (k + 1))
        case measure => go_light; omega
        case rel => exact ⟨k + 1, _, by omega, rfl, rfl, hid (by have := HT.out; omega), HT1, HR1, HF1⟩
      · obtain ⟨j, hj⟩ : ∃ j : Nat, k = j + 1 := ⟨k - 1, by omega⟩
        have ht : t = (j : Int) := by have := HT.out; omega
        subst ht
        obtain ⟨bl, ol, rfl, hrl⟩ := HP.out (by omega)
        have cl := (hrl.turned HTU.out (HNE.out (by omega) bl ol rfl)) j (by omega)
        obtain ⟨x, hx⟩ : ∃ x, f j = x := ⟨_, rfl⟩
        have bx := HV.out j
        rw [hx] at cl bx
        obtain ⟨x0, x1⟩ := bx
        have hst := add_row (x := x) HR.out HF.out
        rw [hs] at hst
        have HST := hid hst
        have HX : Hid (kk x = if k = 0 then kn n else kk (f (k - 1))) := hid (by rw [if_neg hk0, hj, Nat.add_sub_cancel, hx])
        clear hs hs2 hst hk0 hrl hx
        have j0 : (0 : Int) ≤ (j : Int) := by omega
        have j1 : (j : Int) < (n : Int) := by omega
        go_wp2_with fail
        refine wp_region_still_tail 11 Try.mixedS (by kernel_rfl) ?_
        simp only [List.take_succ_cons, List.take_zero, List.drop_succ_cons, List.drop_zero]
        iterate 7 still_step
        still_call (radd_any s x _ (by omega) (by omega) (by omega) (by omega))
        iterate 3 still_step
        refine wpStill_nil ?_
        go_wp2_with fail
        refine (rmix_any b _ _ (by exact HST.out.1) (by exact HST.out.2)).mono ?_
        rintro e w1 ⟨rfl, ht1, hr1, hf1⟩
        have HT1 : Hid (Turned b w w1) := hid ((HTU.out.setCell 0 (.int .u64 (addQ s x))).trans ⟨ht1.os, ht1.tape, ht1.output, ht1.size, ht1.block⟩)
        have HR1 : Hid (Row w1 b 0 3 (numsK (stK g n f (k + 1)))) := hid (by rw [← stK_step, ← HX.out]; exact hr1)
        have HF1 := hid hf1
        clear ht1 hr1 hf1
        go_wp2_with fail
        go_roundg (n + 1 - (k + 1))
        case measure => go_light; omega
        case rel => exact ⟨k + 1, _, by omega, rfl, rfl, hid (by have := HT.out; omega), HT1, HR1, HF1⟩
    · have e : k = n + 1 := by omega
      subst e
      have ht : t = (n : Int) := by have := HT.out; omega
      subst ht
      go_wp2_with fail
      go_end0
      exact ⟨rfl, HTU.out, HR.out, HF.out⟩

end Go.Proofs.Ytoogpkcpheannac
