/-
  Contracts of tallyref's NewSponge and Pair, each for every input: they answer what the functions of the text Spong tell, and write nothing that was there.
-/
import Derived.Test.YtoogpkcpheannacRefSpong2
namespace Go.Proofs.Ytoogpkcpheannac
open Go.RowKit
set_option linter.unusedVariables false
attribute [local go_sem ↓] Go.wp_at_zero Go.wp_at_succ

theorem set3_new (word : Int) (j : Nat) : set3 0 1 (nrm word) j = numsK (newK word) j := by
  unfold set3 numsK newK
  by_cases h0 : j = 0
  · rw [if_pos h0, if_pos h0]; rfl
  · rw [if_neg h0, if_neg h0]
    by_cases h1 : j = 1
    · rw [if_pos h1, if_pos h1]; rfl
    · rw [if_neg h1, if_neg h1]; exact nrm_ofK word

set_option maxHeartbeats 1000000 in
theorem rnew_any (word : Int) (w : World) (h0 : 0 ≤ word) (h1 : word ≤ 18446744073709551615) :
    Calls Try.prog 23 #[.int .u64 word] w fun e w' => e = .returned (.pointer (some ⟨w.heap.size, 0, none⟩)) ∧ Below w.heap.size w w' ∧ w.heap.size < w'.heap.size ∧ Row w' w.heap.size 0 3 (numsK (mixed (newK word))) ∧ Free w' w.heap.size 0 3 := by
  obtain ⟨z, hz⟩ : ∃ z, nrm word = z := ⟨_, rfl⟩
  have hN := rnorm_any word w h0 h1
  rw [hz] at hN
  have HN := hid hN
  obtain ⟨hr, hf⟩ := row_new3 w 0 1 z 60
  have hM := rmix_any w.heap.size (newK word) _ (hr.congr fun j _ => by rw [← hz]; exact set3_new word j) hf
  have HM := hid hM
  have hlt := hr.lt (by omega)
  have HB : Hid (Below w.heap.size w (w.alloc (.cells #[.int .u64 0, .int .u64 1, .int .u64 z] 60))) := hid ((Below.refl _ w).alloc (Nat.le_refl _) _)
  have HLT := hid hlt
  clear hr hf hM hlt hN hz
  go_enter Try.func23, Try.ntmps23
  go_wp2_with (first
    | (go_at_call 12; refine (HN.out).mono ?_; rintro e w' ⟨rfl, hw⟩; obtain rfl := hw.symm)
    | (go_at_call 31; refine (HM.out).mono ?_; rintro e w1 ⟨rfl, ht, hr, hf⟩; have HT := hid ht; have HR := hid hr; have HF := hid hf; clear ht hr hf))
  go_ret
  exact ⟨rfl, HB.out.trans (HT.out.below (Nat.le_refl _) HB.out.size), Nat.lt_of_lt_of_le HLT.out HT.out.size, HR.out, HF.out⟩

set_option maxHeartbeats 1000000 in
set_option maxRecDepth 100000 in
theorem rpair_any (a b : Int) (w : World) (h0 : 0 ≤ a) (h1 : a ≤ 18446744073709551615) (g0 : 0 ≤ b) (g1 : b ≤ 18446744073709551615) :
    Calls Try.prog 13 #[.int .u64 a, .int .u64 b] w fun e w' => e = .returned (.int .u64 (ofK (pairK a b))) ∧ Below w.heap.size w w' := by
  have HN := hid (rnew_any 7 w (by omega) (by omega))
  go_enter Try.func13, Try.ntmps13
  go_wp2_with fail
  refine (HN.out).mono ?_
  rintro e w1 ⟨rfl, hb, hlt, hr, hf⟩
  have hB : Below w1.heap.size w1 (w1.alloc (.cells #[.int .u64 a, .int .u64 b] 22)) := (Below.refl _ w1).alloc (Nat.le_refl _) _
  have hT := rtake_any w.heap.size _ (some ⟨w1.heap.size, 0, none⟩) 2 2 (pairF a b) _ (hr.kept hB hlt) (hf.kept hB hlt) (by omega) (PRow.of (pair_lit w1 a b 22)) (Nums_pair h0 h1 g0 g1) (fun _ c o e => by injection e with e; injection e with e1 e2; omega)
  have HB : Hid (Below w.heap.size w (w1.alloc (.cells #[.int .u64 a, .int .u64 b] 22))) := hid (hb.trans (hB.mono hb.size))
  have HT := hid hT
  clear hb hr hf hB hT HN
  go_wp2_with fail
  refine (HT.out).mono ?_
  rintro e w2 ⟨rfl, ht, hr, hf⟩
  have HB2 : Hid (Below w.heap.size w w2) := hid (HB.out.trans (ht.below (Nat.le_refl _) HB.out.size))
  have HG := hid (rgive_any w.heap.size _ w2 hr hf)
  clear ht hr hf HB HT
  go_wp2_with fail
  refine (HG.out).mono ?_
  rintro e w3 ⟨rfl, ht, hr, hf⟩
  have HB3 : Hid (Below w.heap.size w w3) := hid (HB2.out.trans (ht.below (Nat.le_refl _) HB2.out.size))
  clear ht hr hf
  go_wp2_with fail
  go_ret
  exact ⟨rfl, HB3.out⟩

end Go.Proofs.Ytoogpkcpheannac
