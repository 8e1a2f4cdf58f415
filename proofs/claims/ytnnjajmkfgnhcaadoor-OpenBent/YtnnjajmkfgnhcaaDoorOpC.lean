/-
  Contracts of package open's claim.next and claim.fits; they make new blocks and write nothing that was there.
-/
import Derived.Test.YtnnjajmkfgnhcaaDoorOpB
namespace Go.Proofs.YtnnjajmkfgnhcaaDoor
open Go.RowKit
set_option linter.unusedVariables false
attribute [local go_sem ↓] Go.wp_at_zero Go.wp_at_succ

theorem two_cases {s : Nat} (h : s < 2) : s = 0 ∨ s = 1 := by omega
set_option maxHeartbeats 2000000 in
set_option maxRecDepth 100000 in
theorem onext_any (n i q H : Nat) (ar ap pa ta : Option Addr) (nr cr cp pc nt tc : Nat) (v : Int) (P : Nat → Nat → Int) (w : World) (hn : n ≤ 8) (hi : i < n) (hH : H = hfQ n i) (hq : q < H) (hr : QRow w pa n P) :
    Calls Tryd.prog 79 #[.agg #[.slice ar nr cr, .slice ap n cp, .int .u64 v], .agg #[.slice pa n pc, .slice ta nt tc], .int .i64 (i : Int), .int .i64 (q : Int)] w fun e w' => e = .returned (.int .u64 (if i + 1 = n then v else P (i + 1) (q / hfQ n (i + 1)))) ∧ Below w.heap.size w w' := by
  have hb0 := bel_new w (.cells #[.slice ar nr cr, .slice ap n cp, .int .u64 v] 98)
  have hb1 := bel_new (w.alloc (.cells #[.slice ar nr cr, .slice ap n cp, .int .u64 v] 98)) (.cells #[.slice pa n pc, .slice ta nt tc] 72)
  have HB := hid (hb0.trans (hb1.mono hb0.size))
  clear hb0 hb1
  by_cases hl : i + 1 = n
  · rw [if_pos hl]
    have e1 : ((i : Int) == (n : Int) - 1) = true := by rw [beq_iff_eq]; omega
    clear hl hr
    go_enter Tryd.func79, Tryd.ntmps79
    go_wp2_with fail
    go_ret
    exact ⟨rfl, HB.out⟩
  · rw [if_neg hl]
    have e1 : ((i : Int) == (n : Int) - 1) = false := by rw [beq_eq_false_iff_ne]; omega
    have hin : i + 1 < n := by omega
    have e2 := hfQ_two hin
    have hp := hfQ_pos n (i + 1)
    have HH := hid (fun W => halfOf_any n (i + 1) W hn hin)
    have hle := hfQ_le (k := i + 1) hn
    obtain ⟨z, hz⟩ : ∃ z, hfQ n (i + 1) = z := ⟨_, rfl⟩
    rw [hz] at e2 hp HH hle ⊢
    obtain ⟨bq, oq, rfl, hrow⟩ := (hr.kept HB.out) (by omega)
    obtain ⟨c0, c1⟩ := hrow (i + 1) hin
    rw [Nat.mul_comm 2 (i + 1)] at c0 c1
    have hs : q / z < 2 := by rw [Nat.div_lt_iff_lt_mul hp]; omega
    have z1 : ((z : Int) == 0) = false := by rw [beq_eq_false_iff_ne]; omega
    have z2 : ¬ (z : Int) = 0 := by omega
    have n1 : (i : Int) + 1 < (n : Int) := by omega
    have n0 : (0 : Int) ≤ (i : Int) + 1 := by omega
    rcases two_cases hs with h | h
    · rw [h]
      have hd : (q : Int) / (z : Int) = 0 := by have : ((q / z : Nat) : Int) = (q : Int) / (z : Int) := by simp
                                                rw [← this, h]; rfl
      obtain ⟨x, hx⟩ : ∃ x, P (i + 1) 0 = x := ⟨_, rfl⟩
      rw [hx] at c0 ⊢
      clear hl hr hrow c1 hs h hx e2 hz hH
      go_enter Tryd.func79, Tryd.ntmps79
      go_wp2_with fail
      go_quiet (first | (go_at_call 67; exact Calls.quiet_of_same (HH.out _)))
      go_wp2_with fail
      go_ret
      exact ⟨rfl, Below.drewN' HB.out _⟩
    · rw [h]
      have hd : (q : Int) / (z : Int) = 1 := by have : ((q / z : Nat) : Int) = (q : Int) / (z : Int) := by simp
                                                rw [← this, h]; rfl
      obtain ⟨x, hx⟩ : ∃ x, P (i + 1) 1 = x := ⟨_, rfl⟩
      rw [hx] at c1 ⊢
      clear hl hr hrow c0 hs h hx e2 hz hH
      go_enter Tryd.func79, Tryd.ntmps79
      go_wp2_with fail
      go_quiet (first | (go_at_call 67; exact Calls.quiet_of_same (HH.out _)))
      go_wp2_with fail
      go_ret
      exact ⟨rfl, Below.drewN' HB.out _⟩

end Go.Proofs.YtnnjajmkfgnhcaaDoor
