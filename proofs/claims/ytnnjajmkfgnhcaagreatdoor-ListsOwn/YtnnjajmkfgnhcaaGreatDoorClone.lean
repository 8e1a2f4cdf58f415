/-
  A contract of slices.Clone at numbers of 64 bits, of lists that have some: a new row with the same numbers; nothing that was there is written.
-/
import Derived.Test.YtnnjajmkfgnhcaaGreatDoorOwn
namespace Go.Proofs.YtnnjajmkfgnhcaaGreatDoor
open Go.RowKit
set_option linter.unusedVariables false

set_option maxHeartbeats 1000000 in
theorem clone_any (b off n cap : Nat) (f : Nat → Int) (w : World) (hn1 : 1 ≤ n) (hn : n ≤ 1000) (hr : Row w b off n f) :
    Calls Tryz.prog 11 #[.slice (some ⟨b, off, none⟩) n cap] w fun e w' => ∃ g c, e = .returned (.slice (some ⟨g, 0, none⟩) n c) ∧ w'.ownsRow w.heap.size 31 1 (.slice (some ⟨g, 0, none⟩) n c) n (cellsOf n f) ∧ Below w.heap.size w w' := by
  have HR := hid hr
  have HB := hid (hr.lt (by omega))
  clear hr
  obtain ⟨i0, hi, hz0, hz1, hz2⟩ := info_parts Tryz.infoO
  go_enter Tryz.func11, Tryz.ntmps11
  have hq : ∀ (w : World) (a : Option Addr) (n c n' c' : Nat), (binOp .eql 22 (.slice a n c) (.slice none n' c')).run Tryz.prog w = .ok (.bool a.isNone) w := fun w a n c n' c' => Lib.run_eql_slice_nil w _ _ a n c n' c' Tryz.underlying22
  go_wp2_with (at_builtin; refine wpList_append_lies _ rfl _ _ 22 rfl w.heap.size 31 i0 (.int .u64 0) 1 8 Tryz.underlying22 hi hz0 hz1 hz2 rfl (by decide) _ _ _ rfl (World.ownsRow_made w #[] 0 (Nat.le_refl _) (Nat.zero_le _) rfl) ⟨b, off, none⟩ n cap (cellsOf n f) rfl ?qc1 ?qc2 ?qc3 ?qc4 ?qc5 ?qc6 ?qc7 (w.heap.size + 1) ?qc8 ?_)
  case qc1 => rw [cellsOf_len]; omega
  case qc2 =>
    refine row_cells fun j hj => ?_
    rw [World.cell?_alloc_lt _ _ _ HB.out]
    exact HR.out j hj
  case qc3 => exact cellsOf_one n f
  case qc4 => omega
  case qc5 => unfold maxLen; omega
  case qc6 => omega
  case qc7 => simp
  case qc8 => simp
  intro g c w1 hown hgrow hat hlt
  have HO := hid hown
  have HG := hid hgrow
  clear hown hgrow hat hlt
  go_wp2
  go_ret
  refine ⟨g, c, rfl, HO.out, ?_⟩
  exact ((Below.refl _ w).alloc (Nat.le_refl _) _).grown HG.out (by simp) (by intro k hk; simp [Value.ownBlock] at hk; omega)

end Go.Proofs.YtnnjajmkfgnhcaaGreatDoor
