/-
  A contract of package fiat's Words, of circuits that have an error.
-/
import Derived.Test.YtmjpcmeinlkfbaaDoorWirC
import Derived.Test.YtmjpcmeinlkfbaaDoorCircC
namespace Go.Proofs.YtmjpcmeinlkfbaaDoor
open Go.RowKit
set_option linter.unusedVariables false
attribute [local go_sem ↓] Go.wp_at_zero Go.wp_at_succ

set_option maxHeartbeats 2000000 in
set_option maxRecDepth 100000 in
theorem words_bad (c : CQ) (g : Int) (ao : Option Addr) (n cap : Nat) (A : Nat → Option Addr) (C : Nat → Nat) (x : Int) (w : World) (hg : c.log = g) (hn : c.layers.length = n) (hr : CRow w ao c.layers A C) (hx : checkE c x) (hx0 : x ≠ 0) :
    Calls Tryd.prog 14 #[.agg #[.int .i64 g, .slice ao n cap]] w fun e w' => e = .returned (.tuple #[.slice none 0 0, .int .i64 x]) ∧ Below w.heap.size w w' := by
  have HS0 := hid (StW.start w g (.slice ao n cap) 24)
  have HC : Hid (∀ W, Below w.heap.size w W → Calls Tryd.prog 31 #[.agg #[.int .i64 g, .slice ao n cap]] W fun e w' => e = .returned (.int .i64 x) ∧ Below W.heap.size W w') := hid (fun W h => (check_any c g ao n cap A C W hg hn (hr.kept h)).mono fun e w' ⟨y, he, hy, hb⟩ => ⟨by rw [he, checkE_one hy hx], hb⟩)
  have e1 : (x != 0) = true := by simp [hx0]
  clear hr hg hn hx hx0
  go_enter Tryd.func14, Tryd.ntmps14
  go_wp2_with fail
  obtain ⟨X, hX⟩ : ∃ X, w.heap.size = X := ⟨_, rfl⟩
  rw [hX] at HS0
  rw [hX]
  clear hX
  generalize w.alloc (.cells #[.int .i64 g, .slice ao n cap] 24) = W0 at HS0 ⊢
  refine (HC.out _ HS0.out.bel).mono ?_
  rintro e w1 ⟨rfl, hb⟩
  have HS1 := hid (HS0.out.next hb)
  clear hb HS0 HC
  go_wp2_with fail
  go_ret2
  exact ⟨rfl, HS1.out.bel⟩

end Go.Proofs.YtmjpcmeinlkfbaaDoor
