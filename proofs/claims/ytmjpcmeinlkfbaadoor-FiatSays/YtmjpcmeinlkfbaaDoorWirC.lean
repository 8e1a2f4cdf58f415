/-
  Contracts of package wiring's logBelow and check, for every circuit; they make new blocks and write nothing that was there.
-/
import Derived.Test.YtmjpcmeinlkfbaaDoorWirQ
import Derived.Test.YtmjpcmeinlkfbaaDoorCircC
namespace Go.Proofs.YtmjpcmeinlkfbaaDoor
open Go.RowKit
set_option linter.unusedVariables false
attribute [local go_sem ↓] Go.wp_at_zero Go.wp_at_succ


/-- What holds of the world all along: the circuit's box, and that nothing was written. -/
structure StW (w W : World) (B : Nat) (g : Int) (v : Value) : Prop where
  bel : Below w.heap.size w W
  box : Box2 W B (.int .i64 g) v
theorem StW.next {w W W' : World} {B : Nat} {g : Int} {v : Value} (h : StW w W B g v) (hb : Below W.heap.size W W') : StW w W' B g v := ⟨h.bel.trans (hb.mono h.bel.size), h.box.kept hb⟩
theorem StW.start (w : World) (g : Int) (v : Value) (t : TypeId) : StW w (w.alloc (.cells #[.int .i64 g, v] t)) w.heap.size g v := ⟨(Below.refl _ w).alloc (Nat.le_refl _) _, Box2.new w _ _ _⟩
theorem ask_no {c : CQ} {i : Int} {nz nx ny n : Nat} (hn : c.layers.length = n) (h : ¬ (0 ≤ i ∧ i < (n : Int))) : ¬ ∃ k l, askOk c i nz nx ny k l := by
  rintro ⟨k, l, rfl, hl, _⟩
  obtain ⟨hk, _⟩ := List.getElem?_eq_some_iff.1 hl
  omega


end Go.Proofs.YtmjpcmeinlkfbaaDoor
