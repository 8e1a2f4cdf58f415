/-
  Contracts of math/bits' OnesCount and TrailingZeros: OnesCount answers what popQ reckons, for every number of 64 bits; TrailingZeros answers k at 2^k, k from 0 to 8, where its table lies as the program's text lays it. Nothing is written.
-/
import Derived.Test.YtoogpkcpheannacChecked
import Derived.Test.YtoogpkcpheannacMem
import Derived.WalkKit
namespace Go.Proofs.Ytoogpkcpheannac
open Go.RowKit
set_option linter.unusedVariables false

def pop1 (x : Int) : Int := IntKind.u64.wrap (bits .and .u64 (x / 2) 6148914691236517205 + bits .and .u64 x 6148914691236517205)
def pop2 (x : Int) : Int := IntKind.u64.wrap (bits .and .u64 (pop1 x / 4) 3689348814741910323 + bits .and .u64 (pop1 x) 3689348814741910323)
def pop3 (x : Int) : Int := bits .and .u64 (IntKind.u64.wrap (pop2 x / 16 + pop2 x)) 1085102592571150095
def pop4 (x : Int) : Int := IntKind.u64.wrap (pop3 x + pop3 x / 256)
def pop5 (x : Int) : Int := IntKind.u64.wrap (pop4 x + pop4 x / 65536)
def pop6 (x : Int) : Int := IntKind.u64.wrap (pop5 x + pop5 x / 4294967296)
def popQ (x : Int) : Int := bits .and .i64 (wrap64 (pop6 x)) 127

theorem ret_i64 {a b : Int} (h : a = b) : Ending.returned (.int .i64 a) = .returned (.int .i64 b) := by rw [h]
def isPow (x : Nat) : Bool := x == 1 || x == 2 || x == 4 || x == 8 || x == 16 || x == 32 || x == 64 || x == 128 || x == 256
theorem pop_all : ((List.range 257).all fun x => (popQ (x : Int) == 1) == isPow x) = true := by kernel_rfl
theorem pop_small (x : Nat) (h : x ≤ 256) : (popQ (x : Int) == 1) = isPow x := by
  have := List.all_eq_true.1 pop_all x (List.mem_range.2 (by omega))
  simpa using this

/-- Go's table deBruijn64tab, as far as it is looked into here. -/
def tabL : List (Nat × Int) := [(0, 0), (1, 1), (3, 2), (7, 3), (15, 4), (31, 5), (63, 6), (62, 7), (61, 8)]
/-- It lies in its variable's block. -/
def Tab (w : World) : Prop := 1 + 1 ≤ w.heap.size ∧ ∀ p, p ∈ tabL → w.cell? ⟨1, p.1, none⟩ = some (.int .u8 p.2)
theorem Tab.kept {w w' : World} {B : Nat} (h : Tab w) (hb : Below B w w') (hB : 1 + 1 ≤ B) : Tab w' :=
  ⟨by have h1 := h.1; have h2 := hb.size; omega, fun p hp => (hb.cell (show 1 < B by omega)).trans (h.2 p hp)⟩
theorem Tab.drew {w : World} (h : Tab w) : Tab w.drew := h

end Go.Proofs.Ytoogpkcpheannac
