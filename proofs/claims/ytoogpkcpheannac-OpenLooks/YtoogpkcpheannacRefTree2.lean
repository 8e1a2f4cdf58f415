/-
  Contracts of tallyref's Path, for every table and place; it makes new lists and writes nothing that was there.
-/
import Derived.Test.YtoogpkcpheannacRefTree
import Derived.Deep.RegionHeld3
import Derived.Deep.AppendLies
namespace Go.Proofs.Ytoogpkcpheannac
open Go.RowKit
set_option linter.unusedVariables false
attribute [local go_sem ↓] Go.wp_at_zero Go.wp_at_succ

theorem news_one (w : World) (x : Int) (t : TypeId) : ∀ j u, [Value.int .u64 x][j]? = some u → (w.alloc (.cells #[.int .u64 x] t)).cell? ((⟨w.heap.size, 0, none⟩ : Addr).add j) = some u := by
  intro j u hj
  match j, hj with
  | 0, hj => simp at hj; subst hj; simp [Addr.add]
theorem one_cell (x : Int) : ∀ u ∈ [Value.int .u64 x], u.oneCell' = true := by intro u hu; simp at hu; subst hu; rfl
/-- One number more behind a list of the call's own. -/
theorem own_snoc {w w1 w2 : World} {v : Value} {n g c : Nat} {f F : Nat → Int} {x : Int} {t : TypeId} (hb : Below w.heap.size w w1) (ho : Own w1 w.heap.size v n f)
    (hown : w2.ownsRow w.heap.size 22 1 (.slice (some ⟨g, 0, none⟩) (n + 1) c) (n + 1) (cellsOf n f ++ [.int .u64 x])) (hg : (w1.alloc (.cells #[.int .u64 x] t)).grownBy w2 v.ownBlock)
    (hF : ∀ j, j < n → f j = F j) (hx : x = F n) : Own w2 w.heap.size (.slice (some ⟨g, 0, none⟩) (n + 1) c) (n + 1) F ∧ Below w.heap.size w w2 := by
  refine ⟨?_, (hb.alloc hb.size _).grown hg (by have := hb.size; simp; omega) (by intro t ht; exact (World.ownsRow.lt ho t ht).1)⟩
  rw [cellsOf_snoc] at hown
  exact Own.congr hown fun j hj => by
    unfold catF
    by_cases e : j < n
    · rw [if_pos e]; exact hF j e
    · rw [if_neg e, show j = n from by omega]; exact hx

end Go.Proofs.Ytoogpkcpheannac
