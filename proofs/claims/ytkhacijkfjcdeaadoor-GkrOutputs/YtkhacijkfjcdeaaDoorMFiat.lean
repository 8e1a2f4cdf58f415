/-
  Several texts in one: GkrN; each opens with what it holds.
-/
import Derived.Test.YtkhacijkfjcdeaaDoorMGkA
/-
  Plain: a right circuit's numbers, as the laws ask for them; no program in it.
-/
namespace Go.Proofs.YtkhacijkfjcdeaaDoor
open Go.RowKit
set_option linter.unusedVariables false

/-- A right circuit's numbers, as the laws ask for them. -/
theorem right_nums {c : CQ} {g : Int} {n : Nat} (hg : c.log = g) (hn : c.layers.length = n) (hc : c.right) : ∃ gn N : Nat, g = (gn : Int) ∧ gn ≤ 4 ∧ wrap64 ((2 : Int) ^ gn) = (N : Int) ∧ lenQ c 0 = N ∧ 1 ≤ N ∧ N ≤ 16 ∧ N = 2 ^ (partsQ c).lg n := by
  obtain ⟨gn, h1⟩ : ∃ gn : Nat, g = (gn : Int) := ⟨g.toNat, by have := hc.log; omega⟩
  have g4 : gn ≤ 4 := by have := hc.log; omega
  have e : lenQ c 0 = 2 ^ gn := by
    show 2 ^ (c.log).toNat = 2 ^ gn
    rw [hg, h1, Int.toNat_natCast]
  have hr := lenQ_rng hc 0 (by omega)
  rw [e] at hr
  refine ⟨gn, 2 ^ gn, h1, g4, shl_pow (by omega), e, hr.1, hr.2, ?_⟩
  rw [lg_bot (k := gn) hn (by show c.log = _; rw [hg, h1])]
theorem top_len {c : CQ} {n : Nat} (hn : c.layers.length = n) : lenQ c n = 2 ^ (partsQ c).lg 0 := by
  show 2 ^ (belowQ c n).toNat = 2 ^ (belowQ c (c.layers.length - 0)).toNat
  rw [hn, Nat.sub_zero]

end Go.Proofs.YtkhacijkfjcdeaaDoor
