/-
  What the rows' condition gives the walks: where Go's table deBruijn64tab reads as the program's text lays it, its cells that are looked into lie in its variable's block.
-/
import Derived.Test.YtbchbmelofojkaaGreatDoorRows
import Derived.Test.YtbchbmelofojkaaGreatDoorBits
import Derived.ProofKit
import Derived.LaidMore
import Derived.OpenShut
import Derived.Stop.Joined
namespace Go.Proofs.YtbchbmelofojkaaGreatDoor
open Go.ChangeShapes Go.WideShapes Go.ChangeAt Go.RowKit
set_option linter.unusedVariables false

theorem glob64 : Tryz.prog.globalNamed "math/bits.deBruijn64tab" = some 1 := by kernel_rfl
theorem type64 : (Tryz.prog.globals[1]?).map (·.type) = some 173 := by kernel_rfl
theorem cells8 : Tryz.prog.cellsOf 5 = 1 := by kernel_rfl
def tabParts : List (DataW Unit) := match (Rows.laid_math_bits_deBruijn64tab : DataW Unit) with | .agg l => l | _ => []
theorem tab_is : (Rows.laid_math_bits_deBruijn64tab : DataW Unit) = .agg tabParts := rfl

theorem tab_of_vars {W : World} {d : DataW Unit} {rest : List (String × DataW Unit)} {ps : List MemPlace} (h : DataW.LaidVars Tryz.prog W (("math/bits.deBruijn32tab", d) :: ("math/bits.deBruijn64tab", Rows.laid_math_bits_deBruijn64tab) :: rest) ps) : Tab W := by
  obtain ⟨g0, t0, cs0, f0, p0, q0, hg0, ht0, hv0, hd0, ⟨g1, t1, cs1, f1, p1, q1, hg1, ht1, hv1, hd1, _, _⟩, _⟩ := h
  obtain rfl := Option.some.inj (glob64.symm.trans hg1)
  obtain rfl := Option.some.inj (type64.symm.trans ht1)
  obtain ⟨xs, m, rfl, hx, hlen, hn, hel⟩ := DataW.trod_array Tryz.underlying173 hd1
  have hD : tabParts = xs.map (·.1) := by
    have := (Prod.mk.inj hx).1
    rw [tab_is] at this
    simpa using this
  have key : ∀ (i : Nat) (a : Int), i < 64 → tabParts[i]? = some (.lit (.int .u8 a)) → W.cell? ⟨1, i, none⟩ = some (.int .u8 a) := by
    intro i a hi ha
    have h0 := hel i hi
    obtain ⟨x, hxi⟩ : ∃ x, xs[i]? = some x := ⟨_, List.getElem?_eq_getElem (by omega)⟩
    rw [hxi] at h0
    obtain ⟨k, e1, e2, _⟩ := DataW.trod_int Tryz.underlying5 h0
    have hm : (xs.map (·.1))[i]? = some x.1 := by simp [hxi]
    rw [← hD, ha, e2] at hm
    have hk : a = k := by simpa using hm
    subst hk
    rw [World.var?_cell hg1 hv1 i]
    rw [cells8, Nat.mul_one] at e1
    have := congrArg (·[0]?) e1
    simpa [List.getElem?_take, List.getElem?_drop] using this
  have hT : ∀ p, p ∈ tabL → W.cell? ⟨1, p.1, none⟩ = some (.int .u8 p.2) := by
    intro p hp
    simp only [tabL, List.mem_cons, List.not_mem_nil, or_false] at hp
    rcases hp with rfl | rfl | rfl | rfl | rfl | rfl | rfl | rfl | rfl
    all_goals exact key _ _ (by decide) rfl
  exact ⟨World.block_lt_of_cell? W ⟨1, 0, none⟩ (hT (0, 0) (by decide)), hT⟩

end Go.Proofs.YtbchbmelofojkaaGreatDoor
