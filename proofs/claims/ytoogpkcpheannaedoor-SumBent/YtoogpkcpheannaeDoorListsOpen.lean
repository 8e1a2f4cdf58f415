/-
  What a list of lists of numbers that came in gives the walk.
-/
import Derived.Test.YtoogpkcpheannaeDoorChecked
import Derived.Test.YtoogpkcpheannaeDoorLists
import Derived.OpenShut
import Derived.Deep.Matrix
namespace Go.Proofs.YtoogpkcpheannaeDoor
open Go.ChangeShapes Go.WideShapes Go.RowKit
set_option linter.unusedVariables false

/-- A list of lists of numbers of 64 bits that came in. -/
def IsLists (w : World) (a : Option Addr) (len cap : Nat) (A : Nat → Option Addr) (L C : Nat → Nat) (F : Nat → Nat → Int) : Prop :=
  LRow w a len A L C F ∧ len ≤ maxLen ∧ (∀ i, i < len → Nums (F i) ∧ L i ≤ maxLen) ∧ len ≤ cap
theorem u64_of_wf {a : Int} (h : (Lit.int .u64 a).wf = true) : 0 ≤ a ∧ a ≤ 18446744073709551615 := by
  simp [Lit.wf, IntKind.min, IntKind.max, IntKind.signed, IntKind.bits] at h
  omega
theorem nums_of_wf {zs : List Int} (h : ∀ n ∈ zs, (Lit.int .u64 n).wf = true) : Nums (fun j => zs.getD j 0) := fun j => by
  dsimp only
  by_cases hj : j < zs.length
  · have : zs.getD j 0 = zs[j] := by simp [List.getD, hj]
    rw [this]
    exact u64_of_wf (h _ (List.getElem_mem hj))
  · have : zs.getD j 0 = 0 := by simp [List.getD, hj]
    rw [this]; omega
theorem cell_at {w : World} {a : Addr} {u : Value} (h : w.cell? (a.add 0) = some u) : ∃ b off, a = ⟨b, off, none⟩ := by
  obtain ⟨b, off, spot⟩ := a
  have hspot : spot = none := by simpa [Addr.add] using World.cell?_spot h
  subst hspot
  exact ⟨b, off, rfl⟩
theorem lists_of {H : Type} {enc : TypeId × Value → H} {W : World} {base : Nat} {held : Bool} {fuel : Nat} {a : Option Addr} {len cap : Nat} {x : DataW H × List MemPlace}
    (h : DataW.trod enc Tryd.prog W base (fun _ => true) held fuel 22 (Value.slice a len cap).cells.toList = some x) : ∃ A L C F, IsLists W a len cap A L C F := by
  rcases Deep.open_int_rows Tryd.underlying22 Tryd.underlying24 Tryd.underlying23 (by kernel_rfl) (by kernel_rfl) h with ⟨hcs, _⟩ | ⟨a', len', cap', A, L, C, Z, hcs, _, hl, hm, _, hr⟩
  · simp [Value.cells] at hcs
    obtain ⟨rfl, rfl, rfl⟩ := hcs
    exact ⟨fun _ => none, fun _ => 0, fun _ => 0, fun _ _ => 0, fun h0 => absurd h0 (by omega), Nat.zero_le _, fun i hi => absurd hi (by omega), Nat.zero_le _⟩
  · simp [Value.cells] at hcs
    obtain ⟨rfl, rfl, rfl⟩ := hcs
    refine ⟨A, L, C, fun i j => (Z i).getD j 0, fun h0 => ?_, Nat.le_trans hl hm, fun i hi => ?_, hl⟩
    · obtain ⟨b, off, rfl⟩ := cell_at (hr 0 (by omega)).1
      refine ⟨b, off, rfl, fun i hi => ?_⟩
      obtain ⟨h1, h2, h3, h4, h5, h6, h7⟩ := hr i (by omega)
      refine ⟨by rw [← add_plain]; exact h1, fun hp => ?_⟩
      cases hA : A i with
      | none => exact absurd (h6 hA) (by omega)
      | some a2 =>
        obtain ⟨_, hc⟩ := h7 a2 hA
        obtain ⟨b2, off2, rfl⟩ := cell_at (hc 0 (by omega))
        exact ⟨b2, off2, rfl, fun j hj => by rw [← add_plain]; exact hc j (by omega)⟩
    · obtain ⟨h1, h2, h3, h4, h5, h6, h7⟩ := hr i (by omega)
      exact ⟨nums_of_wf h5, Nat.le_trans h2 h3⟩

end Go.Proofs.YtoogpkcpheannaeDoor
