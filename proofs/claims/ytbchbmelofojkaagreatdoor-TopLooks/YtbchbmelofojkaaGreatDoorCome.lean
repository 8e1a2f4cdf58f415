/-
  What numbers and lists of numbers that came in give the walk.
-/
import Derived.Test.YtbchbmelofojkaaGreatDoorChecked
import Derived.Test.YtbchbmelofojkaaGreatDoorOwn
import Derived.OpenShut
namespace Go.Proofs.YtbchbmelofojkaaGreatDoor
open Go.ChangeShapes Go.WideShapes Go.RowKit
set_option linter.unusedVariables false

theorem u64_in {a : Int} (h : (Lit.int .u64 a).wf = true) : 0 ≤ a ∧ a ≤ 18446744073709551615 := by
  simp [Lit.wf, IntKind.min, IntKind.max, IntKind.signed, IntKind.bits] at h
  omega
theorem i64_in {a : Int} (h : (Lit.int .i64 a).wf = true) : -9223372036854775808 ≤ a ∧ a ≤ 9223372036854775807 := by
  simp [Lit.wf, IntKind.min, IntKind.max, IntKind.signed, IntKind.bits] at h
  omega
theorem nums_in {zs : List Int} (h : ∀ n ∈ zs, (Lit.int .u64 n).wf = true) : Nums (fun j => zs.getD j 0) := fun j => by
  dsimp only
  by_cases hj : j < zs.length
  · have : zs.getD j 0 = zs[j] := by simp [List.getD, hj]
    rw [this]
    exact u64_in (h _ (List.getElem_mem hj))
  · have : zs.getD j 0 = 0 := by simp [List.getD, hj]
    rw [this]; omega
theorem Nums_nil : Nums (fun _ => 0) := fun _ => by dsimp only; omega
/-- A list that came in lies below what is new. -/
theorem old_ne {w : World} {ao : Option Addr} {n : Nat} {f : Nat → Int} (h : PRow w ao n f) {b : Nat} (hb : w.heap.size ≤ b) : 0 < n → ∀ c o, ao = some ⟨c, o, none⟩ → c ≠ b := fun hn c o e => by
  obtain ⟨b', o', e', h'⟩ := h hn
  rw [e] at e'; injection e' with e'; injection e' with e1 e2
  subst e1
  have := h'.lt hn
  omega

end Go.Proofs.YtbchbmelofojkaaGreatDoor
