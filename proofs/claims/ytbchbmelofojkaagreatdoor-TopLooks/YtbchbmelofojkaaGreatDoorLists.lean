/-
  Lists of lists of numbers in memory: what lies there, what stays; no program in it.
-/
import Derived.Test.YtbchbmelofojkaaGreatDoorOwn
namespace Go.Proofs.YtbchbmelofojkaaGreatDoor
open Go.RowKit
set_option linter.unusedVariables false

/-- A list of m lists: list i has L i numbers, F i. -/
def LRow (w : World) (ao : Option Addr) (m : Nat) (A : Nat → Option Addr) (L C : Nat → Nat) (F : Nat → Nat → Int) : Prop :=
  0 < m → ∃ b off, ao = some ⟨b, off, none⟩ ∧ ∀ i, i < m → w.cell? ⟨b, off + i, none⟩ = some (.slice (A i) (L i) (C i)) ∧ PRow w (A i) (L i) (F i)
theorem LRow.kept {w w' : World} {ao : Option Addr} {m : Nat} {A : Nat → Option Addr} {L C : Nat → Nat} {F : Nat → Nat → Int} (h : LRow w ao m A L C F) (hb : Below w.heap.size w w') : LRow w' ao m A L C F := fun hm => by
  obtain ⟨b, off, e, hr⟩ := h hm
  exact ⟨b, off, e, fun i hi => ⟨(hb.cell (p := ⟨b, off + i, none⟩) (World.block_lt_of_cell? w _ (hr i hi).1)).trans (hr i hi).1, (hr i hi).2.kept hb⟩⟩
theorem LRow.drew {w : World} {ao : Option Addr} {m : Nat} {A : Nat → Option Addr} {L C : Nat → Nat} {F : Nat → Nat → Int} (h : LRow w ao m A L C F) : LRow w.drew ao m A L C F := h

/-- How many variables a list of N numbers has; -1: it is no table. -/
def varsZ (N : Nat) : Int := if N = 1 then 0 else if N = 2 then 1 else if N = 4 then 2 else if N = 8 then 3 else if N = 16 then 4 else if N = 32 then 5 else if N = 64 then 6 else if N = 128 then 7 else if N = 256 then 8 else -1
theorem varsZ_pow {n : Nat} (h : n ≤ 8) : varsZ (2 ^ n) = (n : Int) := by
  obtain rfl | rfl | rfl | rfl | rfl | rfl | rfl | rfl | rfl : n = 0 ∨ n = 1 ∨ n = 2 ∨ n = 3 ∨ n = 4 ∨ n = 5 ∨ n = 6 ∨ n = 7 ∨ n = 8 := by omega
  all_goals rfl
theorem varsZ_bad {N : Nat} (h : ∀ n, n ≤ 8 → N ≠ 2 ^ n) : varsZ N = -1 := by
  have h0 := h 0 (by omega)
  have h1 := h 1 (by omega)
  have h2 := h 2 (by omega)
  have h3 := h 3 (by omega)
  have h4 := h 4 (by omega)
  have h5 := h 5 (by omega)
  have h6 := h 6 (by omega)
  have h7 := h 7 (by omega)
  have h8 := h 8 (by omega)
  unfold varsZ
  rw [if_neg h0, if_neg h1, if_neg h2, if_neg h3, if_neg h4, if_neg h5, if_neg h6, if_neg h7, if_neg h8]
theorem varsZ_rng (N : Nat) : -1 ≤ varsZ N ∧ varsZ N ≤ 8 := by
  unfold varsZ
  split
  · omega
  · split
    · omega
    · split
      · omega
      · split
        · omega
        · split
          · omega
          · split
            · omega
            · split
              · omega
              · split
                · omega
                · split <;> omega
theorem varsZ_back {N n : Nat} (h : varsZ N = (n : Int)) : n ≤ 8 ∧ N = 2 ^ n := by
  by_cases hT : ∃ k, k ≤ 8 ∧ N = 2 ^ k
  · obtain ⟨k, hk, rfl⟩ := hT
    rw [varsZ_pow hk] at h
    obtain rfl : k = n := by omega
    exact ⟨hk, rfl⟩
  · rw [varsZ_bad fun k hk e => hT ⟨k, hk, e⟩] at h
    omega

end Go.Proofs.YtbchbmelofojkaaGreatDoor
