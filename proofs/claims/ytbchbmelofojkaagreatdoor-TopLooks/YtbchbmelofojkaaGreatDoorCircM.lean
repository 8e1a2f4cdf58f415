/-
  Blocks of two cells; the Log of the layer below; no program in it.
-/
import Derived.Test.YtbchbmelofojkaaGreatDoorCirc
namespace Go.Proofs.YtbchbmelofojkaaGreatDoor
open Go.RowKit
set_option linter.unusedVariables false

theorem shl_pow {k : Nat} (hk : k ≤ 8) : wrap64 ((2 : Int) ^ k) = ((2 ^ k : Nat) : Int) := by
  have h : 2 ^ k ≤ 256 := Nat.pow_le_pow_right (j := 8) (by omega) hk
  rw [show ((2 : Int) ^ k) = ((2 ^ k : Nat) : Int) from by simp]
  generalize 2 ^ k = M at h
  exact IntWalk.wrap64_in _ (by omega)
theorem layerE_back {k : Int} {l : LQ} (h : layerE k l 0) : l.right k := by
  rcases h with ⟨_, h⟩ | ⟨_, _, h⟩ | ⟨_, _, _, h⟩ | ⟨h1, h2, h3, _⟩
  · omega
  · omega
  · omega
  · exact ⟨h1, h2, h3⟩
theorem below_rng {c : CQ} {g : Int} {k : Nat} (hg : c.log = g) (h0 : 0 ≤ g) (h4 : g ≤ 4) (hd : ∀ j, j < k → ∀ x, c.layers[j]? = some x → x.right (belowQ c j)) : ∃ bk : Nat, belowQ c k = (bk : Int) ∧ bk ≤ 4 := by
  cases k with
  | zero => exact ⟨g.toNat, by rw [belowQ, hg]; omega, by omega⟩
  | succ k =>
    rw [belowQ]
    cases hx : c.layers[k]? with
    | none => exact ⟨0, rfl, by omega⟩
    | some x =>
      have := (hd k (by omega) x hx).1
      exact ⟨x.log.toNat, by simp; omega, by omega⟩
/-- Two cells lie in block B from its start on. -/
structure Box2 (w : World) (B : Nat) (u v : Value) : Prop where
  c0 : w.cell? ⟨B, 0, none⟩ = some u
  c1 : w.cell? ⟨B, 1, none⟩ = some v
  lt : B < w.heap.size
theorem Box2.new (w : World) (u v : Value) (t : TypeId) : Box2 (w.alloc (.cells #[u, v] t)) w.heap.size u v :=
  ⟨by rw [World.cell?_alloc_new]; rfl, by rw [World.cell?_alloc_new]; rfl, by simp⟩
theorem Box2.kept {w w' : World} {B : Nat} {u v : Value} (h : Box2 w B u v) (hb : Below w.heap.size w w') : Box2 w' B u v :=
  ⟨(hb.cell h.lt).trans h.c0, (hb.cell h.lt).trans h.c1, Nat.lt_of_lt_of_le h.lt hb.size⟩

/-- Every circuit has an error, or 0. -/
theorem layerE_some (k : Int) (l : LQ) : ∃ e, layerE k l e := by
  by_cases h1 : 0 ≤ l.log ∧ l.log ≤ 4
  · by_cases h2 : l.gates.length = 2 ^ l.log.toNat
    · by_cases h3 : ∀ g ∈ l.gates, gateOk ((2 ^ k.toNat : Nat) : Int) g
      · exact ⟨0, .inr (.inr (.inr ⟨h1, h2, h3, rfl⟩))⟩
      · obtain ⟨g, hg⟩ := Classical.not_forall.1 h3
        obtain ⟨hg1, hg2⟩ := Classical.not_imp.1 hg
        exact ⟨1, .inr (.inr (.inl ⟨h1, h2, ⟨g, hg1, hg2⟩, rfl⟩))⟩
    · exact ⟨4, .inr (.inl ⟨h1, h2, rfl⟩)⟩
  · exact ⟨1, .inl ⟨h1, rfl⟩⟩
theorem layersE_some (r : List LQ) : ∀ k : Int, ∃ e, layersE k r e := by
  induction r with
  | nil => exact fun k => ⟨0, rfl⟩
  | cons l r ih =>
    intro k
    obtain ⟨e, he⟩ := layerE_some k l
    by_cases h0 : e = 0
    · subst h0
      obtain ⟨e', he'⟩ := ih l.log
      exact ⟨e', .inr ⟨layerE_back he, he'⟩⟩
    · exact ⟨e, .inl ⟨e, he, h0, rfl⟩⟩
theorem checkE_some (c : CQ) : ∃ e, checkE c e := by
  by_cases h1 : 0 ≤ c.log ∧ c.log ≤ 4
  · by_cases h2 : c.layers = []
    · exact ⟨1, .inl ⟨.inr h2, rfl⟩⟩
    · by_cases h3 : 4 < c.layers.length
      · exact ⟨2, .inr (.inl ⟨h1, h3, rfl⟩)⟩
      · obtain ⟨e, he⟩ := layersE_some c.layers c.log
        exact ⟨e, .inr (.inr ⟨h1, h2, by omega, he⟩)⟩
  · exact ⟨1, .inl ⟨.inl h1, rfl⟩⟩

end Go.Proofs.YtbchbmelofojkaaGreatDoor
