/-
  Lists of lists that a call itself makes and appends to: what append leaves, what stays. The one closed fact in it is the row of Go's []uint64 in the program's table.
-/
import Derived.Test.YtbchbmelofojkaaGreatDoorChecked
import Derived.Test.YtbchbmelofojkaaGreatDoorTabs
namespace Go.Proofs.YtbchbmelofojkaaGreatDoor
open Go.RowKit
set_option linter.unusedVariables false

theorem Tryz.infoL : (Tryz.prog.info? 22).map (fun i => (i.zero, i.size, i.bytes)) = some (some (.slice none 0 0), 1, 24) := by kernel_rfl
/-- Lists of N numbers each, as the cells of a row. -/
def slcs (n N : Nat) (a c : Nat → Nat) : List Value := (List.range n).map fun i => Value.slice (some ⟨a i, 0, none⟩) N (c i)
theorem slcs_len (n N : Nat) (a c : Nat → Nat) : (slcs n N a c).length = n := by simp [slcs]
theorem slcs_at (n N : Nat) (a c : Nat → Nat) (i : Nat) (h : i < n) : (slcs n N a c)[i]? = some (.slice (some ⟨a i, 0, none⟩) N (c i)) := by simp [slcs, h]
theorem slcs_past (n N : Nat) (a c : Nat → Nat) (i : Nat) (h : n ≤ i) : (slcs n N a c)[i]? = none := by simp [slcs, h]
theorem slcs_snoc (n N : Nat) (a c : Nat → Nat) (b d : Nat) : slcs n N a c ++ [.slice (some ⟨b, 0, none⟩) N d] = slcs (n + 1) N (putA a n b) (putA c n d) := by
  apply List.ext_getElem?
  intro j
  by_cases h : j < n
  · rw [List.getElem?_append_left (by rw [slcs_len]; exact h), slcs_at n N a c j h, slcs_at _ _ _ _ j (by omega), putA, putA, if_neg (by omega), if_neg (by omega)]
  · rw [List.getElem?_append_right (by rw [slcs_len]; omega), slcs_len]
    by_cases h2 : j = n
    · subst h2
      rw [slcs_at _ _ _ _ j (by omega), putA, putA, if_pos rfl, if_pos rfl]
      simp
    · rw [slcs_past _ _ _ _ j (by omega), List.getElem?_eq_none (by simp; omega)]

/-- v is a list of the call's own: n lists of N numbers each, in blocks of their own. -/
structure OwnL (w : World) (base : Nat) (v : Value) (n N : Nat) (a c : Nat → Nat) (F : Nat → Nat → Int) : Prop where
  own : w.ownsRow base 22 1 v n (slcs n N a c)
  apart : ∀ i, i < n → v.ownBlock ≠ some (a i)
  lt : ∀ i, i < n → a i < w.heap.size
  row : ∀ i, i < n → Row w (a i) 0 N (F i)
theorem OwnL.nil (w : World) (base N : Nat) (a c : Nat → Nat) (F : Nat → Nat → Int) : OwnL w base (.slice none 0 0) 0 N a c F :=
  ⟨World.ownsRow_nil w base 22 1, fun i hi => absurd hi (by omega), fun i hi => absurd hi (by omega), fun i hi => absurd hi (by omega)⟩
theorem OwnL.drew {w : World} {base : Nat} {v : Value} {n N : Nat} {a c : Nat → Nat} {F : Nat → Nat → Int} (h : OwnL w base v n N a c F) : OwnL w.drew base v n N a c F := ⟨h.own, h.apart, h.lt, h.row⟩
theorem OwnL.kept {w w' : World} {base : Nat} {v : Value} {n N : Nat} {a c : Nat → Nat} {F : Nat → Nat → Int} (h : OwnL w base v n N a c F) (hb : Below w.heap.size w w') : OwnL w' base v n N a c F := by
  refine ⟨?_, h.apart, fun i hi => Nat.lt_of_lt_of_le (h.lt i hi) hb.size, fun i hi => (h.row i hi).kept hb (h.lt i hi)⟩
  refine ⟨h.own.1, ?_⟩
  rcases h.own.2 with h2 | ⟨g, cap, cur, hv, hg, hh, r⟩
  · exact .inl h2
  · have hlt : g < w.heap.size := (Array.getElem?_eq_some_iff.1 hh).1
    exact .inr ⟨g, cap, cur, hv, hg, (hb.block g hlt).trans hh, r⟩
theorem OwnL.is {w : World} {base : Nat} {v : Value} {n N : Nat} {a c : Nat → Nat} {F : Nat → Nat → Int} (h : OwnL w base v n N a c F) : ∃ ao cap, v = .slice ao n cap ∧ (0 < n → ∃ g, ao = some ⟨g, 0, none⟩ ∧ Tabs w g 0 n a (fun _ => 0) c N F) ∧ (n = 0 → (ao = none ∧ cap = 0) ∨ ∃ g, ao = some ⟨g, 0, none⟩) := by
  have ho := h.own
  rcases ho.2 with ⟨rfl, rfl⟩ | ⟨g, cap, cur, rfl, _⟩
  · exact ⟨none, 0, rfl, fun h0 => by omega, fun _ => .inl ⟨rfl, rfl⟩⟩
  · refine ⟨some ⟨g, 0, none⟩, cap, rfl, fun _ => ⟨g, rfl, fun i hi => ?_, h.row⟩, fun _ => .inr ⟨g, rfl⟩⟩
    rw [Nat.zero_add, ho.cellAt i (by omega), slcs_at n N a c i hi]
/-- One list more: what append left. -/
theorem OwnL.next {w w' : World} {base : Nat} {v : Value} {n N : Nat} {a c : Nat → Nat} {F : Nat → Nat → Int} {g cap b d : Nat} {f : Nat → Int} (h : OwnL w base v n N a c F)
    (ho : w'.ownsRow base 22 1 (.slice (some ⟨g, 0, none⟩) (n + 1) cap) (n + 1) (slcs n N a c ++ [.slice (some ⟨b, 0, none⟩) N d])) (hg : w.grownBy w' v.ownBlock) (hat : v.ownBlock = some g ∨ g = w.heap.size)
    (hb : b < w.heap.size) (hne : v.ownBlock ≠ some b) (hr : Row w b 0 N f) : OwnL w' base (.slice (some ⟨g, 0, none⟩) (n + 1) cap) (n + 1) N (putA a n b) (putA c n d) (putF F n f) := by
  have far : ∀ k, k < w.heap.size → v.ownBlock ≠ some k → some g ≠ some k := fun k hk hk2 e => by
    rcases hat with e1 | e1
    · exact hk2 (e1.trans e)
    · have := Option.some.inj e; omega
  have krow : ∀ k (f : Nat → Int), k < w.heap.size → v.ownBlock ≠ some k → Row w k 0 N f → Row w' k 0 N f := fun k f hk hk2 hr j hj => (World.cell?_of_block (hg.block k hk (fun e => hk2 e.symm))).trans (hr j hj)
  refine ⟨by rw [← slcs_snoc]; exact ho, fun i hi => ?_, fun i hi => ?_, fun i hi => ?_⟩
  · show some g ≠ _
    by_cases e : i = n
    · rw [putA, if_pos e]; exact far b hb hne
    · rw [putA, if_neg e]; exact far _ (h.lt i (by omega)) (h.apart i (by omega))
  · by_cases e : i = n
    · rw [putA, if_pos e]; exact Nat.lt_of_lt_of_le hb hg.size
    · rw [putA, if_neg e]; exact Nat.lt_of_lt_of_le (h.lt i (by omega)) hg.size
  · by_cases e : i = n
    · rw [putA, if_pos e, putF, if_pos e]; exact krow b f hb hne hr
    · rw [putA, if_neg e, putF, if_neg e]; exact krow _ _ (h.lt i (by omega)) (h.apart i (by omega)) (h.row i (by omega))

end Go.Proofs.YtbchbmelofojkaaGreatDoor
