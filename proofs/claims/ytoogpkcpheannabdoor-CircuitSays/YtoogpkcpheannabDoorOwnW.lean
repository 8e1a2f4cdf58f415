/-
  Lists of lists, of any lengths, that a call itself makes and appends to: what append leaves, what stays. The one closed fact in it is the row of Go's []uint64 in the program's table.
-/
import Derived.Test.YtoogpkcpheannabDoorChecked
import Derived.Test.YtoogpkcpheannabDoorLists
namespace Go.Proofs.YtoogpkcpheannabDoor
open Go.RowKit
set_option linter.unusedVariables false

theorem Tryd.infoW : (Tryd.prog.info? 22).map (fun i => (i.zero, i.size, i.bytes)) = some (some (.slice none 0 0), 1, 24) := by kernel_rfl
/-- Lists as the cells of a row. -/
def slcW (n : Nat) (A : Nat → Option Addr) (L C : Nat → Nat) : List Value := (List.range n).map fun i => Value.slice (A i) (L i) (C i)
theorem slcW_len (n : Nat) (A : Nat → Option Addr) (L C : Nat → Nat) : (slcW n A L C).length = n := by simp [slcW]
theorem slcW_at (n : Nat) (A : Nat → Option Addr) (L C : Nat → Nat) (i : Nat) (h : i < n) : (slcW n A L C)[i]? = some (.slice (A i) (L i) (C i)) := by simp [slcW, h]
theorem slcW_past (n : Nat) (A : Nat → Option Addr) (L C : Nat → Nat) (i : Nat) (h : n ≤ i) : (slcW n A L C)[i]? = none := by simp [slcW, h]
def putO {α : Type} (A : Nat → α) (n : Nat) (a : α) (i : Nat) : α := if i = n then a else A i
theorem slcW_snoc (n : Nat) (A : Nat → Option Addr) (L C : Nat → Nat) (a : Option Addr) (c : Nat) : slcW n A L C ++ [.slice a (L n) c] = slcW (n + 1) (putO A n a) L (putO C n c) := by
  apply List.ext_getElem?
  intro j
  by_cases h : j < n
  · rw [List.getElem?_append_left (by rw [slcW_len]; exact h), slcW_at n A L C j h, slcW_at _ _ _ _ j (by omega), putO, putO, if_neg (by omega), if_neg (by omega)]
  · rw [List.getElem?_append_right (by rw [slcW_len]; omega), slcW_len]
    by_cases h2 : j = n
    · subst h2
      rw [slcW_at _ _ _ _ j (by omega), putO, putO, if_pos rfl, if_pos rfl]
      simp
    · rw [slcW_past _ _ _ _ j (by omega), List.getElem?_eq_none (by simp; omega)]
/-- v is a list of the call's own: n lists, in other blocks. -/
structure OwnW (w : World) (base : Nat) (v : Value) (n : Nat) (A : Nat → Option Addr) (L C : Nat → Nat) (F : Nat → Nat → Int) : Prop where
  own : w.ownsRow base 22 1 v n (slcW n A L C)
  row : ∀ i, i < n → PRow w (A i) (L i) (F i)
  apart : ∀ i, i < n → ∀ a, A i = some a → v.ownBlock ≠ some a.block ∧ a.block < w.heap.size
theorem OwnW.nil (w : World) (base : Nat) (A : Nat → Option Addr) (L C : Nat → Nat) (F : Nat → Nat → Int) : OwnW w base (.slice none 0 0) 0 A L C F :=
  ⟨World.ownsRow_nil w base 22 1, fun i hi => absurd hi (by omega), fun i hi => absurd hi (by omega)⟩
theorem OwnW.kept {w w' : World} {base : Nat} {v : Value} {n : Nat} {A : Nat → Option Addr} {L C : Nat → Nat} {F : Nat → Nat → Int} (h : OwnW w base v n A L C F) (hb : Below w.heap.size w w') : OwnW w' base v n A L C F := by
  refine ⟨⟨h.own.1, ?_⟩, fun i hi => (h.row i hi).kept hb, fun i hi a ha => ⟨(h.apart i hi a ha).1, Nat.lt_of_lt_of_le (h.apart i hi a ha).2 hb.size⟩⟩
  rcases h.own.2 with h2 | ⟨g, cap, cur, hv, hg, hh, r⟩
  · exact .inl h2
  · exact .inr ⟨g, cap, cur, hv, hg, (hb.block g (Array.getElem?_eq_some_iff.1 hh).1).trans hh, r⟩
theorem OwnW.is {w : World} {base : Nat} {v : Value} {n : Nat} {A : Nat → Option Addr} {L C : Nat → Nat} {F : Nat → Nat → Int} (h : OwnW w base v n A L C F) : ∃ ao cap, v = .slice ao n cap ∧ LRow w ao n A L C F := by
  have ho := h.own
  rcases ho.2 with ⟨rfl, rfl⟩ | ⟨g, cap, cur, rfl, _⟩
  · exact ⟨none, 0, rfl, fun h0 => by omega⟩
  · refine ⟨some ⟨g, 0, none⟩, cap, rfl, fun _ => ⟨g, 0, rfl, fun i hi => ⟨?_, h.row i hi⟩⟩⟩
    rw [Nat.zero_add, ho.cellAt i (by omega), slcW_at n A L C i hi]
/-- One list more: what append left. -/
theorem OwnW.next {w w' : World} {base : Nat} {v : Value} {n : Nat} {A : Nat → Option Addr} {L C : Nat → Nat} {F : Nat → Nat → Int} {g cap c : Nat} {ao : Option Addr} (h : OwnW w base v n A L C F)
    (ho : w'.ownsRow base 22 1 (.slice (some ⟨g, 0, none⟩) (n + 1) cap) (n + 1) (slcW n A L C ++ [.slice ao (L n) c])) (hg : w.grownBy w' v.ownBlock) (hat : v.ownBlock = some g ∨ w.heap.size ≤ g)
    (hr : PRow w ao (L n) (F n)) (ha : ∀ a, ao = some a → v.ownBlock ≠ some a.block ∧ a.block < w.heap.size) : OwnW w' base (.slice (some ⟨g, 0, none⟩) (n + 1) cap) (n + 1) (putO A n ao) L (putO C n c) F := by
  have krow : ∀ (a : Option Addr) (m : Nat) (f : Nat → Int), (∀ x, a = some x → v.ownBlock ≠ some x.block ∧ x.block < w.heap.size) → PRow w a m f → PRow w' a m f := fun a m f hx hp hm => by
    obtain ⟨b, off, e, hrow⟩ := hp hm
    obtain ⟨h1, h2⟩ := hx _ e
    exact ⟨b, off, e, fun j hj => (World.cell?_of_block (hg.block b h2 (fun e => h1 e.symm))).trans (hrow j hj)⟩
  have far : ∀ (a : Addr), v.ownBlock ≠ some a.block ∧ a.block < w.heap.size → (some g ≠ some a.block) ∧ a.block < w'.heap.size := fun a ⟨h1, h2⟩ => ⟨fun e => by
    rcases hat with e1 | e1
    · exact h1 (e1.trans e)
    · have := Option.some.inj e; omega, Nat.lt_of_lt_of_le h2 hg.size⟩
  refine ⟨by rw [← slcW_snoc]; exact ho, fun i hi => ?_, fun i hi a hai => ?_⟩
  · by_cases e : i = n
    · subst e; rw [putO, if_pos rfl]; exact krow ao _ _ ha hr
    · rw [putO, if_neg e]; exact krow _ _ _ (h.apart i (by omega)) (h.row i (by omega))
  · show some g ≠ _ ∧ _
    by_cases e : i = n
    · subst e; rw [putO, if_pos rfl] at hai; exact far a (ha a hai)
    · rw [putO, if_neg e] at hai; exact far a (h.apart i (by omega) a hai)

end Go.Proofs.YtoogpkcpheannabDoor
