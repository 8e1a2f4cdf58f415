/-
  A list of lists of numbers that a call has made, each in a block of its own: what stays, what a store into one of them leaves; no program in it.
-/
import Derived.Test.YtaiaillaihlhpafDoorTabs
namespace Go.Proofs.YtaiaillaihlhpafDoor
open Go.RowKit
set_option linter.unusedVariables false

/-- n lists of N numbers each, list i in block a i, the lists themselves in block R; all of them at base or behind it. -/
structure Grid (w : World) (R n N : Nat) (a : Nat → Nat) (F : Nat → Nat → Int) (base : Nat) : Prop where
  low : base ≤ R
  lt : R < w.heap.size
  cell : ∀ i, i < n → w.cell? ⟨R, i, none⟩ = some (.slice (some ⟨a i, 0, none⟩) N N)
  row : ∀ i, i < n → Row w (a i) 0 N (F i)
  may : ∀ i, i < n → Free w (a i) 0 N
  apart : ∀ i j, i < j → j < n → a i ≠ a j
  own : ∀ i, i < n → a i ≠ R
  high : ∀ i, i < n → base ≤ a i ∧ a i < w.heap.size
theorem Lays.grid {w w' : World} {n N : Nat} {a : Nat → Nat} {F : Nat → Nat → Int} (h : Lays w w' n n N a F) : Grid w' w.heap.size n N a F w.heap.size :=
  ⟨Nat.le_refl _, h.lt, h.cell, h.row, h.may, h.apart, fun i hi => by have := (h.high i hi).1; omega, fun i hi => ⟨Nat.le_of_lt (h.high i hi).1, (h.high i hi).2⟩⟩
theorem Grid.kept {w w' : World} {R n N : Nat} {a : Nat → Nat} {F : Nat → Nat → Int} {base : Nat} (h : Grid w R n N a F base) (hb : Below w.heap.size w w') : Grid w' R n N a F base :=
  ⟨h.low, Nat.lt_of_lt_of_le h.lt hb.size, fun i hi => (hb.cell h.lt).trans (h.cell i hi), fun i hi => (h.row i hi).kept hb (h.high i hi).2, fun i hi => (h.may i hi).kept hb (h.high i hi).2, h.apart, h.own, fun i hi => ⟨(h.high i hi).1, Nat.lt_of_lt_of_le (h.high i hi).2 hb.size⟩⟩
theorem Grid.drew {w : World} {R n N : Nat} {a : Nat → Nat} {F : Nat → Nat → Int} {base : Nat} (h : Grid w R n N a F base) : Grid w.drew R n N a F base := ⟨h.low, h.lt, h.cell, h.row, h.may, h.apart, h.own, h.high⟩
theorem Grid.base {w : World} {R n N : Nat} {a : Nat → Nat} {F : Nat → Nat → Int} {base b2 : Nat} (h : Grid w R n N a F base) (hb : b2 ≤ base) : Grid w R n N a F b2 := ⟨Nat.le_trans hb h.low, h.lt, h.cell, h.row, h.may, h.apart, h.own, fun i hi => ⟨Nat.le_trans hb (h.high i hi).1, (h.high i hi).2⟩⟩
theorem Grid.congr {w : World} {R n N : Nat} {a : Nat → Nat} {F G : Nat → Nat → Int} {base : Nat} (h : Grid w R n N a F base) (e : ∀ i j, i < n → j < N → F i j = G i j) : Grid w R n N a G base := ⟨h.low, h.lt, h.cell, fun i hi => (h.row i hi).congr fun j hj => e i j hi hj, h.may, h.apart, h.own, h.high⟩
theorem Grid.tabs {w : World} {R n N : Nat} {a : Nat → Nat} {F : Nat → Nat → Int} {base : Nat} (h : Grid w R n N a F base) : Tabs w R 0 n a (fun _ => 0) (fun _ => N) N F := ⟨fun i hi => by rw [Nat.zero_add]; exact h.cell i hi, h.row⟩
/-- One number of one of them is written. -/
theorem Grid.put {w : World} {R n N : Nat} {a : Nat → Nat} {F : Nat → Nat → Int} {base : Nat} (h : Grid w R n N a F base) (q s : Nat) (hq : q < n) (hs : s < N) (x : Int) : Grid (w.setCell ⟨a q, s, none⟩ (.int .u64 x)) R n N a (fun i j => if i = q ∧ j = s then x else F i j) base := by
  have hW : Wrote (a q) s 1 w (w.setCell ⟨a q, s, none⟩ (.int .u64 x)) := (Wrote.refl _ _ _ _).store (Nat.le_refl _) (by omega) _
  have ne : ∀ i, i < n → i ≠ q → a i ≠ a q := fun i hi e => by
    by_cases h1 : i < q
    · exact h.apart i q h1 hq
    · exact (h.apart q i (by omega) hi).symm
  refine ⟨h.low, by rw [World.size_setCell]; exact h.lt, fun i hi => ?_, fun i hi => ?_, fun i hi j hj => by rw [World.frozen?_setCell]; exact h.may i hi j hj, h.apart, h.own, fun i hi => by rw [World.size_setCell]; exact h.high i hi⟩
  · exact (World.cell?_of_block (w := w) (hW.block R (h.own q hq).symm)).trans (h.cell i hi)
  · by_cases e : i = q
    · subst e
      have hs2 := (h.row i hi).store s x hs
      rw [Nat.zero_add] at hs2
      exact hs2.congr fun j _ => by
        by_cases e2 : j = s
        · rw [if_pos e2, if_pos ⟨rfl, e2⟩]
        · rw [if_neg e2, if_neg (fun h => e2 h.2)]
    · exact ((h.row i hi).other hW (ne i hi e)).congr fun j _ => by rw [if_neg (fun h => e h.1)]
/-- Two, three lists in a list that is laid. -/
def two {α : Type} (x y : α) (i : Nat) : α := if i = 0 then x else y
def three {α : Type} (x y z : α) (i : Nat) : α := if i = 0 then x else if i = 1 then y else z
theorem tabs_two {w : World} {b0 b1 c0 c1 N : Nat} {F : Nat → Nat → Int} (h0 : Row w b0 0 N (F 0)) (h1 : Row w b1 0 N (F 1)) (hN : 0 < N) (t : TypeId) :
    Tabs (w.alloc (.cells #[.slice (some ⟨b0, 0, none⟩) N c0, .slice (some ⟨b1, 0, none⟩) N c1] t)) w.heap.size 0 2 (two b0 b1) (fun _ => 0) (two c0 c1) N F := by
  have hb := (Below.refl w.heap.size w).alloc (Nat.le_refl _) (.cells #[.slice (some ⟨b0, 0, none⟩) N c0, .slice (some ⟨b1, 0, none⟩) N c1] t)
  refine ⟨fun i hi => ?_, fun i hi => ?_⟩
  · match i, hi with
    | 0, _ => rw [World.cell?_alloc_new]; rfl
    | 1, _ => rw [World.cell?_alloc_new]; rfl
  · match i, hi with
    | 0, _ => exact h0.kept hb (h0.lt hN)
    | 1, _ => exact h1.kept hb (h1.lt hN)
theorem tabs_three {w : World} {b0 b1 b2 c0 c1 c2 N : Nat} {F : Nat → Nat → Int} (h0 : Row w b0 0 N (F 0)) (h1 : Row w b1 0 N (F 1)) (h2 : Row w b2 0 N (F 2)) (hN : 0 < N) (t : TypeId) :
    Tabs (w.alloc (.cells #[.slice (some ⟨b0, 0, none⟩) N c0, .slice (some ⟨b1, 0, none⟩) N c1, .slice (some ⟨b2, 0, none⟩) N c2] t)) w.heap.size 0 3 (three b0 b1 b2) (fun _ => 0) (three c0 c1 c2) N F := by
  have hb := (Below.refl w.heap.size w).alloc (Nat.le_refl _) (.cells #[.slice (some ⟨b0, 0, none⟩) N c0, .slice (some ⟨b1, 0, none⟩) N c1, .slice (some ⟨b2, 0, none⟩) N c2] t)
  refine ⟨fun i hi => ?_, fun i hi => ?_⟩
  · match i, hi with
    | 0, _ => rw [World.cell?_alloc_new]; rfl
    | 1, _ => rw [World.cell?_alloc_new]; rfl
    | 2, _ => rw [World.cell?_alloc_new]; rfl
  · match i, hi with
    | 0, _ => exact h0.kept hb (h0.lt hN)
    | 1, _ => exact h1.kept hb (h1.lt hN)
    | 2, _ => exact h2.kept hb (h2.lt hN)

end Go.Proofs.YtaiaillaihlhpafDoor
