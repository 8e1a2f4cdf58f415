/-
  Rows of numbers of 64 bits in memory: what lies there, what a store leaves, what stays; no program in it.
-/
import Derived.Test.YtbchbmelofojkaaGreatDoorOps
import Derived.WalkKit
namespace Go.Proofs.YtbchbmelofojkaaGreatDoor
open Go.RowKit
set_option linter.unusedVariables false

/-- n numbers lie in block b from place o on. -/
def Row (w : World) (b o n : Nat) (f : Nat → Int) : Prop := ∀ j, j < n → w.cell? ⟨b, o + j, none⟩ = some (.int .u64 (f j))
/-- They may be written. -/
def Free (w : World) (b o n : Nat) : Prop := ∀ j, j < n → w.frozen? ⟨b, o + j, none⟩ = false
/-- Numbers of 64 bits. -/
def Nums (f : Nat → Int) : Prop := ∀ j, 0 ≤ f j ∧ f j ≤ 18446744073709551615

/-- w' is w, but for n places of block b from o on. -/
structure Wrote (b o n : Nat) (w w' : World) : Prop where
  os : w'.os = w.os
  tape : w'.tape = w.tape
  output : w'.output = w.output
  size : w'.heap.size = w.heap.size
  block : ∀ k, k ≠ b → w'.heap[k]? = w.heap[k]?
  cell : ∀ p, p < o ∨ o + n ≤ p → w'.cell? ⟨b, p, none⟩ = w.cell? ⟨b, p, none⟩
  frozen : ∀ p, w'.frozen? ⟨b, p, none⟩ = w.frozen? ⟨b, p, none⟩

theorem Wrote.refl (b o n : Nat) (w : World) : Wrote b o n w w := ⟨rfl, rfl, rfl, rfl, fun _ _ => rfl, fun _ _ => rfl, fun _ => rfl⟩
theorem Wrote.drew {b o n : Nat} {w w' : World} (h : Wrote b o n w w') : Wrote b o n w w'.drew := ⟨h.os, h.tape, h.output, h.size, h.block, h.cell, h.frozen⟩
theorem Wrote.trans {b o n : Nat} {w w' w'' : World} (h : Wrote b o n w w') (g : Wrote b o n w' w'') : Wrote b o n w w'' :=
  ⟨g.os.trans h.os, g.tape.trans h.tape, g.output.trans h.output, g.size.trans h.size, fun k hk => (g.block k hk).trans (h.block k hk), fun p hp => (g.cell p hp).trans (h.cell p hp), fun p => (g.frozen p).trans (h.frozen p)⟩
theorem Wrote.store {b o n : Nat} {w w' : World} (h : Wrote b o n w w') {q : Nat} (hq : o ≤ q) (hq2 : q < o + n) (u : Value) : Wrote b o n w (w'.setCell ⟨b, q, none⟩ u) := by
  refine ⟨h.os, h.tape, h.output, by rw [World.size_setCell]; exact h.size, fun k hk => ?_, fun p hp => ?_, fun p => ?_⟩
  · rw [Below.heap_setCell _ _ _ _ hk]; exact h.block k hk
  · rw [World.cell?_setCell_other _ _ _ _ (by intro e; simp only [Addr.mk.injEq] at e; omega)]; exact h.cell p hp
  · rw [World.frozen?_setCell]; exact h.frozen p
theorem Wrote.wide {b o n o' n' : Nat} {w w' : World} (h : Wrote b o n w w') (h1 : o' ≤ o) (h2 : o + n ≤ o' + n') : Wrote b o' n' w w' :=
  ⟨h.os, h.tape, h.output, h.size, h.block, fun p hp => h.cell p (by omega), h.frozen⟩
theorem Wrote.below {b o n B : Nat} {w w' : World} (h : Wrote b o n w w') (hB : B ≤ b) : Below B w w' :=
  ⟨h.os, h.tape, h.output, by rw [h.size]; exact Nat.le_refl _, fun k hk => h.block k (by omega)⟩

theorem Row.kept {b o n B : Nat} {f : Nat → Int} {w w' : World} (h : Row w b o n f) (hb : Below B w w') (hB : b < B) : Row w' b o n f := fun j hj => (hb.cell hB).trans (h j hj)
theorem Free.kept {b o n B : Nat} {w w' : World} (h : Free w b o n) (hb : Below B w w') (hB : b < B) : Free w' b o n := fun j hj => (hb.frozen hB).trans (h j hj)
theorem Free.wrote {b o n o' n' : Nat} {w w' : World} (h : Free w b o n) (g : Wrote b o' n' w w') : Free w' b o n := fun j hj => (g.frozen _).trans (h j hj)
theorem Row.other {b o n b' o' n' : Nat} {f : Nat → Int} {w w' : World} (h : Row w b o n f) (g : Wrote b' o' n' w w') (hb : b ≠ b') : Row w' b o n f := fun j hj => (World.cell?_of_block (w := w) (g.block b hb)).trans (h j hj)
theorem Row.drew {b o n : Nat} {f : Nat → Int} {w : World} (h : Row w b o n f) : Row w.drew b o n f := h
theorem Free.drew {b o n : Nat} {w : World} (h : Free w b o n) : Free w.drew b o n := h
theorem Row.congr {b o n : Nat} {f g : Nat → Int} {w : World} (h : Row w b o n f) (e : ∀ j, j < n → f j = g j) : Row w b o n g := fun j hj => by rw [← e j hj]; exact h j hj
theorem Row.store {b o n : Nat} {f : Nat → Int} {w : World} (h : Row w b o n f) (i : Nat) (x : Int) (hi : i < n) : Row (w.setCell ⟨b, o + i, none⟩ (.int .u64 x)) b o n (fun j => if j = i then x else f j) := by
  intro j hj
  dsimp only
  by_cases e : j = i
  · subst e
    rw [World.cell?_setCell_same _ _ _ (h j hj), if_pos rfl]
  · rw [World.cell?_setCell_other _ _ _ _ (by intro e2; simp only [Addr.mk.injEq] at e2; omega), if_neg e]
    exact h j hj
theorem Row.lt {b o n : Nat} {f : Nat → Int} {w : World} (h : Row w b o n f) (hn : 0 < n) : b < w.heap.size := World.block_lt_of_cell? w _ (h 0 hn)
/-- Its part from i on. -/
theorem Row.from {b o n : Nat} {f : Nat → Int} {w : World} (h : Row w b o n f) (i : Nat) : Row w b (o + i) (n - i) (fun j => f (i + j)) := fun j hj => by
  have := h (i + j) (by omega)
  rw [← Nat.add_assoc] at this; exact this
theorem Free.from {b o n : Nat} {w : World} (h : Free w b o n) (i : Nat) : Free w b (o + i) (n - i) := fun j hj => by
  have := h (i + j) (by omega)
  rw [← Nat.add_assoc] at this; exact this
/-- A part of it was written. -/
theorem Row.part {b o n i m : Nat} {f g : Nat → Int} {w w' : World} (h : Row w b o n f) (hw : Wrote b (o + i) m w w') (g' : Row w' b (o + i) m g) : Row w' b o n (fun j => if i ≤ j ∧ j < i + m then g (j - i) else f j) := by
  intro j hj
  dsimp only
  by_cases e : i ≤ j ∧ j < i + m
  · have := g' (j - i) (by omega)
    rw [show o + i + (j - i) = o + j from by omega] at this
    rw [this, if_pos e]
  · rw [hw.cell (o + j) (by omega), h j hj, if_neg e]

/-- A new row of n numbers lies at the heap's old end; nothing that was there is written. -/
structure Made (w w' : World) (n : Nat) (f : Nat → Int) : Prop where
  below : Below w.heap.size w w'
  row : Row w' w.heap.size 0 n f
  free : Free w' w.heap.size 0 n

theorem Made.start (w : World) (n : Nat) (t : TypeId) : Made w (w.alloc (.cells (madeCells #[.int .u64 0] n) t)) n (fun _ => 0) := by
  refine ⟨(Below.refl _ _).alloc (Nat.le_refl _) _, fun j hj => ?_, fun j _ => ?_⟩
  · rw [Nat.zero_add, World.cell?_alloc_new]; simp [madeCells, hj, Nat.mod_one]
  · rw [Nat.zero_add, World.frozen?_alloc_new]
theorem Made.cell {w w' : World} {n : Nat} {f : Nat → Int} (h : Made w w' n f) (j : Nat) (hj : j < n) : w'.cell? ⟨w.heap.size, j, none⟩ = some (.int .u64 (f j)) := by
  have := h.row j hj
  rwa [Nat.zero_add] at this
theorem Made.frozen {w w' : World} {n : Nat} {f : Nat → Int} (h : Made w w' n f) (j : Nat) (hj : j < n) : w'.frozen? ⟨w.heap.size, j, none⟩ = false := by
  have := h.free j hj
  rwa [Nat.zero_add] at this
theorem Made.old {w w' : World} {n b o m : Nat} {f g : Nat → Int} (h : Made w w' n f) (hr : Row w b o m g) (j : Nat) (hj : j < m) : w'.cell? ⟨b, o + j, none⟩ = some (.int .u64 (g j)) :=
  (h.below.cell (hr.lt (by omega))).trans (hr j hj)
theorem Made.drew {w w' : World} {n : Nat} {f : Nat → Int} (h : Made w w' n f) : Made w w'.drew n f := ⟨h.below.drew, h.row, h.free⟩
theorem Made.congr {w w' : World} {n : Nat} {f g : Nat → Int} (h : Made w w' n f) (e : ∀ j, j < n → f j = g j) : Made w w' n g := ⟨h.below, h.row.congr e, h.free⟩
theorem Made.store {w w' : World} {n : Nat} {f : Nat → Int} (h : Made w w' n f) (i : Nat) (x : Int) (hi : i < n) : Made w (w'.setCell ⟨w.heap.size, i, none⟩ (.int .u64 x)) n (fun j => if j = i then x else f j) := by
  have hs := h.row.store i x hi
  rw [Nat.zero_add] at hs
  exact ⟨h.below.setCell (Nat.le_refl _) _, hs, fun j hj => by rw [World.frozen?_setCell]; exact h.free j hj⟩
theorem Made.wrote {w w' w'' : World} {n o m : Nat} {f g : Nat → Int} (h : Made w w' n f) (hw : Wrote w.heap.size o m w' w'') (hr : Row w'' w.heap.size 0 n g) : Made w w'' n g :=
  ⟨h.below.trans (hw.below (Nat.le_refl _)), hr, h.free.wrote hw⟩

end Go.Proofs.YtbchbmelofojkaaGreatDoor
