/-
  Lists of ints that a call makes and appends to; lists of a proof's turns; no program in it but the row of Go's int in the program's table.
-/
import Derived.Test.YtbchbmelofojkaaGreatDoorChecked
import Derived.Test.YtbchbmelofojkaaGreatDoorOwn
import Derived.Test.YtbchbmelofojkaaGreatDoorGkrH
namespace Go.Proofs.YtbchbmelofojkaaGreatDoor
open Go.RowKit
set_option linter.unusedVariables false

theorem Tryz.infoI : (Tryz.prog.info? 3).map (fun i => (i.zero, i.size, i.bytes)) = some (some (.int .i64 0), 1, 8) := by kernel_rfl
/-- Ints lie in block b from place o on. -/
def IRow (w : World) (b o n : Nat) (f : Nat → Int) : Prop := ∀ j, j < n → w.cell? ⟨b, o + j, none⟩ = some (.int .i64 (f j))
theorem IRow.kept {b o n : Nat} {f : Nat → Int} {w w' : World} (h : IRow w b o n f) (hb : Below w.heap.size w w') : IRow w' b o n f := fun j hj => (hb.cell (World.block_lt_of_cell? w _ (h j hj))).trans (h j hj)
theorem IRow.lt {b o n : Nat} {f : Nat → Int} {w : World} (h : IRow w b o n f) (hn : 0 < n) : b < w.heap.size := World.block_lt_of_cell? w _ (h 0 hn)
def icells (n : Nat) (f : Nat → Int) : List Value := (List.range n).map fun j => Value.int .i64 (f j)
theorem icells_len (n : Nat) (f : Nat → Int) : (icells n f).length = n := by simp [icells]
theorem icells_at (n : Nat) (f : Nat → Int) (j : Nat) (h : j < n) : (icells n f)[j]? = some (.int .i64 (f j)) := by simp [icells, h]
theorem icells_snoc (n : Nat) (f : Nat → Int) (y : Int) (hy : f n = y) : icells n f ++ [.int .i64 y] = icells (n + 1) f := by
  simp [icells, List.range_succ, hy]
/-- v is a list of the call's own, n ints. -/
def OwnI (w : World) (base : Nat) (v : Value) (n : Nat) (f : Nat → Int) : Prop := w.ownsRow base 3 1 v n (icells n f)
theorem OwnI.kept {w w' : World} {base : Nat} {v : Value} {n : Nat} {f : Nat → Int} (h : OwnI w base v n f) (hb : Below w.heap.size w w') : OwnI w' base v n f := by
  refine ⟨h.1, ?_⟩
  rcases h.2 with h2 | ⟨g, cap, cur, hv, hg, hh, r⟩
  · exact .inl h2
  · exact .inr ⟨g, cap, cur, hv, hg, (hb.block g (Array.getElem?_eq_some_iff.1 hh).1).trans hh, r⟩
theorem OwnI.is {w : World} {base : Nat} {v : Value} {n : Nat} {f : Nat → Int} (h : OwnI w base v (n + 1) f) : ∃ g c, v = .slice (some ⟨g, 0, none⟩) (n + 1) c ∧ n + 1 ≤ c ∧ base ≤ g ∧ IRow w g 0 (n + 1) f := by
  have ho := h
  rcases h.2 with ⟨_, e⟩ | ⟨g, cap, cur, rfl, hb, _, hc, _⟩
  · omega
  · exact ⟨g, cap, rfl, hc, hb, fun j hj => by rw [Nat.zero_add, ho.cellAt j (by omega), icells_at _ _ _ hj]⟩
/-- The first one is written. -/
theorem OwnI.start (w : World) (base k : Nat) (g : Int) (f : Nat → Int) (hb : base ≤ w.heap.size) (hk : k + 1 ≤ maxLen) (hf : f 0 = g) :
    OwnI (w.alloc (.cells ((madeCells #[.int .i64 0] (k + 1)).setIfInBounds 0 (.int .i64 g)) 3)) base (.slice (some ⟨w.heap.size, 0, none⟩) 1 (k + 1)) 1 f := by
  refine ⟨by simp [icells], .inr ⟨w.heap.size, k + 1, (madeCells #[.int .i64 0] (k + 1)).setIfInBounds 0 (.int .i64 g), rfl, hb, heap_alloc_new w _, by omega, hk, by simp [madeCells], ?_⟩⟩
  simp [icells, madeCells, hf, List.range_succ_eq_map]

/-- Four cells lie in block B from its start on. -/
structure Box4 (w : World) (B : Nat) (p q r s : Value) : Prop where
  c0 : w.cell? ⟨B, 0, none⟩ = some p
  c1 : w.cell? ⟨B, 1, none⟩ = some q
  c2 : w.cell? ⟨B, 2, none⟩ = some r
  c3 : w.cell? ⟨B, 3, none⟩ = some s
  lt : B < w.heap.size
theorem Box4.new (w : World) (p q r s : Value) (t : TypeId) : Box4 (w.alloc (.cells #[p, q, r, s] t)) w.heap.size p q r s :=
  ⟨by rw [World.cell?_alloc_new]; rfl, by rw [World.cell?_alloc_new]; rfl, by rw [World.cell?_alloc_new]; rfl, by rw [World.cell?_alloc_new]; rfl, by simp⟩
theorem Box4.kept {w w' : World} {B : Nat} {p q r s : Value} (h : Box4 w B p q r s) (hb : Below w.heap.size w w') : Box4 w' B p q r s :=
  ⟨(hb.cell h.lt).trans h.c0, (hb.cell h.lt).trans h.c1, (hb.cell h.lt).trans h.c2, (hb.cell h.lt).trans h.c3, Nat.lt_of_lt_of_le h.lt hb.size⟩
/-- What holds all along in a method of a turn: its box, and that nothing was written. -/
structure StT (w W : World) (B : Nat) (p q r s : Value) : Prop where
  bel : Below w.heap.size w W
  box : Box4 W B p q r s
theorem StT.next {w W W' : World} {B : Nat} {p q r s : Value} (h : StT w W B p q r s) (hb : Below W.heap.size W W') : StT w W' B p q r s := ⟨h.bel.trans (hb.mono h.bel.size), h.box.kept hb⟩
theorem StT.start (w : World) (p q r s : Value) (t : TypeId) : StT w (w.alloc (.cells #[p, q, r, s] t)) w.heap.size p q r s := ⟨(Below.refl _ w).alloc (Nat.le_refl _) _, Box4.new w _ _ _ _ _⟩
/-- A turn as a value. -/
abbrev turnV (i : Int) (az : Option Addr) (nz cz : Nat) (ad : Option Addr) (nd cd : Nat) (tau : Int) : Value := .agg #[.int .i64 i, .slice az nz cz, .slice ad nd cd, .int .u64 tau]

end Go.Proofs.YtbchbmelofojkaaGreatDoor
