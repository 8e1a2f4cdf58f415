/-
  Proofs, as they are told, in memory: parts, their rounds and lines; what stays; no program in it.
-/
import Derived.Test.YtbchbmelofojkaaGreatDoorLists
import Derived.Test.YtbchbmelofojkaaGreatDoorGkrQ
namespace Go.Proofs.YtbchbmelofojkaaGreatDoor
open Go.RowKit
set_option linter.unusedVariables false

/-- A proof as it is told: n parts; of part j rn j rounds, round i of it of rl j i numbers, and ln j numbers of its line. -/
structure PQ where
  n : Nat
  rn : Nat → Nat
  ln : Nat → Nat
  rl : Nat → Nat → Nat
  R : Nat → Nat → Nat → Int
  L : Nat → Nat → Int
/-- Where it lies. -/
structure PM where
  ra : Nat → Option Addr
  la : Nat → Option Addr
  rc : Nat → Nat
  lc : Nat → Nat
  A : Nat → Nat → Option Addr
  C : Nat → Nat → Nat
def PfRow (w : World) (ao : Option Addr) (p : PQ) (m : PM) : Prop := 0 < p.n → ∃ b off, ao = some ⟨b, off, none⟩ ∧ ∀ j, j < p.n →
  w.cell? ⟨b, off + 2 * j, none⟩ = some (.slice (m.ra j) (p.rn j) (m.rc j)) ∧ w.cell? ⟨b, off + 2 * j + 1, none⟩ = some (.slice (m.la j) (p.ln j) (m.lc j)) ∧
  LRow w (m.ra j) (p.rn j) (m.A j) (p.rl j) (m.C j) (p.R j) ∧ PRow w (m.la j) (p.ln j) (p.L j)
theorem PfRow.kept {w w' : World} {ao : Option Addr} {p : PQ} {m : PM} (h : PfRow w ao p m) (hb : Below w.heap.size w w') : PfRow w' ao p m := fun hn => by
  obtain ⟨b, off, e, hr⟩ := h hn
  refine ⟨b, off, e, fun j hj => ?_⟩
  obtain ⟨h1, h2, h3, h4⟩ := hr j hj
  exact ⟨(hb.cell (World.block_lt_of_cell? w _ h1)).trans h1, (hb.cell (World.block_lt_of_cell? w _ h2)).trans h2, h3.kept hb, h4.kept hb⟩
theorem PfRow.drew {w : World} {ao : Option Addr} {p : PQ} {m : PM} (h : PfRow w ao p m) : PfRow w.drew ao p m := h
/-- Its numbers are of 64 bits. -/
def PQ.nums (p : PQ) : Prop := ∀ j, j < p.n → (∀ i, i < p.rn j → Nums (p.R j i)) ∧ Nums (p.L j)
/-- It is as it must be. -/
def shapedQ (c : CQ) (p : PQ) : Prop := p.n = c.layers.length ∧ ∀ j, j < p.n → p.rn j = 2 * (partsQ c).lg (j + 1) ∧ p.ln j = (partsQ c).lg (j + 1) + 1 ∧ ∀ i, i < p.rn j → p.rl j i = 3
/-- Its numbers alone. -/
def PQ.told (p : PQ) : Told := ⟨p.R, p.L⟩
/-- A proof that came in. -/
structure IsPrf (w : World) (ao : Option Addr) (len cap : Nat) (p : PQ) (m : PM) : Prop where
  lenE : p.n = len
  capE : len ≤ cap
  maxE : cap ≤ maxLen
  row : PfRow w ao p m
  nums : p.nums
  small : ∀ j, j < p.n → p.rn j ≤ maxLen ∧ p.ln j ≤ maxLen ∧ ∀ i, i < p.rn j → p.rl j i ≤ maxLen

end Go.Proofs.YtbchbmelofojkaaGreatDoor
