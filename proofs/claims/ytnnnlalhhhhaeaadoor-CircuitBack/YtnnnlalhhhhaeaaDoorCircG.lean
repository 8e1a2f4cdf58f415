/-
  A contract of package circuit's readLine, for every line; what it makes is new, and it writes into the circuit alone that it was handed.
-/
import Derived.Test.YtnnnlalhhhhaeaaDoorCircN
import Derived.Test.YtnnnlalhhhhaeaaDoorCircB
import Derived.Test.YtnnnlalhhhhaeaaDoorCuts
import Derived.Test.YtnnnlalhhhhaeaaDoorShelf
import Derived.Deep.RegionLaw
import Derived.Deep.AppendLies
namespace Go.Proofs.YtnnnlalhhhhaeaaDoor
open Go.RowKit Go.PlainAid
set_option linter.unusedVariables false
attribute [local go_sem ↓] Go.wp_at_zero Go.wp_at_succ

/-- A circuit that is read: it lies in block cb, its lists are the call's own. -/
structure PS (B0 : Nat) (w : World) (cb base : Nat) (c : CQ) (v : Value) (ps : List (LQ × Value)) : Prop where
  box0 : w.cell? ⟨cb, 0, none⟩ = some (.int .i64 c.log)
  box1 : w.cell? ⟨cb, 1, none⟩ = some v
  fr0 : w.frozen? ⟨cb, 0, none⟩ = false
  fr1 : w.frozen? ⟨cb, 1, none⟩ = false
  own : OwnC w base v ps
  lay : c.layers = ps.map (·.1)
  lt : cb < base
  le : base ≤ w.heap.size
  ge : B0 ≤ cb
theorem PS.kept {B0 : Nat} {w w' : World} {cb base : Nat} {c : CQ} {v : Value} {ps : List (LQ × Value)} (h : PS B0 w cb base c v ps) (hb : Below w.heap.size w w') : PS B0 w' cb base c v ps :=
  have hl := Nat.lt_of_lt_of_le h.lt h.le
  ⟨(hb.cell hl).trans h.box0, (hb.cell hl).trans h.box1, (hb.frozen hl).trans h.fr0, (hb.frozen hl).trans h.fr1, h.own.kept hb, h.lay, h.lt, Nat.le_trans h.le hb.size, h.ge⟩
theorem OwnC.setBelow {w : World} {base : Nat} {v : Value} {ps : List (LQ × Value)} (h : OwnC w base v ps) {a : Addr} (ha : a.block < base) (u : Value) : OwnC (w.setCell a u) base v ps :=
  ⟨ownsRow_setCell_below h.own ha u, fun p hp => ownsRow_setCell_below (h.gates p hp) ha u, h.apart, h.each⟩
/-- The first line: the inputs. -/
theorem PS.inputs {B0 : Nat} {w : World} {cb base : Nat} {c : CQ} {v : Value} {ps : List (LQ × Value)} (h : PS B0 w cb base c v ps) (n : Int) : PS B0 (w.setCell ⟨cb, 0, none⟩ (.int .i64 n)) cb base ⟨n, c.layers⟩ v ps :=
  ⟨World.cell?_setCell_same _ _ _ h.box0, by rw [World.cell?_setCell_other _ _ _ _ (by intro e; simp at e)]; exact h.box1, by rw [World.frozen?_setCell]; exact h.fr0, by rw [World.frozen?_setCell]; exact h.fr1, h.own.setBelow h.lt _, h.lay, h.lt, by rw [World.size_setCell]; exact h.le, h.ge⟩

theorem infoY_parts : ∃ (i : TypeInfo) (z : Value), Tryd.prog.info? 43 = some i ∧ i.zero = some z ∧ i.size = 2 ∧ i.bytes = 32 ∧ z.cells.size = 2 := by
  have h := Tryd.infoY
  cases hi : Tryd.prog.info? 43 with
  | none => rw [hi] at h; simp at h
  | some i =>
    rw [hi] at h
    simp at h
    obtain ⟨⟨z, hz, hc⟩, h1, h2⟩ := h
    exact ⟨i, z, rfl, hz, h1, h2, by rw [hc]; rfl⟩
theorem infoG_parts : ∃ (i : TypeInfo) (z : Value), Tryd.prog.info? 46 = some i ∧ i.zero = some z ∧ i.size = 3 ∧ i.bytes = 24 ∧ z.cells.size = 3 := by
  have h := Tryd.infoG
  cases hi : Tryd.prog.info? 46 with
  | none => rw [hi] at h; simp at h
  | some i =>
    rw [hi] at h
    simp at h
    obtain ⟨⟨z, hz, hc⟩, h1, h2⟩ := h
    exact ⟨i, z, rfl, hz, h1, h2, by rw [hc]; rfl⟩
/-- What stands below what is the call's own stays behind an append. -/
theorem grown_low {w w' : World} {row : Option Nat} {base b p : Nat} (hg : w.grownBy w' row) (hr : ∀ k, row = some k → base ≤ k) (hb : b < base) (hl : base ≤ w.heap.size) : w'.cell? ⟨b, p, none⟩ = w.cell? ⟨b, p, none⟩ ∧ w'.frozen? ⟨b, p, none⟩ = w.frozen? ⟨b, p, none⟩ := by
  have e : w'.heap[b]? = w.heap[b]? := hg.block b (by omega) (fun e => by have := hr b e.symm; omega)
  exact ⟨World.cell?_of_block (w := w) e, World.frozen?_of_block (w := w) e⟩
theorem grown_dry {w w2 : World} {r : Option Nat} (h : w.drew.grownBy w2 r) : w.grownBy w2 r := ⟨h.os, h.tape, h.output, h.size, h.block⟩
theorem news_all (w : World) (cs : List Value) (t : TypeId) : ∀ j u, cs[j]? = some u → (w.alloc (.cells cs.toArray t)).drew.cell? ((⟨w.heap.size, 0, none⟩ : Addr).add j) = some u := by
  intro j u hj
  have hadd : (⟨w.heap.size, 0, none⟩ : Addr).add j = ⟨w.heap.size, j, none⟩ := by unfold Addr.add; split <;> simp_all
  rw [hadd]
  show (w.alloc (.cells cs.toArray t)).cell? _ = _
  rw [World.cell?_alloc_new]
  simpa using hj
theorem one_layer (x : Int) : ∀ u ∈ [Value.int .i64 x, Value.slice none 0 0], u.oneCell' = true := by
  intro u hu
  simp at hu
  rcases hu with rfl | rfl <;> rfl
theorem one_gate (m : Bool) (x y : Int) : ∀ u ∈ [Value.bool m, Value.int .i64 x, Value.int .i64 y], u.oneCell' = true := by
  intro u hu
  simp at hu
  rcases hu with rfl | rfl | rfl <;> rfl
/-- One layer more. -/
theorem PS.layer {B0 : Nat} {w w6 : World} {cb base : Nat} {c : CQ} {v : Value} {ps : List (LQ × Value)} {g cap : Nat} {n : Int} (h : PS B0 w cb base c v ps)
    (ho : w6.ownsRow base 43 2 (.slice (some ⟨g, 0, none⟩) (ps.length + 1) cap) (ps.length + 1) (lcells ps ++ [.int .i64 n, .slice none 0 0])) (hg : w.grownBy w6 v.ownBlock) (hat : v.ownBlock = some g ∨ w.heap.size ≤ g) :
    PS B0 (w6.setCell ⟨cb, 1, none⟩ (.slice (some ⟨g, 0, none⟩) (ps.length + 1) cap)) cb base ⟨c.log, c.layers ++ [⟨n, []⟩]⟩ (.slice (some ⟨g, 0, none⟩) (ps.length + 1) cap) (ps ++ [(⟨n, []⟩, .slice none 0 0)]) := by
  have hlow := fun p => grown_low (p := p) hg (fun k hk => (h.own.own.lt k hk).1) h.lt h.le
  have hO := h.own.layer ho hg hat
  refine ⟨?_, World.cell?_setCell_same _ _ _ ((hlow 1).1.trans h.box1), ?_, ?_, hO.setBelow h.lt _, by rw [h.lay]; simp, h.lt, by rw [World.size_setCell]; exact Nat.le_trans h.le hg.size, h.ge⟩
  · rw [World.cell?_setCell_other _ _ _ _ (by intro e; simp at e), (hlow 0).1]; exact h.box0
  · rw [World.frozen?_setCell, (hlow 0).2]; exact h.fr0
  · rw [World.frozen?_setCell, (hlow 1).2]; exact h.fr1
/-- One gate more. -/
theorem PS.gate {B0 : Nat} {w w6 : World} {cb base : Nat} {c : CQ} {vb vc : Nat} {qs : List (LQ × Value)} {l : LQ} {gv : Value} {g cap : Nat} {x : GQ} (h : PS B0 w cb base c (.slice (some ⟨vb, 0, none⟩) (qs.length + 1) vc) (qs ++ [(l, gv)]))
    (ho : w6.ownsRow base 46 3 (.slice (some ⟨g, 0, none⟩) (l.gates.length + 1) cap) (l.gates.length + 1) (gcells l.gates ++ [.bool x.mul, .int .i64 x.a, .int .i64 x.b])) (hg : w.grownBy w6 gv.ownBlock) (hat : gv.ownBlock = some g ∨ w.heap.size ≤ g) :
    PS B0 (w6.setCell ⟨vb, 2 * qs.length + 1, none⟩ (.slice (some ⟨g, 0, none⟩) (l.gates.length + 1) cap)) cb base ⟨c.log, gateTo c.layers x⟩ (.slice (some ⟨vb, 0, none⟩) (qs.length + 1) vc) (qs ++ [(⟨l.log, l.gates ++ [x]⟩, .slice (some ⟨g, 0, none⟩) (l.gates.length + 1) cap)]) := by
  have hgl := h.own.gates (l, gv) (by simp)
  have hlow := fun p => grown_low (p := p) hg (fun k hk => (hgl.lt k hk).1) h.lt h.le
  have hO := h.own.gate ho hg hat
  have hvb := (h.own.own.lt vb rfl).1
  have hlt := h.lt
  have far : ∀ p, (w6.setCell ⟨vb, 2 * qs.length + 1, none⟩ (.slice (some ⟨g, 0, none⟩) (l.gates.length + 1) cap)).cell? ⟨cb, p, none⟩ = w.cell? ⟨cb, p, none⟩ := fun p => by
    rw [World.cell?_setCell_other _ _ _ _ (by intro e; simp only [Addr.mk.injEq] at e; omega)]; exact (hlow p).1
  refine ⟨(far 0).trans h.box0, (far 1).trans h.box1, ?_, ?_, hO, ?_, h.lt, by rw [World.size_setCell]; exact Nat.le_trans h.le hg.size, h.ge⟩
  · rw [World.frozen?_setCell, (hlow 0).2]; exact h.fr0
  · rw [World.frozen?_setCell, (hlow 1).2]; exact h.fr1
  · show gateTo c.layers x = _
    rw [h.lay, List.map_append, List.map_append]
    exact gateTo_snoc _ _ _

/-- A line's words, as the numbers behind the first one are read. -/
theorem line_bad {P : List ByteArray} {line : List UInt8} (hp : P.map (·.data.toList) = piecesL 32 line) (h : ∃ j, j + 1 < P.length ∧ numB ((P[j + 1]?).getD ByteArray.empty) = none) : lineQ line = none := by
  obtain ⟨j, hj, hn⟩ := h
  rw [lineQ, ← hp]
  match P, hj, hn with
  | [_, x], hj, hn =>
    have : j = 0 := by simp at hj; omega
    subst this
    have hx : numQ x.data.toList = none := by rw [numB_is]; simpa using hn
    simp [wordsQ, hx]
  | [_, x, y], hj, hn =>
    have : j = 0 ∨ j = 1 := by simp at hj; omega
    rcases this with rfl | rfl
    · have hx : numQ x.data.toList = none := by rw [numB_is]; simpa using hn
      simp [wordsQ, hx]
    · have hx : numQ y.data.toList = none := by rw [numB_is]; simpa using hn
      simp only [List.map_cons, List.map_nil, wordsQ, hx]
      split <;> first | rfl | (rename_i e; cases e)
  | _ :: _ :: _ :: _ :: _, _, _ => rfl
  | [_], hj, _ => simp at hj
theorem line_other {P : List ByteArray} {line : List UInt8} (hp : P.map (·.data.toList) = piecesL 32 line) (h : P.length ≠ 2 ∧ P.length ≠ 3) : lineQ line = none := by
  rw [lineQ, ← hp]
  match P, h with
  | [], _ => rfl
  | [_], _ => rfl
  | [_, _], h => exact absurd rfl h.1
  | [_, _, _], h => exact absurd rfl h.2
  | _ :: _ :: _ :: _ :: _, _ => rfl
theorem line_two {a x : ByteArray} {line : List UInt8} {n : Int} (hp : [a, x].map (·.data.toList) = piecesL 32 line) (hx : numB x = some n) :
    lineQ line = if a.data.toList = wInputs then some (Ln.inputs n) else if a.data.toList = wLayer then some (Ln.layer n) else none := by
  rw [← numB_is] at hx
  rw [lineQ, ← hp]
  simp [wordsQ, hx]
theorem line_three {a x y : ByteArray} {line : List UInt8} {n m : Int} (hp : [a, x, y].map (·.data.toList) = piecesL 32 line) (hx : numB x = some n) (hy : numB y = some m) :
    lineQ line = if a.data.toList = wAdd then some (Ln.gate ⟨false, n, m⟩) else if a.data.toList = wMul then some (Ln.gate ⟨true, n, m⟩) else none := by
  rw [← numB_is] at hx hy
  rw [lineQ, ← hp]
  simp [wordsQ, hx, hy]
theorem word_eq (a : ByteArray) (l : List UInt8) : (a.toList == l) = decide (a.data.toList = l) := by
  rw [Lib.toList_data]
  by_cases h : a.data.toList = l
  · simp [h]
  · rw [decide_eq_false h]; exact beq_eq_false_iff_ne.2 h

end Go.Proofs.YtnnnlalhhhhaeaaDoor
