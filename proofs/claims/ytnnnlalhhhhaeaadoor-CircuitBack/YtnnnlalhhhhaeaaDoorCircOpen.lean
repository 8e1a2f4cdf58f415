/-
  What a circuit that came in gives the walk.
-/
import Derived.Test.YtnnnlalhhhhaeaaDoorChecked
import Derived.Test.YtnnnlalhhhhaeaaDoorCirc
import Derived.OpenShut
import Derived.Deep.Strs
import Derived.Deep.SlicePairs
namespace Go.Proofs.YtnnnlalhhhhaeaaDoor
open Go.ChangeShapes Go.WideShapes Go.RowKit Go.Deep
set_option linter.unusedVariables false

/-- Numbers of Go's int. -/
def I64 (a : Int) : Prop := -9223372036854775808 ≤ a ∧ a ≤ 9223372036854775807
theorem i64_of_wf {a : Int} (h : (Lit.int .i64 a).wf = true) : I64 a := by
  simp [Lit.wf, IntKind.min, IntKind.max, IntKind.signed, IntKind.bits] at h
  unfold I64
  omega
/-- A circuit that came in. -/
structure IsCirc (w : World) (g : Int) (a : Option Addr) (len cap : Nat) (c : CQ) (A : Nat → Option Addr) (C : Nat → Nat) : Prop where
  log : c.log = g
  logR : I64 g
  lenE : c.layers.length = len
  capE : len ≤ cap
  maxE : cap ≤ maxLen
  row : CRow w a c.layers A C
  rng : ∀ l ∈ c.layers, I64 l.log ∧ l.gates.length ≤ maxLen ∧ ∀ q ∈ l.gates, I64 q.a ∧ I64 q.b
theorem add_three (a : Addr) (i j : Nat) : (a.add (i * 3)).add j = a.add (3 * i + j) := by rw [add_add, Nat.mul_comm]
theorem add_two (a : Addr) (i j : Nat) : (a.add (i * 2)).add j = a.add (2 * i + j) := by rw [add_add, Nat.mul_comm]
theorem gate_cells : Tryd.prog.cellsOf 46 = 3 := by kernel_rfl
theorem layer_cells : Tryd.prog.cellsOf 43 = 2 := by kernel_rfl
theorem circ_cells : Tryd.prog.cellsOf 24 = 2 := by kernel_rfl
theorem int_cells : Tryd.prog.cellsOf 3 = 1 := by kernel_rfl
theorem bool_cells : Tryd.prog.cellsOf 4 = 1 := by kernel_rfl
theorem gates_cells : Tryd.prog.cellsOf 41 = 1 := by kernel_rfl
theorem layers_cells : Tryd.prog.cellsOf 22 = 1 := by kernel_rfl
theorem cell_spot {w : World} {a : Addr} {u : Value} (h : w.cell? (a.add 0) = some u) : ∃ b off, a = ⟨b, off, none⟩ := by
  obtain ⟨b, off, spot⟩ := a
  have hspot : spot = none := by simpa [Addr.add] using World.cell?_spot h
  subst hspot
  exact ⟨b, off, rfl⟩

section
variable {H : Type} {enc : TypeId × Value → H} {W : World} {base : Nat} {held : Bool}
set_option maxRecDepth 100000 in
theorem gates_of {fuel : Nat} {a : Option Addr} {len cap : Nat} {x : DataW H × List MemPlace}
    (h : DataW.trod enc Tryd.prog W base (fun _ => true) held fuel 41 [Value.slice a len cap] = some x) :
    ∃ gs : List GQ, gs.length = len ∧ len ≤ cap ∧ len ≤ maxLen ∧ GRow W a gs ∧ ∀ g ∈ gs, I64 g.a ∧ I64 g.b := by
  rcases open_slice Tryd.underlying41 h with ⟨hcs, _⟩ | ⟨a', len', cap', m, n, D, Pl, hcs, _, hl, hm, hmm, _, hx⟩
  · simp at hcs
    obtain ⟨rfl, rfl, rfl⟩ := hcs
    exact ⟨[], rfl, Nat.le_refl _, Nat.zero_le _, fun h => absurd rfl h, by simp⟩
  · simp at hcs
    obtain ⟨rfl, rfl, rfl⟩ := hcs
    simp only [if_true] at hmm
    have each : ∀ i, i < len → ∃ g : GQ, W.cell? (a'.add (3 * i)) = some (.bool g.mul) ∧ W.cell? (a'.add (3 * i + 1)) = some (.int .i64 g.a) ∧ W.cell? (a'.add (3 * i + 2)) = some (.int .i64 g.b) ∧ I64 g.a ∧ I64 g.b := by
      intro i hi
      obtain ⟨cs', h1, h2⟩ := hx i (by omega)
      rw [gate_cells] at h1
      obtain ⟨_, hlen, hcell⟩ := World.cells?_some h1
      obtain ⟨y0, y1, y2, k, _, _, g0, g1, g2⟩ := trod_struct3 Tryd.underlying46 h2
      match cs', hlen with
      | [v0, v1, v2], _ =>
        simp [int_cells, bool_cells] at g0 g1 g2
        obtain ⟨b, e0, _⟩ := DataW.trod_bool Tryd.underlying4 g0
        obtain ⟨p, e1, _, r1⟩ := DataW.trod_int Tryd.underlying3 g1
        obtain ⟨q, e2, _, r2⟩ := DataW.trod_int Tryd.underlying3 g2
        simp at e0 e1 e2
        subst e0
        subst e1
        subst e2
        have c0 := hcell 0 (by omega)
        have c1 := hcell 1 (by omega)
        have c2 := hcell 2 (by omega)
        rw [add_three] at c0 c1 c2
        exact ⟨⟨b, p, q⟩, by simpa using c0, by simpa using c1, by simpa using c2, i64_of_wf r1, i64_of_wf r2⟩
    haveI : Inhabited GQ := ⟨⟨false, 0, 0⟩⟩
    obtain ⟨f, hf⟩ := choose_lt each
    have hg : ∀ j g, ((List.range len).map f)[j]? = some g → j < len ∧ g = f j := by
      intro j g e
      by_cases hj : j < len
      · simp [hj] at e; exact ⟨hj, e.symm⟩
      · simp [hj] at e
    refine ⟨(List.range len).map f, by simp, hl, Nat.le_trans hl hm, fun hne => ?_, fun g hg2 => ?_⟩
    · have h0 : 0 < len := by
        rcases Nat.eq_zero_or_pos len with e | e
        · rw [e] at hne; simp at hne
        · exact e
      obtain ⟨b, off, rfl⟩ := cell_spot (by simpa using (hf 0 h0).1)
      refine ⟨b, off, rfl, fun j g e => ?_⟩
      obtain ⟨hj, rfl⟩ := hg j g e
      obtain ⟨c0, c1, c2, _⟩ := hf j hj
      rw [Addr.add_lit] at c0 c1 c2
      exact ⟨c0, c1, c2⟩
    · obtain ⟨j, hj, rfl⟩ := List.mem_map.1 hg2
      exact (hf j (List.mem_range.1 hj)).2.2.2
set_option maxRecDepth 100000 in
theorem layers_of {fuel : Nat} {a : Option Addr} {len cap : Nat} {x : DataW H × List MemPlace}
    (h : DataW.trod enc Tryd.prog W base (fun _ => true) held fuel 22 [Value.slice a len cap] = some x) :
    ∃ (ls : List LQ) (A : Nat → Option Addr) (C : Nat → Nat), ls.length = len ∧ len ≤ cap ∧ cap ≤ maxLen ∧ CRow W a ls A C ∧ ∀ l ∈ ls, I64 l.log ∧ l.gates.length ≤ maxLen ∧ ∀ q ∈ l.gates, I64 q.a ∧ I64 q.b := by
  rcases open_slice Tryd.underlying22 h with ⟨hcs, _⟩ | ⟨a', len', cap', m, n, D, Pl, hcs, _, hl, hm, hmm, _, hx⟩
  · simp at hcs
    obtain ⟨rfl, rfl, rfl⟩ := hcs
    exact ⟨[], fun _ => none, fun _ => 0, rfl, Nat.le_refl _, Nat.zero_le _, fun h => absurd rfl h, by simp⟩
  · simp at hcs
    obtain ⟨rfl, rfl, rfl⟩ := hcs
    simp only [if_true] at hmm
    have each : ∀ i, i < len → ∃ y : LQ × Option Addr × Nat, W.cell? (a'.add (2 * i)) = some (.int .i64 y.1.log) ∧ W.cell? (a'.add (2 * i + 1)) = some (.slice y.2.1 y.1.gates.length y.2.2) ∧ GRow W y.2.1 y.1.gates ∧ y.1.gates.length ≤ y.2.2 ∧
        I64 y.1.log ∧ y.1.gates.length ≤ maxLen ∧ ∀ q ∈ y.1.gates, I64 q.a ∧ I64 q.b := by
      intro i hi
      obtain ⟨cs', h1, h2⟩ := hx i (by omega)
      rw [layer_cells] at h1
      obtain ⟨_, hlen, hcell⟩ := World.cells?_some h1
      obtain ⟨y0, y1, k, _, _, g0, g1⟩ := trod_struct2 Tryd.underlying43 h2
      match cs', hlen with
      | [v0, v1], _ =>
        simp [int_cells, gates_cells] at g0 g1
        obtain ⟨p, e0, _, r0⟩ := DataW.trod_int Tryd.underlying3 g0
        simp at e0
        subst e0
        obtain ⟨ga, gl, gc, rfl⟩ : ∃ ga gl gc, v1 = .slice ga gl gc := by
          rcases open_slice Tryd.underlying41 g1 with ⟨e, _⟩ | ⟨_, _, _, _, _, _, _, e, _⟩
          · simp at e; exact ⟨_, _, _, e⟩
          · simp at e; exact ⟨_, _, _, e⟩
        obtain ⟨gs, e1, e2, e3, e4, e5⟩ := gates_of g1
        have c0 := hcell 0 (by omega)
        have c1 := hcell 1 (by omega)
        rw [add_two] at c0 c1
        exact ⟨(⟨p, gs⟩, ga, gc), by simpa using c0, by simpa [e1] using c1, e4, by rw [e1]; exact e2, i64_of_wf r0, by rw [e1]; exact e3, e5⟩
    haveI : Inhabited (LQ × Option Addr × Nat) := ⟨(⟨0, []⟩, none, 0)⟩
    obtain ⟨f, hf⟩ := choose_lt each
    have hg : ∀ j g, ((List.range len).map fun i => (f i).1)[j]? = some g → j < len ∧ g = (f j).1 := by
      intro j g e
      by_cases hj : j < len
      · simp [hj] at e; exact ⟨hj, e.symm⟩
      · simp [hj] at e
    refine ⟨(List.range len).map fun i => (f i).1, fun i => (f i).2.1, fun i => (f i).2.2, by simp, hl, hm, fun hne => ?_, fun g hg2 => ?_⟩
    · have h0 : 0 < len := by
        rcases Nat.eq_zero_or_pos len with e | e
        · rw [e] at hne; simp at hne
        · exact e
      obtain ⟨b, off, rfl⟩ := cell_spot (by simpa using (hf 0 h0).1)
      refine ⟨b, off, rfl, fun j g e => ?_⟩
      obtain ⟨hj, rfl⟩ := hg j g e
      obtain ⟨c0, c1, c2, c3, _⟩ := hf j hj
      rw [Addr.add_lit] at c0 c1
      exact ⟨c0, c1, c2, c3⟩
    · obtain ⟨j, hj, rfl⟩ := List.mem_map.1 hg2
      exact (hf j (List.mem_range.1 hj)).2.2.2.2
set_option maxRecDepth 100000 in
theorem circ_val {v : Value} {d : DataW H} {p : List MemPlace} (hv : Value.okWide Tryd.prog W .any base 24 v) (h : DataW.Trod enc Tryd.prog W 0 (fun _ => true) true 24 v d p) :
    ∃ g a len cap, v = .agg #[.int .i64 g, .slice a len cap] := by
  obtain ⟨cs, rfl, hs⟩ := okWide_struct Tryd.underlying24 hv
  obtain ⟨fuel, hf⟩ := h
  obtain ⟨y0, y1, k, _, _, g0, g1⟩ := trod_struct2 Tryd.underlying24 hf
  rw [circ_cells] at hs
  obtain ⟨l⟩ := cs
  match l, hs with
  | [v0, v1], _ =>
    simp [Value.cells, int_cells, layers_cells] at g0 g1
    obtain ⟨p, e0, _, _⟩ := DataW.trod_int Tryd.underlying3 g0
    simp at e0
    subst e0
    rcases open_slice Tryd.underlying22 g1 with ⟨e, _⟩ | ⟨_, _, _, _, _, _, _, e, _⟩
    · simp at e; exact ⟨_, _, _, _, by rw [e]⟩
    · simp at e; exact ⟨_, _, _, _, by rw [e]⟩
set_option maxRecDepth 100000 in
theorem circ_of {g : Int} {a : Option Addr} {len cap : Nat} {d : DataW H} {p : List MemPlace} (h : DataW.Trod enc Tryd.prog W 0 (fun _ => true) true 24 (.agg #[.int .i64 g, .slice a len cap]) d p) :
    ∃ c A C, IsCirc W g a len cap c A C := by
  obtain ⟨fuel, hf⟩ := h
  obtain ⟨y0, y1, k, _, _, g0, g1⟩ := trod_struct2 Tryd.underlying24 hf
  simp [Value.cells, int_cells, layers_cells] at g0 g1
  obtain ⟨p, e0, _, r0⟩ := DataW.trod_int Tryd.underlying3 g0
  simp at e0
  subst e0
  obtain ⟨ls, A, C, e1, e2, e3, e4, e5⟩ := layers_of g1
  exact ⟨⟨g, ls⟩, A, C, rfl, i64_of_wf r0, e1, e2, e3, e4, e5⟩
end

end Go.Proofs.YtnnnlalhhhhaeaaDoor
