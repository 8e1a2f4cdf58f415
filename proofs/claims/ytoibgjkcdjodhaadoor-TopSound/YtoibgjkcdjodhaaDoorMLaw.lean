/-
  Several texts in one: CircOpen, CircF, Tiny, Gkl1, Equal, TopT, RefA, RefI, RefAt, RefVars, TopS1, TopS2, Topl3, ListsOpen, PrfOpen; each opens with what it holds.
-/
import Derived.Test.YtoibgjkcdjodhaaDoorChecked
import Derived.Test.YtoibgjkcdjodhaaDoorCirc
import Derived.OpenShut
import Derived.Deep.Strs
import Derived.Deep.SlicePairs
import Derived.Test.YtoibgjkcdjodhaaDoorCircC
import Derived.Test.YtoibgjkcdjodhaaDoorMGkB
import Derived.Test.YtoibgjkcdjodhaaDoorMRef
import Derived.Test.YtoibgjkcdjodhaaDoorMFiat
import Derived.Deep.RegionHeld3
import Derived.Test.YtoibgjkcdjodhaaDoorOwn
import Derived.Deep.RegionWith
import Derived.Deep.LoopGhost
import Derived.Deep.Light
import Derived.Deep.DrawnRows
import Derived.Test.YtoibgjkcdjodhaaDoorOps
import Derived.WalkKit
import Derived.Test.YtoibgjkcdjodhaaDoorPoly
import Derived.Test.YtoibgjkcdjodhaaDoorMem
import Derived.BigQuiet
import Derived.Test.YtoibgjkcdjodhaaDoorLists
import Derived.Deep.Matrix
import Derived.Test.YtoibgjkcdjodhaaDoorPrf
/-
  What a circuit that came in gives the walk.
-/
namespace Go.Proofs.YtoibgjkcdjodhaaDoor
open Go.ChangeShapes Go.WideShapes Go.RowKit Go.Deep
set_option linter.unusedVariables false

/-- Numbers of Go's int. -/
def I64 (a : Int) : Prop := -9223372036854775808 ≤ a ∧ a ≤ 9223372036854775807
theorem i64_of_wf {a : Int} (h : (Lit.int .i64 a).wf = true) : I64 a := by
  simp [Lit.wf, IntKind.min, IntKind.max, IntKind.signed, IntKind.bits] at h
  unfold I64
  omega
/-- A circuit that came in. -/
structure IsCirc (w : World) (g : Int) (a : Option Addr) (len cap : Nat) (c : CQ) (A : Nat → Option Addr) (C : Nat → Nat) : Prop where
  log : c.log = g
  logR : I64 g
  lenE : c.layers.length = len
  capE : len ≤ cap
  maxE : cap ≤ maxLen
  row : CRow w a c.layers A C
  rng : ∀ l ∈ c.layers, I64 l.log ∧ l.gates.length ≤ maxLen ∧ ∀ q ∈ l.gates, I64 q.a ∧ I64 q.b
theorem add_three (a : Addr) (i j : Nat) : (a.add (i * 3)).add j = a.add (3 * i + j) := by rw [add_add, Nat.mul_comm]
theorem add_two (a : Addr) (i j : Nat) : (a.add (i * 2)).add j = a.add (2 * i + j) := by rw [add_add, Nat.mul_comm]
theorem gate_cells : Tryd.prog.cellsOf 67 = 3 := by kernel_rfl
theorem layer_cells : Tryd.prog.cellsOf 70 = 2 := by kernel_rfl
theorem circ_cells : Tryd.prog.cellsOf 24 = 2 := by kernel_rfl
theorem int_cells : Tryd.prog.cellsOf 3 = 1 := by kernel_rfl
theorem bool_cells : Tryd.prog.cellsOf 4 = 1 := by kernel_rfl
theorem gates_cells : Tryd.prog.cellsOf 68 = 1 := by kernel_rfl
theorem layers_cells : Tryd.prog.cellsOf 22 = 1 := by kernel_rfl
theorem cell_spot {w : World} {a : Addr} {u : Value} (h : w.cell? (a.add 0) = some u) : ∃ b off, a = ⟨b, off, none⟩ := by
  obtain ⟨b, off, spot⟩ := a
  have hspot : spot = none := by simpa [Addr.add] using World.cell?_spot h
  subst hspot
  exact ⟨b, off, rfl⟩

section
variable {H : Type} {enc : TypeId × Value → H} {W : World} {base : Nat} {held : Bool}
set_option maxRecDepth 100000 in
theorem gates_of {fuel : Nat} {a : Option Addr} {len cap : Nat} {x : DataW H × List MemPlace}
    (h : DataW.trod enc Tryd.prog W base (fun _ => true) held fuel 68 [Value.slice a len cap] = some x) :
    ∃ gs : List GQ, gs.length = len ∧ len ≤ cap ∧ len ≤ maxLen ∧ GRow W a gs ∧ ∀ g ∈ gs, I64 g.a ∧ I64 g.b := by
  rcases open_slice Tryd.underlying68 h with ⟨hcs, _⟩ | ⟨a', len', cap', m, n, D, Pl, hcs, _, hl, hm, hmm, _, hx⟩
  · simp at hcs
    obtain ⟨rfl, rfl, rfl⟩ := hcs
    exact ⟨[], rfl, Nat.le_refl _, Nat.zero_le _, fun h => absurd rfl h, by simp⟩
  · simp at hcs
    obtain ⟨rfl, rfl, rfl⟩ := hcs
    simp only [if_true] at hmm
    have each : ∀ i, i < len → ∃ g : GQ, W.cell? (a'.add (3 * i)) = some (.bool g.mul) ∧ W.cell? (a'.add (3 * i + 1)) = some (.int .i64 g.a) ∧ W.cell? (a'.add (3 * i + 2)) = some (.int .i64 g.b) ∧ I64 g.a ∧ I64 g.b := by
      intro i hi
      obtain ⟨cs', h1, h2⟩ := hx i (by omega)
      rw [gate_cells] at h1
      obtain ⟨_, hlen, hcell⟩ := World.cells?_some h1
      obtain ⟨y0, y1, y2, k, _, _, g0, g1, g2⟩ := trod_struct3 Tryd.underlying67 h2
      match cs', hlen with
      | [v0, v1, v2], _ =>
        simp [int_cells, bool_cells] at g0 g1 g2
        obtain ⟨b, e0, _⟩ := DataW.trod_bool Tryd.underlying4 g0
        obtain ⟨p, e1, _, r1⟩ := DataW.trod_int Tryd.underlying3 g1
        obtain ⟨q, e2, _, r2⟩ := DataW.trod_int Tryd.underlying3 g2
        simp at e0 e1 e2
        subst e0
        subst e1
        subst e2
        have c0 := hcell 0 (by omega)
        have c1 := hcell 1 (by omega)
        have c2 := hcell 2 (by omega)
        rw [add_three] at c0 c1 c2
        exact ⟨⟨b, p, q⟩, by simpa using c0, by simpa using c1, by simpa using c2, i64_of_wf r1, i64_of_wf r2⟩
    haveI : Inhabited GQ := ⟨⟨false, 0, 0⟩⟩
    obtain ⟨f, hf⟩ := choose_lt each
    have hg : ∀ j g, ((List.range len).map f)[j]? = some g → j < len ∧ g = f j := by
      intro j g e
      by_cases hj : j < len
      · simp [hj] at e; exact ⟨hj, e.symm⟩
      · simp [hj] at e
    refine ⟨(List.range len).map f, by simp, hl, Nat.le_trans hl hm, fun hne => ?_, fun g hg2 => ?_⟩
    · have h0 : 0 < len := by
        rcases Nat.eq_zero_or_pos len with e | e
        · rw [e] at hne; simp at hne
        · exact e
      obtain ⟨b, off, rfl⟩ := cell_spot (by simpa using (hf 0 h0).1)
      refine ⟨b, off, rfl, fun j g e => ?_⟩
      obtain ⟨hj, rfl⟩ := hg j g e
      obtain ⟨c0, c1, c2, _⟩ := hf j hj
      rw [Addr.add_lit] at c0 c1 c2
      exact ⟨c0, c1, c2⟩
    · obtain ⟨j, hj, rfl⟩ := List.mem_map.1 hg2
      exact (hf j (List.mem_range.1 hj)).2.2.2
set_option maxRecDepth 100000 in
theorem layers_of {fuel : Nat} {a : Option Addr} {len cap : Nat} {x : DataW H × List MemPlace}
    (h : DataW.trod enc Tryd.prog W base (fun _ => true) held fuel 22 [Value.slice a len cap] = some x) :
    ∃ (ls : List LQ) (A : Nat → Option Addr) (C : Nat → Nat), ls.length = len ∧ len ≤ cap ∧ cap ≤ maxLen ∧ CRow W a ls A C ∧ ∀ l ∈ ls, I64 l.log ∧ l.gates.length ≤ maxLen ∧ ∀ q ∈ l.gates, I64 q.a ∧ I64 q.b := by
  rcases open_slice Tryd.underlying22 h with ⟨hcs, _⟩ | ⟨a', len', cap', m, n, D, Pl, hcs, _, hl, hm, hmm, _, hx⟩
  · simp at hcs
    obtain ⟨rfl, rfl, rfl⟩ := hcs
    exact ⟨[], fun _ => none, fun _ => 0, rfl, Nat.le_refl _, Nat.zero_le _, fun h => absurd rfl h, by simp⟩
  · simp at hcs
    obtain ⟨rfl, rfl, rfl⟩ := hcs
    simp only [if_true] at hmm
    have each : ∀ i, i < len → ∃ y : LQ × Option Addr × Nat, W.cell? (a'.add (2 * i)) = some (.int .i64 y.1.log) ∧ W.cell? (a'.add (2 * i + 1)) = some (.slice y.2.1 y.1.gates.length y.2.2) ∧ GRow W y.2.1 y.1.gates ∧ y.1.gates.length ≤ y.2.2 ∧
        I64 y.1.log ∧ y.1.gates.length ≤ maxLen ∧ ∀ q ∈ y.1.gates, I64 q.a ∧ I64 q.b := by
      intro i hi
      obtain ⟨cs', h1, h2⟩ := hx i (by omega)
      rw [layer_cells] at h1
      obtain ⟨_, hlen, hcell⟩ := World.cells?_some h1
      obtain ⟨y0, y1, k, _, _, g0, g1⟩ := trod_struct2 Tryd.underlying70 h2
      match cs', hlen with
      | [v0, v1], _ =>
        simp [int_cells, gates_cells] at g0 g1
        obtain ⟨p, e0, _, r0⟩ := DataW.trod_int Tryd.underlying3 g0
        simp at e0
        subst e0
        obtain ⟨ga, gl, gc, rfl⟩ : ∃ ga gl gc, v1 = .slice ga gl gc := by
          rcases open_slice Tryd.underlying68 g1 with ⟨e, _⟩ | ⟨_, _, _, _, _, _, _, e, _⟩
          · simp at e; exact ⟨_, _, _, e⟩
          · simp at e; exact ⟨_, _, _, e⟩
        obtain ⟨gs, e1, e2, e3, e4, e5⟩ := gates_of g1
        have c0 := hcell 0 (by omega)
        have c1 := hcell 1 (by omega)
        rw [add_two] at c0 c1
        exact ⟨(⟨p, gs⟩, ga, gc), by simpa using c0, by simpa [e1] using c1, e4, by rw [e1]; exact e2, i64_of_wf r0, by rw [e1]; exact e3, e5⟩
    haveI : Inhabited (LQ × Option Addr × Nat) := ⟨(⟨0, []⟩, none, 0)⟩
    obtain ⟨f, hf⟩ := choose_lt each
    have hg : ∀ j g, ((List.range len).map fun i => (f i).1)[j]? = some g → j < len ∧ g = (f j).1 := by
      intro j g e
      by_cases hj : j < len
      · simp [hj] at e; exact ⟨hj, e.symm⟩
      · simp [hj] at e
    refine ⟨(List.range len).map fun i => (f i).1, fun i => (f i).2.1, fun i => (f i).2.2, by simp, hl, hm, fun hne => ?_, fun g hg2 => ?_⟩
    · have h0 : 0 < len := by
        rcases Nat.eq_zero_or_pos len with e | e
        · rw [e] at hne; simp at hne
        · exact e
      obtain ⟨b, off, rfl⟩ := cell_spot (by simpa using (hf 0 h0).1)
      refine ⟨b, off, rfl, fun j g e => ?_⟩
      obtain ⟨hj, rfl⟩ := hg j g e
      obtain ⟨c0, c1, c2, c3, _⟩ := hf j hj
      rw [Addr.add_lit] at c0 c1
      exact ⟨c0, c1, c2, c3⟩
    · obtain ⟨j, hj, rfl⟩ := List.mem_map.1 hg2
      exact (hf j (List.mem_range.1 hj)).2.2.2.2
set_option maxRecDepth 100000 in
theorem circ_val {v : Value} {d : DataW H} {p : List MemPlace} (hv : Value.okWide Tryd.prog W .any base 24 v) (h : DataW.Trod enc Tryd.prog W 0 (fun _ => true) true 24 v d p) :
    ∃ g a len cap, v = .agg #[.int .i64 g, .slice a len cap] := by
  obtain ⟨cs, rfl, hs⟩ := okWide_struct Tryd.underlying24 hv
  obtain ⟨fuel, hf⟩ := h
  obtain ⟨y0, y1, k, _, _, g0, g1⟩ := trod_struct2 Tryd.underlying24 hf
  rw [circ_cells] at hs
  obtain ⟨l⟩ := cs
  match l, hs with
  | [v0, v1], _ =>
    simp [Value.cells, int_cells, layers_cells] at g0 g1
    obtain ⟨p, e0, _, _⟩ := DataW.trod_int Tryd.underlying3 g0
    simp at e0
    subst e0
    rcases open_slice Tryd.underlying22 g1 with ⟨e, _⟩ | ⟨_, _, _, _, _, _, _, e, _⟩
    · simp at e; exact ⟨_, _, _, _, by rw [e]⟩
    · simp at e; exact ⟨_, _, _, _, by rw [e]⟩
set_option maxRecDepth 100000 in
theorem circ_of {g : Int} {a : Option Addr} {len cap : Nat} {d : DataW H} {p : List MemPlace} (h : DataW.Trod enc Tryd.prog W 0 (fun _ => true) true 24 (.agg #[.int .i64 g, .slice a len cap]) d p) :
    ∃ c A C, IsCirc W g a len cap c A C := by
  obtain ⟨fuel, hf⟩ := h
  obtain ⟨y0, y1, k, _, _, g0, g1⟩ := trod_struct2 Tryd.underlying24 hf
  simp [Value.cells, int_cells, layers_cells] at g0 g1
  obtain ⟨p, e0, _, r0⟩ := DataW.trod_int Tryd.underlying3 g0
  simp at e0
  subst e0
  obtain ⟨ls, A, C, e1, e2, e3, e4, e5⟩ := layers_of g1
  exact ⟨⟨g, ls⟩, A, C, rfl, i64_of_wf r0, e1, e2, e3, e4, e5⟩
end

end Go.Proofs.YtoibgjkcdjodhaaDoor

/-
  Plain: of a right circuit all numbers are small; the law's own tiny circuit; no program in it.
-/
namespace Go.Proofs.YtoibgjkcdjodhaaDoor
set_option linter.unusedVariables false

theorem pow_le16 {k : Int} (h : k ≤ 4) : 2 ^ k.toNat ≤ 16 := Nat.le_trans (Nat.pow_le_pow_right (by omega) (show k.toNat ≤ 4 by omega)) (Nat.le_refl 16)
theorem layersR_small : ∀ (ls : List LQ) (k : Int), k ≤ 4 → layersR k ls → ∀ l ∈ ls, (0 ≤ l.log ∧ l.log ≤ 4) ∧ l.gates.length ≤ 16 ∧ ∀ q ∈ l.gates, (0 ≤ q.a ∧ q.a < 100) ∧ 0 ≤ q.b ∧ q.b < 100
  | [], _, _, _ => by simp
  | x :: r, k, hk, h => by
    intro l hl
    obtain ⟨⟨hx1, hx2, hx3⟩, hr⟩ := h
    rcases List.mem_cons.1 hl with rfl | hl
    · refine ⟨hx1, by rw [hx2]; exact pow_le16 hx1.2, fun q hq => ?_⟩
      obtain ⟨⟨a0, a1⟩, b0, b1⟩ := hx3 q hq
      have := pow_le16 hk
      exact ⟨⟨a0, by omega⟩, b0, by omega⟩
    · exact layersR_small r x.log hx1.2 hr l hl
theorem right_small {c : CQ} (h : c.right) : ∀ l ∈ c.layers, (0 ≤ l.log ∧ l.log ≤ 4) ∧ l.gates.length ≤ 16 ∧ ∀ q ∈ l.gates, (0 ≤ q.a ∧ q.a < 100) ∧ 0 ≤ q.b ∧ q.b < 100 := layersR_small _ _ h.log.2 h.each
theorem right_fits {c : CQ} (h : c.right) : c.fits := by
  have hs := right_small h
  have hl := h.log
  intro x hx
  rcases List.mem_cons.1 hx with rfl | hx
  · show 0 ≤ c.log ∧ c.log < 100
    omega
  · obtain ⟨l, hl1, hl2⟩ := List.mem_flatMap.1 hx
    obtain ⟨h1, h2, h3⟩ := hs l hl1
    rcases List.mem_cons.1 hl2 with rfl | hl2
    · show 0 ≤ l.log ∧ l.log < 100
      omega
    · obtain ⟨q, hq, rfl⟩ := List.mem_map.1 hl2
      exact h3 q hq
def tinyQ : CQ := ⟨1, [⟨1, [⟨true, 0, 1⟩, ⟨false, 0, 1⟩]⟩]⟩
theorem tiny_right : tinyQ.right := by
  refine ⟨by decide, by decide, by decide, ⟨by decide, by decide, ?_⟩, trivial⟩
  intro q hq
  simp at hq
  rcases hq with rfl | rfl <;> exact ⟨by decide, by decide⟩

end Go.Proofs.YtoibgjkcdjodhaaDoor

/-
  A contract of the laws' own tiny circuit; what it makes is new.
-/
namespace Go.Proofs.YtoibgjkcdjodhaaDoor
open Go.RowKit
set_option linter.unusedVariables false
attribute [local go_sem ↓] Go.wp_at_zero Go.wp_at_succ

theorem results_cell1 {fn : Func} {p : Tmp} {ty : TypeId} (h : fn.results = #[.cell p ty]) (tmps : Array Value) (P : Program) (w : World) :
    (results fn tmps).run P w = ((asAddr (tmps.getD p undef)).run P w).andThen fun a w₁ => (loadVar ty a).run P w₁ := by
  simp only [results, h]
  simp [Sem.run_bind, Result.andThen]
theorem load_circ1 {w : World} {b : Nat} {x0 x1 : Value} (c0 : w.cell? ⟨b, 0, none⟩ = some x0) (c1 : w.cell? ⟨b, 1, none⟩ = some x1) : (loadVar 24 ⟨b, 0, none⟩).run Tryd.prog w = .ok (.agg #[x0, x1]) w := by
  go_simp
theorem results_circ1 {fn : Func} {p : Tmp} (h : fn.results = #[.cell p 24]) {tmps : Array Value} {w : World} {b : Nat} {x0 x1 : Value} (hp : tmps.getD p undef = .pointer (some ⟨b, 0, none⟩)) (c0 : w.cell? ⟨b, 0, none⟩ = some x0) (c1 : w.cell? ⟨b, 1, none⟩ = some x1) :
    (results fn tmps).run Tryd.prog w = .ok (.agg #[x0, x1]) w := by
  rw [results_cell1 h, hp]
  simp [asAddr, Result.andThen, load_circ1 c0 c1]
set_option maxHeartbeats 1000000 in
set_option maxRecDepth 100000 in
theorem tiny_any (w : World) :
    Calls Tryd.prog 8 #[] w fun e w' => ∃ (b : Nat) (A : Nat → Option Addr) (C : Nat → Nat), e = .returned (.agg #[.int .i64 1, .slice (some ⟨b, 0, none⟩) 1 1]) ∧ CRow w' (some ⟨b, 0, none⟩) tinyQ.layers A C ∧ Below w.heap.size w w' := by
  go_enter Tryd.func8, Tryd.ntmps8
  go_wp2_with fail
  refine bodyPost_ret (results_circ1 rfl rfl (by rw [World.cell?_alloc_old _ _ _ (by simp <;> omega), World.cell?_alloc_old _ _ _ (by simp <;> omega), World.cell?_alloc_new]; rfl) (by rw [World.cell?_alloc_old _ _ _ (by simp <;> omega), World.cell?_alloc_old _ _ _ (by simp <;> omega), World.cell?_alloc_new]; rfl)) rfl ?_
  refine ⟨w.heap.size + 1 + 1, fun _ => some ⟨w.heap.size + 1, 0, none⟩, fun _ => 2, rfl, ?_, (((Below.refl w.heap.size w).alloc (Nat.le_refl _) _).alloc (by simp) _).alloc (by simp; omega) _⟩
  generalize hO1 : Obj.cells #[Value.int .i64 1, .slice (some ⟨w.heap.size + 1 + 1, 0, none⟩) 1 1] 24 = o1
  have s1 : (w.alloc o1).heap.size = w.heap.size + 1 := by simp
  generalize w.alloc o1 = w1 at s1 ⊢
  generalize hO2 : Obj.cells #[Value.bool true, .int .i64 0, .int .i64 1, .bool false, .int .i64 0, .int .i64 1] 67 = o2
  have s2 : (w1.alloc o2).heap.size = w.heap.size + 1 + 1 := by simp [s1]
  have g : ∀ j, (w1.alloc o2).cell? ⟨w.heap.size + 1, j, none⟩ = (#[Value.bool true, .int .i64 0, .int .i64 1, .bool false, .int .i64 0, .int .i64 1] : Array Value)[j]? := fun j => by
    rw [← hO2, ← s1, World.cell?_alloc_new]
  generalize w1.alloc o2 = w2 at s2 g ⊢
  have hl : ∀ j, (w2.alloc (Obj.cells #[Value.int .i64 1, .slice (some ⟨w.heap.size + 1, 0, none⟩) 2 2] 70)).cell? ⟨w.heap.size + 1 + 1, j, none⟩ = (#[Value.int .i64 1, .slice (some ⟨w.heap.size + 1, 0, none⟩) 2 2] : Array Value)[j]? := fun j => by
    rw [← s2, World.cell?_alloc_new]
  have g' : ∀ j o, (w2.alloc o).cell? ⟨w.heap.size + 1, j, none⟩ = (#[Value.bool true, .int .i64 0, .int .i64 1, .bool false, .int .i64 0, .int .i64 1] : Array Value)[j]? := fun j o => by
    rw [World.cell?_alloc_old _ _ _ (by show w.heap.size + 1 ≠ w2.heap.size; omega)]; exact g j
  intro _
  refine ⟨_, _, rfl, fun i l hi => ?_⟩
  match i, hi with
  | 0, hi =>
    obtain rfl : (⟨1, [⟨true, 0, 1⟩, ⟨false, 0, 1⟩]⟩ : LQ) = l := by simpa [tinyQ] using hi
    refine ⟨(hl 0).trans rfl, (hl 1).trans rfl, fun _ => ⟨_, _, rfl, fun j q hq => ?_⟩, Nat.le_refl 2⟩
    match j, hq with
    | 0, hq =>
      obtain rfl : (⟨true, 0, 1⟩ : GQ) = q := by simpa using hq
      exact ⟨(g' 0 _).trans rfl, (g' 1 _).trans rfl, (g' 2 _).trans rfl⟩
    | 1, hq =>
      obtain rfl : (⟨false, 0, 1⟩ : GQ) = q := by simpa using hq
      exact ⟨(g' 3 _).trans rfl, (g' 4 _).trans rfl, (g' 5 _).trans rfl⟩
    | j + 2, hq => simp at hq
  | i + 1, hi => simp [tinyQ] at hi

end Go.Proofs.YtoibgjkcdjodhaaDoor

/-
  The right proof holds for just the outputs that have the circuit's value at the point that was drawn; contracts of the laws' own small and held.
-/
namespace Go.Proofs.YtoibgjkcdjodhaaDoor
open Go.RowKit
set_option linter.unusedVariables false
attribute [local go_sem ↓] Go.wp_at_zero Go.wp_at_succ

theorem right_iff {c : CQ} (hc : c.right) (f D fo : Nat → Int) :
    (partsQ c).holds D (rightP c f D).told (ofK (evS (fun j => kk (fo j)) (fun j => kk (D j)) ((partsQ c).lg 0))) (fun j => kk (f j)) ↔ evS (fun j => kk (fo j)) (fun j => kk (D j)) ((partsQ c).lg 0) = evS (fun j => kk (valsQ c f c.layers.length j)) (fun j => kk (D j)) ((partsQ c).lg 0) := by
  have n1 : 0 < (partsQ c).n := List.length_pos_iff.2 hc.some
  rw [rightP_told, Parts.right_holds (partsQ c) D _ _ (parts_fits hc) (parts_run hc f) (fun j => by have := parts_lg hc j; omega) n1]
  have h1 : (partsQ c).tru (valsK c f) D 0 = evS (fun j => kk (valsQ c f c.layers.length j)) (fun j => kk (D j)) ((partsQ c).lg 0) := rfl
  have h2 : (partsQ c).tru (valsK c f) D (partsQ c).n = evS (fun j => kk (f j)) ((partsQ c).z D (partsQ c).n) ((partsQ c).lg (partsQ c).n) := by
    refine evS_congr _ (fun b _ => ?_) (fun _ _ => rfl)
    show kk (valsQ c f (c.layers.length - c.layers.length) b) = _
    rw [Nat.sub_self]
    show kk (nrm (f b)) = kk (f b)
    exact kk_nrm _
  rw [h1, h2]
  constructor
  · rintro ⟨h, _⟩
    have := congrArg kk h
    rwa [kk_ofK, kk_ofK] at this
  · intro h
    exact ⟨by rw [h], rfl⟩
/-- A list of two numbers. -/
def pr (a b : Int) (j : Nat) : Int := if j = 0 then a else b
theorem Nums_pr {a b : Int} (h0 : 0 ≤ a) (h1 : a ≤ 18446744073709551615) (h2 : 0 ≤ b) (h3 : b ≤ 18446744073709551615) : Nums (pr a b) := fun j => by
  unfold pr
  split <;> omega
def dr4 (j : Nat) : Int := if j = 0 then 5 else if j = 1 then 6 else if j = 2 then 7 else 8
theorem Nums_dr4 : Nums dr4 := fun j => by
  unfold dr4
  repeat' split
  all_goals omega
theorem tiny_need : needQ tinyQ = 4 := by decide
theorem tiny_lg : (partsQ tinyQ).lg 0 = 1 := by decide
theorem tiny_ends : endsQ tinyQ 2 2 := by unfold endsQ; decide
theorem ev_one (f g : Nat → K) : evS f g 1 = f 0 + g 0 * (f 1 - f 0) := by
  rw [show (1 : Nat) = 0 + 1 from rfl, evS_fold, evS_zero]; rfl
theorem tiny_yes : (partsQ tinyQ).holds dr4 (rightP tinyQ (pr 3 4) dr4).told (ofK (evS (fun j => kk (pr 12 7 j)) (fun j => kk (dr4 j)) ((partsQ tinyQ).lg 0))) (fun j => kk (pr 3 4 j)) := by
  rw [right_iff tiny_right, tiny_lg, ev_one, ev_one]
  kernel_rfl
theorem tiny_no : ¬ (partsQ tinyQ).holds dr4 (rightP tinyQ (pr 3 4) dr4).told (ofK (evS (fun j => kk (pr 12 8 j)) (fun j => kk (dr4 j)) ((partsQ tinyQ).lg 0))) (fun j => kk (pr 3 4 j)) := by
  rw [right_iff tiny_right, tiny_lg, ev_one, ev_one]
  intro h
  have h2 := congrArg Fin.val h
  revert h2
  decide
set_option maxHeartbeats 2000000 in
set_option maxRecDepth 100000 in
theorem small_any (c : CQ) (g : Int) (ao : Option Addr) (n cap : Nat) (A : Nat → Option Addr) (C : Nat → Nat) (w : World) (hn63 : n ≤ maxLen) (hg : c.log = g) (hn : c.layers.length = n) (hr : CRow w ao c.layers A C) :
    Calls Tryd.prog 11 #[.agg #[.int .i64 g, .slice ao n cap]] w fun e w' => ∃ r : Bool, e = .returned (.bool r) ∧ (r = true → c.right) ∧ Below w.heap.size w w' := by
  have HS0 := hid (StW.start w g (.slice ao n cap) 24)
  have HC := hid (fun W (h : Below w.heap.size w W) => rcirc_any c g ao n cap A C W hg hn (hr.kept h))
  have HR := hid hr
  have HN := hid hn
  have n63 : (n : Int) ≤ 9223372036854775807 := by have : maxLen ≤ 9223372036854775807 := by decide
                                                   omega
  clear hg hn hr hn63
  go_enter Tryd.func11, Tryd.ntmps11
  go_wp2_with fail
  obtain ⟨B, hB⟩ : ∃ B, w.heap.size = B := ⟨_, rfl⟩
  rw [hB] at HS0
  rw [hB]
  clear hB
  generalize w.alloc (.cells #[.int .i64 g, .slice ao n cap] 24) = W1 at HS0 ⊢
  go_loopg [8] n (fun q i wr => ∃ t : Nat, t ≤ n ∧ q = n - t ∧ i = .int .i64 (t : Int) ∧ Hid (StW w wr B g (.slice ao n cap)))
  case atStart => exact ⟨0, by omega, rfl, rfl, HS0⟩
  case round =>
    clear HS0
    obtain ⟨t, htn, rfl, rfl, HS⟩ := hrel
    by_cases htl : t < n
    · obtain ⟨l, hl⟩ : ∃ l, c.layers[t]? = some l := ⟨c.layers[t]'(by rw [HN.out]; exact htl), by simp⟩
      obtain ⟨b, off, rfl, hcc⟩ := HR.out.kept HS.out.bel (by intro e; have := HN.out; rw [e] at this; simp at this; omega)
      obtain ⟨x0, x1, _, _⟩ := hcc t l hl
      rw [Nat.mul_comm 2 t] at x0 x1
      obtain ⟨lg, hlg⟩ : ∃ x, l.log = x := ⟨_, rfl⟩
      rw [hlg] at x0
      have t0 : (0 : Int) ≤ (t : Int) := by omega
      have t1 : (t : Int) < (n : Int) := by omega
      have HAL := hid (fun v => HS.out.next ((Below.refl wr.heap.size wr).alloc (Nat.le_refl _) (.cells #[.int .i64 lg, v] 70)))
      clear hcc hl hlg
      by_cases h2 : (2 : Int) < lg
      · go_wp2_with fail
        go_ret
        exact ⟨false, rfl, fun h => absurd h Bool.false_ne_true, (HAL.out _).bel⟩
      · go_wp2_with fail
        go_roundg (n - (t + 1))
        case measure => go_light; omega
        case rel => exact ⟨t + 1, by omega, rfl, by go_num, hid (HAL.out _)⟩
    · have t1 : ¬ ((t : Int) < (n : Int)) := by omega
      obtain ⟨z0, z1, zl⟩ := HS.out.box
      go_wp2_with fail
      refine (HC.out _ HS.out.bel).mono ?_
      rintro e w1 ⟨y, rfl, hy, hb⟩
      have HS1 := hid (HS.out.next hb)
      have HY := hid hy
      clear hb hy z0 z1 zl HS
      obtain ⟨z0, z1, zl⟩ := HS1.out.box
      by_cases hy0 : y = 0
      · subst hy0
        have HRT := hid (checkE_zero.1 HY.out)
        go_wp2_with fail
        go_ret
        exact ⟨_, rfl, fun _ => HRT.out, HS1.out.bel⟩
      · have e1 : (y == 0) = false := beq_eq_false_iff_ne.2 hy0
        go_wp2_with fail
        go_ret
        exact ⟨false, rfl, fun h => absurd h Bool.false_ne_true, HS1.out.bel⟩
set_option maxHeartbeats 2000000 in
set_option maxRecDepth 100000 in
theorem small_top (c : CQ) (g : Int) (ao : Option Addr) (n cap : Nat) (A : Nat → Option Addr) (C : Nat → Nat) (w : World) (hn63 : n ≤ maxLen) (hg : c.log = g) (hn : c.layers.length = n) (hr : CRow w ao c.layers A C) :
    Calls Tryd.prog 15 #[.agg #[.int .i64 g, .slice ao n cap]] w fun e w' => ∃ r : Bool, e = .returned (.bool r) ∧ (r = true → c.right) ∧ Below w.heap.size w w' := by
  have HS0 := hid (StW.start w g (.slice ao n cap) 24)
  have HC := hid (fun W (h : Below w.heap.size w W) => rcirc_any c g ao n cap A C W hg hn (hr.kept h))
  have HR := hid hr
  have HN := hid hn
  have n63 : (n : Int) ≤ 9223372036854775807 := by have : maxLen ≤ 9223372036854775807 := by decide
                                                   omega
  clear hg hn hr hn63
  go_enter Tryd.func15, Tryd.ntmps15
  go_wp2_with fail
  obtain ⟨B, hB⟩ : ∃ B, w.heap.size = B := ⟨_, rfl⟩
  rw [hB] at HS0
  rw [hB]
  clear hB
  generalize w.alloc (.cells #[.int .i64 g, .slice ao n cap] 24) = W1 at HS0 ⊢
  go_loopg [8] n (fun q i wr => ∃ t : Nat, t ≤ n ∧ q = n - t ∧ i = .int .i64 (t : Int) ∧ Hid (StW w wr B g (.slice ao n cap)))
  case atStart => exact ⟨0, by omega, rfl, rfl, HS0⟩
  case round =>
    clear HS0
    obtain ⟨t, htn, rfl, rfl, HS⟩ := hrel
    by_cases htl : t < n
    · obtain ⟨l, hl⟩ : ∃ l, c.layers[t]? = some l := ⟨c.layers[t]'(by rw [HN.out]; exact htl), by simp⟩
      obtain ⟨b, off, rfl, hcc⟩ := HR.out.kept HS.out.bel (by intro e; have := HN.out; rw [e] at this; simp at this; omega)
      obtain ⟨x0, x1, _, _⟩ := hcc t l hl
      rw [Nat.mul_comm 2 t] at x0 x1
      obtain ⟨lg, hlg⟩ : ∃ x, l.log = x := ⟨_, rfl⟩
      rw [hlg] at x0
      have t0 : (0 : Int) ≤ (t : Int) := by omega
      have t1 : (t : Int) < (n : Int) := by omega
      have HAL := hid (fun v => HS.out.next ((Below.refl wr.heap.size wr).alloc (Nat.le_refl _) (.cells #[.int .i64 lg, v] 70)))
      clear hcc hl hlg
      by_cases h2 : (2 : Int) < lg
      · go_wp2_with fail
        go_ret
        exact ⟨false, rfl, fun h => absurd h Bool.false_ne_true, (HAL.out _).bel⟩
      · go_wp2_with fail
        go_roundg (n - (t + 1))
        case measure => go_light; omega
        case rel => exact ⟨t + 1, by omega, rfl, by go_num, hid (HAL.out _)⟩
    · have t1 : ¬ ((t : Int) < (n : Int)) := by omega
      obtain ⟨z0, z1, zl⟩ := HS.out.box
      go_wp2_with fail
      refine (HC.out _ HS.out.bel).mono ?_
      rintro e w1 ⟨y, rfl, hy, hb⟩
      have HS1 := hid (HS.out.next hb)
      have HY := hid hy
      clear hb hy z0 z1 zl HS
      obtain ⟨z0, z1, zl⟩ := HS1.out.box
      by_cases hy0 : y = 0
      · subst hy0
        have HRT := hid (checkE_zero.1 HY.out)
        go_wp2_with fail
        go_ret
        exact ⟨_, rfl, fun _ => HRT.out, HS1.out.bel⟩
      · have e1 : (y == 0) = false := beq_eq_false_iff_ne.2 hy0
        go_wp2_with fail
        go_ret
        exact ⟨false, rfl, fun h => absurd h Bool.false_ne_true, HS1.out.bel⟩
/-- Below a world that grew, step by step. -/
theorem bel_alloc {X Y : World} (o : Obj) (h : Below X.heap.size X Y) : Below X.heap.size X (Y.alloc o) := h.alloc h.size o
theorem bel_trans {X Y Z : World} (hz : Below Y.heap.size Y Z) (h : Below X.heap.size X Y) : Below X.heap.size X Z := h.trans (hz.mono h.size)
theorem bel_drew {X Y : World} (h : Below X.heap.size X Y) : Below X.heap.size X Y.drew := h.drew
theorem row_pair (w : World) (x y : Int) (t : TypeId) : Row (w.alloc (.cells #[.int .u64 x, .int .u64 y] t)) w.heap.size 0 2 (pr x y) := fun j hj => by
  rw [Nat.zero_add, World.cell?_alloc_new]
  match j, hj with
  | 0, _ => rfl
  | 1, _ => rfl
theorem row_new2 {w : World} {n : Nat} {x y : Int} {t : TypeId} (h : n = w.heap.size) : Row (w.alloc (.cells #[.int .u64 x, .int .u64 y] t)) n 0 2 (pr x y) := by
  subst h
  exact row_pair w x y t
theorem row_old2 {w : World} {n : Nat} {f : Nat → Int} (o : Obj) (h : Row w n 0 2 f) : Row (w.alloc o) n 0 2 f := h.kept (bel_alloc o (Below.refl _ w)) (h.lt (by omega))
theorem row_bel2 {Y Z : World} {n : Nat} {f : Nat → Int} (hb : Below Y.heap.size Y Z) (h : Row Y n 0 2 f) : Row Z n 0 2 f := h.kept hb (h.lt (by omega))
theorem crow_old {w : World} {ao : Option Addr} {ls : List LQ} {A : Nat → Option Addr} {C : Nat → Nat} (o : Obj) (h : CRow w ao ls A C) : CRow (w.alloc o) ao ls A C := h.kept (bel_alloc o (Below.refl _ w))
theorem keep_cell {W W' : World} {a : Addr} {v : Value} (h : W.cell? a = some v) (hb : Below W.heap.size W W') : W'.cell? a = some v := (hb.cell (World.block_lt_of_cell? W _ h)).trans h
theorem row_four (w : World) (t : TypeId) : Row (w.alloc (.cells #[.int .u64 5, .int .u64 6, .int .u64 7, .int .u64 8] t)) w.heap.size 0 4 dr4 := fun j hj => by
  rw [Nat.zero_add, World.cell?_alloc_new]
  match j, hj with
  | 0, _ => rfl
  | 1, _ => rfl
  | 2, _ => rfl
  | 3, _ => rfl

end Go.Proofs.YtoibgjkcdjodhaaDoor

/-
  A contract of slices.Equal at numbers of 64 bits, where both lists have the same numbers; nothing is written.
-/
namespace Go.Proofs.YtoibgjkcdjodhaaDoor
open Go.RowKit
set_option linter.unusedVariables false
attribute [local go_sem ↓] Go.wp_at_zero Go.wp_at_succ

set_option maxHeartbeats 2000000 in
set_option maxRecDepth 100000 in
theorem equal_ok (a0 a1 : Option Addr) (n c0 c1 : Nat) (f g : Nat → Int) (w : World) (hn : n ≤ 100000) (p0 : PRow w a0 n f) (p1 : PRow w a1 n g) (e : ∀ j, j < n → f j = g j) :
    Calls Tryd.prog 10 #[.slice a0 n c0, .slice a1 n c1] w fun e w' => e = .returned (.bool true) ∧ Below w.heap.size w w' := by
  have H0 := hid p0
  have H1 := hid (p1.congr fun j hj => (e j hj).symm)
  clear p0 p1 e
  go_enter Tryd.func10, Tryd.ntmps10
  go_wp2_with fail
  go_loopg [13] n (fun q i wr => ∃ k : Nat, k ≤ n ∧ q = n - k ∧ i = .int .i64 (k : Int) ∧ Hid (PRow wr a0 n f) ∧ Hid (PRow wr a1 n f) ∧ Hid (Below w.heap.size w wr))
  case atStart => exact ⟨0, by omega, rfl, rfl, H0, H1, hid (Below.refl _ _)⟩
  case round =>
    clear H0 H1
    obtain ⟨k, hk, rfl, rfl, H0, H1, HB⟩ := hrel
    by_cases hlt : k < n
    · obtain ⟨b1, o1, rfl, r1⟩ := H0.out (by omega)
      obtain ⟨b2, o2, rfl, r2⟩ := H1.out (by omega)
      have c1 := r1 k hlt
      have c2 := r2 k hlt
      clear r1 r2
      obtain ⟨a, ha⟩ : ∃ a, f k = a := ⟨_, rfl⟩
      rw [ha] at c1 c2
      clear ha
      have k0 : (0 : Int) ≤ (k : Int) := by omega
      have k1 : (k : Int) < (n : Int) := by omega
      go_wp2_with fail
      go_region_with (first | fail)
      all_goals (go_wp2_with fail)
      all_goals (go_roundg (n - (k + 1)))
      all_goals first | (go_light; omega) | (exact ⟨k + 1, by omega, rfl, by go_num, hid H0.out.drew, hid H1.out.drew, hid HB.out.drew⟩)
    · have e : k = n := by omega
      subst e
      go_wp2_with fail
      go_ret
      exact ⟨rfl, HB.out⟩

end Go.Proofs.YtoibgjkcdjodhaaDoor

/-
  The whole's own tiny circuit and what is said of it: it is proved without asking, and a wrong output is refused.
-/
namespace Go.Proofs.YtoibgjkcdjodhaaDoor
open Go.RowKit
set_option linter.unusedVariables false
attribute [local go_sem ↓] Go.wp_at_zero Go.wp_at_succ

def topQ : CQ := ⟨1, [⟨1, [⟨true, 0, 1⟩, ⟨false, 0, 1⟩]⟩, ⟨0, [⟨true, 0, 1⟩]⟩]⟩
theorem top_right : topQ.right := by
  refine ⟨by decide, by decide, by decide, ⟨by decide, by decide, ?_⟩, ⟨by decide, by decide, ?_⟩, trivial⟩
  · intro q hq
    simp at hq
    rcases hq with rfl | rfl <;> exact ⟨by decide, by decide⟩
  · intro q hq
    simp at hq
    subst hq
    exact ⟨by decide, by decide⟩
/-- Its only output. -/
theorem top_out : valsQ topQ (pr 3 4) 2 0 = 84 := by kernel_rfl
theorem top_lg0 : (partsQ topQ).lg 0 = 0 := by decide
theorem top_lg1 : 0 < (partsQ topQ).lg 1 := by decide
theorem top_ends : endsQ topQ 2 1 := by unfold endsQ; decide
def one1 (x : Int) (_ : Nat) : Int := x
theorem Nums_one1 {x : Int} (h0 : 0 ≤ x) (h1 : x ≤ 18446744073709551615) : Nums (one1 x) := fun _ => ⟨h0, h1⟩
theorem row_one (w : World) (x : Int) (t : TypeId) : Row (w.alloc (.cells #[.int .u64 x] t)) w.heap.size 0 1 (one1 x) := fun j hj => by
  rw [Nat.zero_add, World.cell?_alloc_new]
  match j, hj with
  | 0, _ => rfl
theorem row_new1 {w : World} {n : Nat} {x : Int} {t : TypeId} (h : n = w.heap.size) : Row (w.alloc (.cells #[.int .u64 x] t)) n 0 1 (one1 x) := by
  subst h
  exact row_one w x t
theorem row_old1 {w : World} {n : Nat} {f : Nat → Int} (o : Obj) (h : Row w n 0 1 f) : Row (w.alloc o) n 0 1 f := h.kept (bel_alloc o (Below.refl _ w)) (h.lt (by omega))
theorem row_bel1 {Y Z : World} {n : Nat} {f : Nat → Int} (hb : Below Y.heap.size Y Z) (h : Row Y n 0 1 f) : Row Z n 0 1 f := h.kept hb (h.lt (by omega))
/-- The proof of it holds for 84, and not for 85. -/
theorem top_just (p : PQ) (hp : p = fiatP topQ 2 1 (pr 3 4)) (D : Nat → Int) (x : Int) (inp : Nat → K) (h : (partsQ topQ).holds D p.told (ofK (evS (fun j => kk (one1 x j)) (fun j => kk (D j)) ((partsQ topQ).lg 0))) inp) : kk x = kk 84 := by
  subst hp
  have h2 := first_just top_right (pr 3 4) _ D _ inp top_lg1 h
  have h3 := congrArg kk h2
  rw [kk_ofK, kk_ofK, top_lg0, evS_zero] at h3
  unfold Parts.tru at h3
  rw [top_lg0, evS_zero] at h3
  have h4 : valsK topQ (pr 3 4) 0 0 = kk 84 := by
    show kk (valsQ topQ (pr 3 4) 2 0) = _
    rw [top_out]
  rw [h4] at h3
  exact h3
theorem top_ne : kk 85 ≠ kk 84 := by decide
theorem top_val (j : Nat) (hj : j < 1) : valsQ topQ (pr 3 4) 2 j = one1 84 j := by
  obtain rfl : j = 0 := by omega
  exact top_out
theorem tkK_congr (g : Nat → K) (n : Nat) {f f' : Nat → Int} (h : ∀ j, j < n → kk (f j) = kk (f' j)) : tkK g n f = tkK g n f' := by
  unfold tkK
  rw [takesK_congr n n h]
theorem top_askG : askG topQ 2 1 (pr 3 4) (one1 84) = askG topQ 2 1 (pr 3 4) (valsQ topQ (pr 3 4) 2) := by
  unfold askG
  exact tkK_congr _ 1 fun j hj => by rw [top_val j hj]
theorem top_yes : (partsQ topQ).holds (fiatD topQ 2 1 (pr 3 4) (one1 84) (fiatP topQ 2 1 (pr 3 4))) (fiatP topQ 2 1 (pr 3 4)).told (ofK (evS (fun j => kk (one1 84 j)) (fun j => kk (fiatD topQ 2 1 (pr 3 4) (one1 84) (fiatP topQ 2 1 (pr 3 4)) j)) ((partsQ topQ).lg 0))) (fun j => kk (pr 3 4 j)) := by
  have h := fiat_yes top_right 2 1 (pr 3 4)
  have e : fiatD topQ 2 1 (pr 3 4) (valsQ topQ (pr 3 4) topQ.layers.length) (fiatP topQ 2 1 (pr 3 4)) = fiatD topQ 2 1 (pr 3 4) (one1 84) (fiatP topQ 2 1 (pr 3 4)) := by
    unfold fiatD ask1
    rw [top_askG]; rfl
  rw [e] at h
  rw [top_lg0, evS_zero] at h ⊢
  have e2 : valsQ topQ (pr 3 4) topQ.layers.length 0 = one1 84 0 := top_val 0 (by omega)
  rw [e2] at h
  exact h

set_option maxHeartbeats 2000000 in
set_option maxRecDepth 100000 in
theorem ttiny_any (w : World) :
    Calls Tryd.prog 36 #[] w fun e w' => ∃ (b : Nat) (A : Nat → Option Addr) (C : Nat → Nat), e = .returned (.agg #[.int .i64 1, .slice (some ⟨b, 0, none⟩) 2 2]) ∧ CRow w' (some ⟨b, 0, none⟩) topQ.layers A C ∧ Below w.heap.size w w' := by
  go_enter Tryd.func36, Tryd.ntmps36
  go_wp2_with fail
  refine bodyPost_ret (results_circ1 rfl rfl (by rw [World.cell?_alloc_old _ _ _ (by simp <;> omega), World.cell?_alloc_old _ _ _ (by simp <;> omega), World.cell?_alloc_old _ _ _ (by simp <;> omega), World.cell?_alloc_new]; rfl) (by rw [World.cell?_alloc_old _ _ _ (by simp <;> omega), World.cell?_alloc_old _ _ _ (by simp <;> omega), World.cell?_alloc_old _ _ _ (by simp <;> omega), World.cell?_alloc_new]; rfl)) rfl ?_
  refine ⟨w.heap.size + 1 + 1 + 1, fun i => if i = 0 then some ⟨w.heap.size + 1, 0, none⟩ else some ⟨w.heap.size + 1 + 1, 0, none⟩, fun i => if i = 0 then 2 else 1, rfl, ?_, ((((Below.refl w.heap.size w).alloc (Nat.le_refl _) _).alloc (by simp) _).alloc (by simp; omega) _).alloc (by simp; omega) _⟩
  generalize hO1 : Obj.cells #[Value.int .i64 1, .slice (some ⟨w.heap.size + 1 + 1 + 1, 0, none⟩) 2 2] 24 = o1
  have s1 : (w.alloc o1).heap.size = w.heap.size + 1 := by simp
  generalize w.alloc o1 = w1 at s1 ⊢
  generalize hO2 : Obj.cells #[Value.bool true, .int .i64 0, .int .i64 1, .bool false, .int .i64 0, .int .i64 1] 67 = o2
  have s2 : (w1.alloc o2).heap.size = w.heap.size + 1 + 1 := by simp [s1]
  have g : ∀ j, (w1.alloc o2).cell? ⟨w.heap.size + 1, j, none⟩ = (#[Value.bool true, .int .i64 0, .int .i64 1, .bool false, .int .i64 0, .int .i64 1] : Array Value)[j]? := fun j => by
    rw [← hO2, ← s1, World.cell?_alloc_new]
  generalize w1.alloc o2 = w2 at s2 g ⊢
  generalize hO3 : Obj.cells #[Value.bool true, .int .i64 0, .int .i64 1] 67 = o3
  have s3 : (w2.alloc o3).heap.size = w.heap.size + 1 + 1 + 1 := by simp [s2]
  have k : ∀ j, (w2.alloc o3).cell? ⟨w.heap.size + 1 + 1, j, none⟩ = (#[Value.bool true, .int .i64 0, .int .i64 1] : Array Value)[j]? := fun j => by
    rw [← hO3, ← s2, World.cell?_alloc_new]
  have g3 : ∀ j, (w2.alloc o3).cell? ⟨w.heap.size + 1, j, none⟩ = (#[Value.bool true, .int .i64 0, .int .i64 1, .bool false, .int .i64 0, .int .i64 1] : Array Value)[j]? := fun j => by
    rw [World.cell?_alloc_old _ _ _ (by show w.heap.size + 1 ≠ w2.heap.size; omega)]; exact g j
  generalize w2.alloc o3 = w3 at s3 k g3 ⊢
  have hl : ∀ j, (w3.alloc (Obj.cells #[Value.int .i64 1, .slice (some ⟨w.heap.size + 1, 0, none⟩) 2 2, .int .i64 0, .slice (some ⟨w.heap.size + 1 + 1, 0, none⟩) 1 1] 70)).cell? ⟨w.heap.size + 1 + 1 + 1, j, none⟩ = (#[Value.int .i64 1, .slice (some ⟨w.heap.size + 1, 0, none⟩) 2 2, .int .i64 0, .slice (some ⟨w.heap.size + 1 + 1, 0, none⟩) 1 1] : Array Value)[j]? := fun j => by
    rw [← s3, World.cell?_alloc_new]
  have g' : ∀ j o, (w3.alloc o).cell? ⟨w.heap.size + 1, j, none⟩ = (#[Value.bool true, .int .i64 0, .int .i64 1, .bool false, .int .i64 0, .int .i64 1] : Array Value)[j]? := fun j o => by
    rw [World.cell?_alloc_old _ _ _ (by show w.heap.size + 1 ≠ w3.heap.size; omega)]; exact g3 j
  have k' : ∀ j o, (w3.alloc o).cell? ⟨w.heap.size + 1 + 1, j, none⟩ = (#[Value.bool true, .int .i64 0, .int .i64 1] : Array Value)[j]? := fun j o => by
    rw [World.cell?_alloc_old _ _ _ (by show w.heap.size + 1 + 1 ≠ w3.heap.size; omega)]; exact k j
  intro _
  refine ⟨_, _, rfl, fun i l hi => ?_⟩
  match i, hi with
  | 0, hi =>
    obtain rfl : (⟨1, [⟨true, 0, 1⟩, ⟨false, 0, 1⟩]⟩ : LQ) = l := by simpa [topQ] using hi
    refine ⟨(hl 0).trans rfl, (hl 1).trans rfl, fun _ => ⟨_, _, rfl, fun j q hq => ?_⟩, Nat.le_refl 2⟩
    match j, hq with
    | 0, hq =>
      obtain rfl : (⟨true, 0, 1⟩ : GQ) = q := by simpa using hq
      exact ⟨(g' 0 _).trans rfl, (g' 1 _).trans rfl, (g' 2 _).trans rfl⟩
    | 1, hq =>
      obtain rfl : (⟨false, 0, 1⟩ : GQ) = q := by simpa using hq
      exact ⟨(g' 3 _).trans rfl, (g' 4 _).trans rfl, (g' 5 _).trans rfl⟩
    | j + 2, hq => simp at hq
  | 1, hi =>
    obtain rfl : (⟨0, [⟨true, 0, 1⟩]⟩ : LQ) = l := by simpa [topQ] using hi
    refine ⟨(hl 2).trans rfl, (hl 3).trans rfl, fun _ => ⟨_, _, rfl, fun j q hq => ?_⟩, Nat.le_refl 1⟩
    match j, hq with
    | 0, hq =>
      obtain rfl : (⟨true, 0, 1⟩ : GQ) = q := by simpa using hq
      exact ⟨(k' 0 _).trans rfl, (k' 1 _).trans rfl, (k' 2 _).trans rfl⟩
    | j + 1, hq => simp at hq
  | i + 2, hi => simp [topQ] at hi

set_option maxHeartbeats 8000000 in
set_option maxRecDepth 100000 in
theorem said_any (w : World) (ht : Tab w) :
    Calls Tryd.prog 14 #[] w fun e w' => e = .returned (.bool true) ∧ Below w.heap.size w w' := by
  have HT := hid (fun W (h : Below w.heap.size w W) => ht.kept h ht.1)
  clear ht
  go_enter Tryd.func14, Tryd.ntmps14
  go_wp2_with fail
  refine (ttiny_any w).mono ?_
  rintro e w1 ⟨b1, A1, C1, rfl, hc1, hb1⟩
  have HB1 := hid hb1
  have HC1 := hid hc1
  clear hc1 hb1
  go_wp2_with fail
  have HPV : Hid (Calls Tryd.prog 7 #[.agg #[.int .i64 1, .slice (some ⟨b1, 0, none⟩) 2 2], .slice (some ⟨w1.heap.size, 0, none⟩) 2 2] (w1.alloc (.cells #[.int .u64 3, .int .u64 4] 33)) fun e w' => fproveOut topQ (pr 3 4) 2 2 1 (w1.alloc (.cells #[.int .u64 3, .int .u64 4] 33)) e w') := hid (by
    have hal := (Below.refl w1.heap.size w1).alloc (Nat.le_refl _) (.cells #[.int .u64 3, .int .u64 4] 33)
    exact fpv_ok topQ 1 b1 0 2 2 A1 C1 w1.heap.size 0 2 2 1 (pr 3 4) _ rfl rfl (HC1.out.kept hal) top_right (shl_pow (k := 1) (by omega)) (by decide) (by decide) (row_pair w1 3 4 _) (Nums_pr (by omega) (by omega) (by omega) (by omega)) (HT.out _ (bel_trans hal HB1.out)))
  refine (HPV.out).mono ?_
  rintro e w2 ⟨dk, PB, m, rfl, hrow, hpf, hlow, hfr, hb2⟩
  have hal := (Below.refl w2.heap.size w2).alloc (Nat.le_refl _) (.cells #[.slice (some ⟨PB, 0, none⟩) 2 2] 28)
  have HB3 := hid (bel_trans hal (bel_trans hb2 (bel_alloc _ HB1.out)))
  have HP3 := hid (hpf.kept hal)
  have HD3 : Hid (Row (w2.alloc (.cells #[.slice (some ⟨PB, 0, none⟩) 2 2] 28)) dk 0 1 (valsQ topQ (pr 3 4) 2)) := hid (hrow.kept hal (hrow.lt (by omega)))
  have HQ3 : Hid ((w2.alloc (.cells #[.slice (some ⟨PB, 0, none⟩) 2 2] 28)).cell? ⟨w2.heap.size, 0, none⟩ = some (.slice (some ⟨PB, 0, none⟩) 2 2)) := hid (by rw [World.cell?_alloc_new]; rfl)
  clear hrow hpf hlow hfr hb2 hal HB1 HC1 HPV
  go_wp2_with fail
  obtain ⟨Q, hQ⟩ : ∃ x, w2.heap.size = x := ⟨_, rfl⟩
  rw [hQ] at HQ3
  rw [hQ]
  clear hQ
  generalize w2.alloc (.cells #[.slice (some ⟨PB, 0, none⟩) 2 2] 28) = W3 at HB3 HP3 HD3 HQ3 ⊢
  have HV : Hid (∀ (q : Int) (r : Bool) (W' : World) (x1 x2 bT : Nat) (A : Nat → Option Addr) (C : Nat → Nat), (q = 84 ∧ r = true ∨ q = 85 ∧ r = false) → CRow W' (some ⟨bT, 0, none⟩) topQ.layers A C → Row W' x1 0 2 (pr 3 4) → Row W' x2 0 1 (one1 q) → Below W3.heap.size W3 W' → Calls Tryd.prog 9 #[.agg #[.int .i64 1, .slice (some ⟨bT, 0, none⟩) 2 2], .slice (some ⟨x1, 0, none⟩) 2 2, .slice (some ⟨x2, 0, none⟩) 1 1, .agg #[.slice (some ⟨PB, 0, none⟩) 2 2]] W' fun e w'' => e = .returned (.tuple #[.bool r, .int .i64 0]) ∧ Below W3.heap.size W3 w'') := hid (fun q r W' x1 x2 bT A C hq hcr h1 h2 hb => by
    have hq2 : 0 ≤ q ∧ q ≤ 18446744073709551615 := by rcases hq with ⟨h, _⟩ | ⟨h, _⟩ <;> omega
    refine (fvf_ok topQ 1 bT 0 2 2 A C x1 0 2 2 x2 0 1 1 (pr 3 4) (one1 q) (some ⟨PB, 0, none⟩) 2 2 (fiatP topQ 2 1 (pr 3 4)) m W' rfl rfl hcr top_right rfl (HP3.out.kept hb) (fiatP_nums _ _ _ _) (fiatP_shaped _ _ _ _) top_ends h1 (Nums_pr (by omega) (by omega) (by omega) (by omega)) h2 (Nums_one1 hq2.1 hq2.2) (HT.out _ (bel_trans hb HB3.out))).mono ?_
    rintro e w'' ⟨r', x, rfl, ⟨rfl, hr'⟩, hb'⟩
    refine ⟨?_, bel_trans hb' hb⟩
    rcases hq with ⟨rfl, rfl⟩ | ⟨rfl, rfl⟩
    · rw [hr'.2 top_yes]
    · cases r' with
      | false => rfl
      | true => exact absurd (top_just _ rfl _ _ _ (hr'.1 rfl)) top_ne)
  have hq := HQ3.out
  have HBS := hid (Below.refl W3.heap.size W3)
  go_cut [4, 5] (fun a6 a7 wx => a6 = .bool true ∧ a7 = .int .i64 0 ∧ Hid (Below W3.heap.size W3 wx))
  case first =>
    go_region_held3 (fun W => W.cell? ⟨Q, 0, none⟩ = some (.slice (some ⟨PB, 0, none⟩) 2 2)) (first | assumption | (refine keep_cell hq ?_; repeat (first | exact HBS.out | exact hbV | apply bel_alloc | refine bel_trans hbT ?_ | apply bel_drew))) (first
      | (go_at_call 36; refine (ttiny_any _).mono ?_; rintro e wT ⟨bT, AT, CT, rfl, hcT, hbT⟩)
      | (go_at_call 9; refine (HV.out 84 true _ _ _ _ AT CT (.inl ⟨rfl, rfl⟩) (by repeat (first | exact hcT | apply crow_old)) (by repeat (first | exact row_new2 (by simp) | apply row_old2 | refine row_bel2 hbT ?_)) (by repeat (first | exact row_new1 (by simp) | apply row_old1 | refine row_bel1 hbT ?_)) (by repeat (first | exact HBS.out | apply bel_alloc | refine bel_trans hbT ?_ | apply bel_drew))).mono ?_; rintro e wV ⟨rfl, hbV⟩))
    all_goals (go_wp2_with fail)
    all_goals go_meet
    all_goals exact ⟨rfl, rfl, hid hbV⟩
  case rest =>
    clear HBS
    obtain ⟨rfl, rfl, HBS⟩ := hcut
    go_wp2_with fail
    go_cut [6, 7] (fun a8 a9 wx => a8 = .bool false ∧ a9 = .int .i64 0 ∧ Hid (Below W3.heap.size W3 wx))
    case first =>
      go_region_held3 (fun W => W.cell? ⟨Q, 0, none⟩ = some (.slice (some ⟨PB, 0, none⟩) 2 2)) (first | assumption | (refine keep_cell hq ?_; repeat (first | exact HBS.out | exact hbV | apply bel_alloc | refine bel_trans hbT ?_ | apply bel_drew))) (first
        | (go_at_call 36; refine (ttiny_any _).mono ?_; rintro e wT ⟨bT, AT, CT, rfl, hcT, hbT⟩)
        | (go_at_call 9; refine (HV.out 85 false _ _ _ _ AT CT (.inr ⟨rfl, rfl⟩) (by repeat (first | exact hcT | apply crow_old)) (by repeat (first | exact row_new2 (by simp) | apply row_old2 | refine row_bel2 hbT ?_)) (by repeat (first | exact row_new1 (by simp) | apply row_old1 | refine row_bel1 hbT ?_)) (by repeat (first | exact HBS.out | apply bel_alloc | refine bel_trans hbT ?_ | apply bel_drew))).mono ?_; rintro e wV ⟨rfl, hbV⟩))
      all_goals (go_wp2_with fail)
      all_goals go_meet
      all_goals exact ⟨rfl, rfl, hid hbV⟩
    case rest =>
      clear HBS
      obtain ⟨rfl, rfl, HBS⟩ := hcut
      have HD4 := hid (HD3.out.kept HBS.out (HD3.out.lt (by omega)))
      have HB4 := hid (bel_trans HBS.out HB3.out)
      clear HV HD3 HB3 HBS HQ3 hq HP3
      have HEQ : Hid (∀ x1, Row (wc.alloc (.cells #[.int .u64 84] 33)) x1 0 1 (one1 84) → Calls Tryd.prog 10 #[.slice (some ⟨dk, 0, none⟩) 1 1, .slice (some ⟨x1, 0, none⟩) 1 1] (wc.alloc (.cells #[.int .u64 84] 33)) fun e w' => e = .returned (.bool true) ∧ Below wc.heap.size wc w') := hid (fun x1 hx => by
        have hal := (Below.refl wc.heap.size wc).alloc (Nat.le_refl _) (.cells #[.int .u64 84] 33)
        refine (equal_ok (some ⟨dk, 0, none⟩) (some ⟨x1, 0, none⟩) 1 1 1 _ _ _ (by omega) (PRow.of (HD4.out.kept hal (HD4.out.lt (by omega)))) (PRow.of hx) top_val).mono ?_
        rintro e w' ⟨rfl, hb⟩
        exact ⟨rfl, hal.trans (hb.mono hal.size)⟩)
      go_wp2_with (go_at_call 10; refine (HEQ.out _ (row_one wc 84 _)).mono ?_; rintro e w5 ⟨rfl, hb5⟩)
      go_ret
      exact ⟨rfl, bel_trans hb5 HB4.out⟩

/-- What the laws of the whole carry: the circuit, inputs, draws, values. -/
structure TpS (w W : World) (X : Nat) (g : Int) (v : Value) (BX N : Nat) (x : Nat → Int) (BD q : Nat) (d : Nat → Int) (V n dk M : Nat) (y : Nat → Int) : Prop where
  st : StW w W X g v
  x : Row W BX 0 N x
  d : Row W BD 0 q d
  cv : W.cell? ⟨V, n, none⟩ = some (.slice (some ⟨dk, 0, none⟩) M M)
  y : Row W dk 0 M y
  hN : 1 ≤ N
  hq : 1 ≤ q
  hM : 1 ≤ M
theorem TpS.next {w W W' : World} {X : Nat} {g : Int} {v : Value} {BX N : Nat} {x : Nat → Int} {BD q : Nat} {d : Nat → Int} {V n dk M : Nat} {y : Nat → Int} (h : TpS w W X g v BX N x BD q d V n dk M y) (hb : Below W.heap.size W W') : TpS w W' X g v BX N x BD q d V n dk M y :=
  ⟨h.st.next hb, h.x.kept hb (h.x.lt h.hN), h.d.kept hb (h.d.lt h.hq), keep_cell h.cv hb, h.y.kept hb (h.y.lt h.hM), h.hN, h.hq, h.hM⟩
/-- Four cells. -/
abbrev FourT (X V n Q : Nat) (u v d p : Value) (W : World) : Prop := W.cell? ⟨X, 0, none⟩ = some u ∧ W.cell? ⟨X, 1, none⟩ = some v ∧ W.cell? ⟨V, n, none⟩ = some d ∧ W.cell? ⟨Q, 0, none⟩ = some p
theorem FourT.kept {X V n Q : Nat} {u v d p : Value} {W W' : World} (h : FourT X V n Q u v d p W) (hb : Below W.heap.size W W') : FourT X V n Q u v d p W' := ⟨keep_cell h.1 hb, keep_cell h.2.1 hb, keep_cell h.2.2.1 hb, keep_cell h.2.2.2 hb⟩
theorem need_pos {c : CQ} (hc : c.right) : 1 ≤ needQ c := by
  have h := at_fits (c := c) (j := 0) (List.length_pos_iff.2 hc.some)
  omega

end Go.Proofs.YtoibgjkcdjodhaaDoor

/-
  Contracts of the document's own answer on numbers (package tallyref: Add, Sub, Mul), each for every input: they answer what the functions of the text Ops tell, and leave the world as it was.
-/
namespace Go.Proofs.YtoibgjkcdjodhaaDoor
open Go.RowKit
set_option linter.unusedVariables false

set_option maxHeartbeats 400000 in
theorem radd_any (a b : Int) (w : World) (h0 : 0 ≤ a) (h1 : a ≤ 18446744073709551615) (g0 : 0 ≤ b) (g1 : b ≤ 18446744073709551615) :
    Calls Tryd.prog 71 #[.int .u64 a, .int .u64 b] w fun e w' => e = .returned (.int .u64 (addQ a b)) ∧ w' = w := by
  go_enter Tryd.func71, Tryd.ntmps71
  go_wp2
  go_ret
  exact ⟨ret_u64 (by unfold addQ; rw [Q_eq]; omega), rfl⟩

set_option maxHeartbeats 400000 in
theorem rsub_any (a b : Int) (w : World) (h0 : 0 ≤ a) (h1 : a ≤ 18446744073709551615) (g0 : 0 ≤ b) (g1 : b ≤ 18446744073709551615) :
    Calls Tryd.prog 70 #[.int .u64 a, .int .u64 b] w fun e w' => e = .returned (.int .u64 (subQ a b)) ∧ w' = w := by
  go_enter Tryd.func70, Tryd.ntmps70
  go_wp2
  go_ret
  exact ⟨ret_u64 (by unfold subQ; rw [Q_eq]; omega), rfl⟩

set_option maxHeartbeats 1000000 in
theorem rmul_any (a b : Int) (w : World) (h0 : 0 ≤ a) (h1 : a ≤ 18446744073709551615) (g0 : 0 ≤ b) (g1 : b ≤ 18446744073709551615) :
    Calls Tryd.prog 69 #[.int .u64 a, .int .u64 b] w fun e w' => e = .returned (.int .u64 (mulQ a b)) ∧ w' = w := by
  go_enter Tryd.func69, Tryd.ntmps69
  go_wp2_with fail
  go_loop [5, 6] (fun o i => ∃ (t : Int) (k : Nat), o = .int .u64 t ∧ i = .int .i64 ((k : Int) - 1) ∧ k ≤ 61 ∧ 0 ≤ t ∧ t ≤ 2305843009213693950 ∧ Hid (t = mulQ a (b % 2305843009213693951 / 2 ^ k))) (fun _ i => (intOf i + 1).toNat)
  case atStart => exact ⟨0, 61, rfl, rfl, by omega, by omega, by omega, hid (by rw [show b % 2305843009213693951 / 2 ^ 61 = 0 from by omega, mulQ_zero])⟩
  case round =>
    obtain ⟨t, k, rfl, rfl, hk, t0, t1, HT⟩ := hrel
    by_cases hz : k = 0
    · subst hz
      go_wp2_with fail
      go_ret
      exact ⟨ret_u64 (by rw [HT.out, Int.pow_zero, Int.ediv_one]; exact mulQ_nrm_r a b), rfl⟩
    · obtain ⟨j, rfl⟩ : ∃ j, k = j + 1 := ⟨k - 1, by omega⟩
      obtain ⟨q0, q1⟩ := shr_rng (b % 2305843009213693951) j (by omega)
      by_cases hb : b % 2305843009213693951 / 2 ^ j % 2 = 1
      · have hb' : (b % 2305843009213693951 / 2 ^ j % 2 == 1) = true := beq_iff_eq.2 hb
        have HB := hid hb
        clear hb
        go_wp2_with fail
        go_round
        case rel => exact ⟨_, j, rfl, rfl, by omega, by omega, by omega, hid (by rw [HT.out]; exact mul_bit1 a _ j HB.out)⟩
        case measure => simp [intOf]
      · have hb' : (b % 2305843009213693951 / 2 ^ j % 2 == 1) = false := beq_eq_false_iff_ne.2 hb
        have HB := hid hb
        clear hb
        go_wp2_with fail
        go_round
        case rel => exact ⟨_, j, rfl, rfl, by omega, by omega, by omega, hid (by rw [HT.out]; exact mul_bit0 a _ j (by have := HB.out; omega))⟩
        case measure => simp [intOf]

end Go.Proofs.YtoibgjkcdjodhaaDoor

/-
  Contracts of the document's own answer on numbers (package tallyref: Inv of a number whose rest is not 0), each for every input: they answer what the functions of the text Ops tell, and leave the world as it was.
-/
namespace Go.Proofs.YtoibgjkcdjodhaaDoor
open Go.RowKit
set_option linter.unusedVariables false

set_option maxHeartbeats 1000000 in
theorem rinv_any (a : Int) (w : World) (h0 : 0 ≤ a) (h1 : a ≤ 18446744073709551615) (hz : nrm a ≠ 0) :
    Calls Tryd.prog 72 #[.int .u64 a] w fun e w' => e = .returned (.int .u64 (invQ a)) ∧ w' = w := by
  have HZ := hid hz
  clear hz
  go_enter Tryd.func72, Tryd.ntmps72
  go_wp2_with fail
  go_loop [3, 4, 5, 6] (fun r m x t => ∃ (R M : Nat) (X T : Int), r = .int .u64 R ∧ m = .int .u64 M ∧ x = .int .u64 X ∧ t = .int .u64 T ∧ R ≤ 2305843009213693951 ∧ M ≤ 2305843009213693951 ∧ 0 ≤ X ∧ X ≤ 2305843009213693950 ∧ 0 ≤ T ∧ T ≤ 2305843009213693950 ∧ Hid (Nat.gcd R M = 1) ∧ Hid (mulQ X a = nrm R) ∧ Hid (mulQ T a = nrm M)) (fun _ m _ _ => (intOf m).toNat)
  case atStart =>
    obtain ⟨r0, r1⟩ := nrm_rng a
    refine ⟨2305843009213693951, (nrm a).toNat, 0, 1, rfl, ?_, rfl, rfl, by omega, by omega, by omega, by omega, by omega, by omega, hid (coprimeQ a h0 HZ.out), hid ?_, hid ?_⟩
    · rw [Int.toNat_of_nonneg r0]; rfl
    · rw [mulQ_comm, mulQ_zero]; rfl
    · rw [Int.toNat_of_nonneg r0, mulQ_comm, mulQ_one, nrm_in r0 r1]
  case round =>
    obtain ⟨R, M, X, T, rfl, rfl, rfl, rfl, hR, hM, x0, x1, t0, t1, HG, HX, HT⟩ := hrel
    by_cases hm : M = 0
    · subst hm
      go_wp2_with fail
      go_ret
      refine ⟨ret_u64 (inv_only a X h0 HZ.out x0 x1 ?_), rfl⟩
      have e := HG.out
      rw [Nat.gcd_zero_right] at e
      rw [HX.out, e]; rfl
    · have hb : ((M : Int) != 0) = true := by rw [bne_iff_ne]; omega
      obtain ⟨d0, d1, d2, d3⟩ := quo_rng R M hR
      have hm1 : (1 : Int) ≤ (M : Int) := by omega
      obtain ⟨u0, u1⟩ := mulQ_rng ((R : Int) / (M : Int)) T
      obtain ⟨v0, v1⟩ := subQ_rng X (mulQ ((R : Int) / (M : Int)) T)
      have hlt : R % M < M := Nat.mod_lt R (by omega)
      go_wp2_with (first | (go_at_call 69; refine (rmul_any _ _ _ (by omega) (by omega) (by omega) (by omega)).mono ?_; rintro e w' ⟨rfl, rfl⟩) | (go_at_call 70; refine (rsub_any _ _ _ (by omega) (by omega) (by omega) (by omega)).mono ?_; rintro e w' ⟨rfl, rfl⟩))
      go_round
      case rel => exact ⟨M, R % M, T, _, rfl, by rw [rest_cast], rfl, rfl, by omega, by omega, t0, t1, v0, v1, hid (gcd_step R M HG.out), HT, hid (euclid_step a X T R M HX.out HT.out)⟩
      case measure => simp only [intOf]; rw [rest_cast]; omega

end Go.Proofs.YtoibgjkcdjodhaaDoor

/-
  Contracts of the document's own answers for polynomials, tallyref's At (LAGRANGE's sum), for every row of numbers; nothing is written.
-/
namespace Go.Proofs.YtoibgjkcdjodhaaDoor
open Go.RowKit
set_option linter.unusedVariables false

theorem up_hit (x : Int) (i : Nat) (u : Int) : upQ x i u (i + 1) = upQ x i u i := by rw [upQ, if_pos rfl]
theorem up_miss (x : Int) (i : Nat) (u : Int) (k : Nat) (h : k ≠ i) : upQ x i u (k + 1) = mulQ (upQ x i u k) (subQ x k) := by rw [upQ, if_neg h]
theorem und_hit (i : Nat) : undQ i (i + 1) = undQ i i := by rw [undQ, if_pos rfl]
theorem und_miss (i k : Nat) (h : k ≠ i) : undQ i (k + 1) = mulQ (undQ i k) (subQ i k) := by rw [undQ, if_neg h]
theorem und_ne (i n : Nat) (hi : i < n) (hn : n ≤ 100000) : nrm (undQ i n) ≠ 0 := nrm_ne (by rw [kk_undQ]; exact prodK_ne i n (by omega) (by omega))

set_option maxHeartbeats 4000000 in
set_option maxRecDepth 100000 in
theorem rat_any (b off n cap : Nat) (v : Nat → Int) (x : Int) (w : World) (hn : n ≤ 100000) (hr : Row w b off n v) (hv : Nums v) (x0 : 0 ≤ x) (x1 : x ≤ 18446744073709551615) :
    Calls Tryd.prog 47 #[.slice (some ⟨b, off, none⟩) n cap, .int .u64 x] w fun e w' => e = .returned (.int .u64 (atQ v n x)) ∧ w' = w := by
  have HR := hid hr
  have HV := hid hv
  clear hr hv
  go_enter Tryd.func47, Tryd.ntmps47
  go_wp2_with fail
  go_loopg [5, 6] n (fun g o i wr => ∃ (k : Nat) (y : Int), k ≤ n ∧ g = n - k ∧ o = .int .u64 y ∧ i = .int .i64 (k : Int) ∧ 0 ≤ y ∧ y ≤ 2305843009213693950 ∧ Hid (y = lagQ v n x k) ∧ wr = w)
  case atStart => exact ⟨0, 0, by omega, rfl, rfl, rfl, by omega, by omega, hid rfl, rfl⟩
  case round =>
    obtain ⟨i, y, hi, rfl, rfl, rfl, y0, y1, HY, hw⟩ := hrel
    obtain rfl := hw.symm
    by_cases hlt : i < n
    · have c1 := HR.out i hlt
      obtain ⟨a, ha⟩ : ∃ a, v i = a := ⟨_, rfl⟩
      have ba := HV.out i
      rw [ha] at c1 ba
      obtain ⟨a0, a1⟩ := ba
      have HA := hid ha
      clear ha
      go_wp2_with fail
      go_loopg [7, 8, 9] n (fun g u d t wr => ∃ (k : Nat) (p q : Int), k ≤ n ∧ g = n - k ∧ u = .int .u64 p ∧ d = .int .u64 q ∧ t = .int .i64 (k : Int) ∧ 0 ≤ p ∧ p ≤ 18446744073709551615 ∧ 0 ≤ q ∧ q ≤ 2305843009213693950 ∧ Hid (p = upQ x i a k) ∧ Hid (q = undQ i k) ∧ wr = w)
      case atStart => exact ⟨0, a, 1, by omega, rfl, rfl, rfl, rfl, a0, a1, by omega, by omega, hid rfl, hid rfl, rfl⟩
      case round =>
        obtain ⟨k, p, q, hk, rfl, rfl, rfl, rfl, p0, p1, q0, q1, HP, HD, hw⟩ := hrel
        obtain rfl := hw.symm
        by_cases hlk : k < n
        · by_cases hki : k = i
          · subst hki
            go_wp2_with fail
            go_roundg (n - (k + 1))
            case measure => go_light; omega
            case rel => exact ⟨k + 1, p, q, by omega, rfl, rfl, rfl, by go_num, p0, p1, q0, q1, hid (by rw [up_hit]; exact HP.out), hid (by rw [und_hit]; exact HD.out), rfl⟩
          · have hb : ((k : Int) != (i : Int)) = true := bne_iff_ne.2 (by omega)
            obtain ⟨s0, s1⟩ := subQ_rng x (k : Int)
            obtain ⟨t0, t1⟩ := subQ_rng (i : Int) (k : Int)
            go_wp2_with (first | (go_at_call 69; refine (rmul_any _ _ _ (by omega) (by omega) (by omega) (by omega)).mono ?_; rintro e w' ⟨rfl, hw⟩; obtain rfl := hw.symm) | (go_at_call 70; refine (rsub_any _ _ _ (by omega) (by omega) (by omega) (by omega)).mono ?_; rintro e w' ⟨rfl, hw⟩; obtain rfl := hw.symm))
            go_roundg (n - (k + 1))
            case measure => go_light; omega
            case rel => exact ⟨k + 1, _, _, by omega, rfl, rfl, rfl, by go_num, (mulQ_rng _ _).1, by have := (mulQ_rng p (subQ x k)).2; omega, (mulQ_rng _ _).1, (mulQ_rng _ _).2, hid (by rw [up_miss x i a k hki, HP.out]), hid (by rw [und_miss i k hki, HD.out]), rfl⟩
        · have e : k = n := by omega
          subst e
          have HZ : Hid (nrm q ≠ 0) := hid (by rw [HD.out]; exact und_ne i k hlt hn)
          have HI := hid (fun w => rinv_any q w q0 (by omega) HZ.out)
          obtain ⟨s0, s1⟩ := invQ_rng q
          obtain ⟨t0, t1⟩ := mulQ_rng p (invQ q)
          go_wp2_with (first | (go_at_call 72; refine (HI.out _).mono ?_; rintro e w' ⟨rfl, hw⟩; obtain rfl := hw.symm) | (go_at_call 69; refine (rmul_any _ _ _ (by omega) (by omega) (by omega) (by omega)).mono ?_; rintro e w' ⟨rfl, hw⟩; obtain rfl := hw.symm) | (go_at_call 71; refine (radd_any _ _ _ (by omega) (by omega) (by omega) (by omega)).mono ?_; rintro e w' ⟨rfl, hw⟩; obtain rfl := hw.symm))
          go_roundg (k - (i + 1))
          case measure => go_light; omega
          case rel => exact ⟨i + 1, _, by omega, rfl, rfl, by go_num, (addQ_rng _ _).1, (addQ_rng _ _).2, hid (by rw [lagQ, HA.out, HY.out, HP.out, HD.out]), rfl⟩
    · have e : i = n := by omega
      subst e
      go_wp2_with fail
      go_ret
      exact ⟨ret_u64 HY.out, rfl⟩

end Go.Proofs.YtoibgjkcdjodhaaDoor

/-
  A contract of tallyref's Vars: for every list; nothing is written.
-/
namespace Go.Proofs.YtoibgjkcdjodhaaDoor
open Go.RowKit
set_option linter.unusedVariables false

theorem shl_one {k : Nat} (hk : k ≤ 8) : wrap64 ((2 : Int) ^ k) = ((2 ^ k : Nat) : Int) := by
  have h : 2 ^ k ≤ 256 := Nat.pow_le_pow_right (j := 8) (by omega) hk
  rw [show ((2 : Int) ^ k) = ((2 ^ k : Nat) : Int) from by simp]
  generalize 2 ^ k = M at h
  exact IntWalk.wrap64_in _ (by omega)

set_option maxHeartbeats 1000000 in
theorem rvars_ok (ao : Option Addr) (n N cap : Nat) (w : World) (hn : n ≤ 8) (hN : N = 2 ^ n) :
    Calls Tryd.prog 45 #[.slice ao N cap] w fun e w' => e = .returned (.int .i64 (n : Int)) ∧ w' = w := by
  have HN := hid hN
  clear hN
  go_enter Tryd.func45, Tryd.ntmps45
  go_wp2_with fail
  go_loopg [3] n (fun g i wr => ∃ k : Nat, k ≤ n ∧ g = n - k ∧ i = .int .i64 (k : Int) ∧ wr = w)
  case atStart => exact ⟨0, by omega, rfl, rfl, rfl⟩
  case round =>
    obtain ⟨k, hk, rfl, rfl, hw⟩ := hrel
    obtain rfl := hw.symm
    have hs := shl_one (k := k) (by omega)
    by_cases hlt : k < n
    · have hlt2 : 2 ^ k < N := by rw [HN.out]; exact Nat.pow_lt_pow_right (by omega) hlt
      generalize 2 ^ k = M at hs hlt2
      have hb : ((N : Int) == (M : Int)) = false := beq_eq_false_iff_ne.2 (by omega)
      go_wp2_with fail
      go_roundg (n - (k + 1))
      case measure => go_light; omega
      case rel => exact ⟨k + 1, by omega, rfl, by go_num, rfl⟩
    · have e : k = n := by omega
      subst e
      rw [← HN.out] at hs
      go_wp2_with fail
      go_ret
      exact ⟨rfl, rfl⟩
set_option maxHeartbeats 1000000 in
theorem rvars_bad (ao : Option Addr) (N cap : Nat) (w : World) (h : ∀ n, n ≤ 8 → N ≠ 2 ^ n) :
    Calls Tryd.prog 45 #[.slice ao N cap] w fun e w' => e = .returned (.int .i64 (-1)) ∧ w' = w := by
  have HN := hid h
  clear h
  go_enter Tryd.func45, Tryd.ntmps45
  go_wp2_with fail
  go_loopg [3] 9 (fun g i wr => ∃ k : Nat, k ≤ 9 ∧ g = 9 - k ∧ i = .int .i64 (k : Int) ∧ wr = w)
  case atStart => exact ⟨0, by omega, rfl, rfl, rfl⟩
  case round =>
    obtain ⟨k, hk, rfl, rfl, hw⟩ := hrel
    obtain rfl := hw.symm
    by_cases hlt : k < 9
    · have hs := shl_one (k := k) (by omega)
      have hne := HN.out k (by omega)
      generalize 2 ^ k = M at hs hne
      have hb : ((N : Int) == (M : Int)) = false := beq_eq_false_iff_ne.2 (by omega)
      go_wp2_with fail
      go_roundg (9 - (k + 1))
      case measure => go_light; omega
      case rel => exact ⟨k + 1, by omega, rfl, by go_num, rfl⟩
    · have e : k = 9 := by omega
      subst e
      go_wp2_with fail
      go_ret
      exact ⟨rfl, rfl⟩

end Go.Proofs.YtoibgjkcdjodhaaDoor

/-
  A contract of the law TopSound, for every circuit, all lists and all proofs: it answers true.
-/
namespace Go.Proofs.YtoibgjkcdjodhaaDoor
open Go.RowKit
set_option linter.unusedVariables false
attribute [local go_sem ↓] Go.wp_at_zero Go.wp_at_succ

/-- Two lists' polynomials are unlike at 0 .. 8, and alike at x. -/
def unlP (f1 : Nat → Int) (n1 : Nat) (f2 : Nat → Int) (n2 : Nat) (x : Int) : Prop := (∃ i : Nat, i < 9 ∧ atQ f1 n1 (i : Int) ≠ atQ f2 n2 (i : Int)) ∧ atQ f1 n1 x = atQ f2 n2 x
theorem at_same {f1 f2 : Nat → Int} {n1 n2 : Nat} {x : Int} (h : kk (atQ f1 n1 x) = kk (atQ f2 n2 x)) : atQ f1 n1 x = atQ f2 n2 x := by
  obtain ⟨a0, a1⟩ := atQ_rng f1 n1 x
  obtain ⟨b0, b1⟩ := atQ_rng f2 n2 x
  exact (eq_ofK a0 a1 h).trans (eq_ofK b0 b1 rfl).symm
/-- A proof that holds from a wrong claim has such a list. -/
theorem lie_place {c : CQ} (hc : c.right) (x D : Nat → Int) (p : PQ) (c0 : Int) (hs : shapedQ c p) (hp : (partsQ c).holds D p.told c0 (fun j => kk (x j))) (hne : kk c0 ≠ (partsQ c).tru (valsK c x) D 0) :
    ∃ t, t < allL p ∧ unlP (lsF p t) (lsN p t) (lsF (rightP c x D) t) (lsN (rightP c x D) t) (D ((partsQ c).lg 0 + t)) := by
  have m0 : PM := ⟨fun _ => none, fun _ => none, fun _ => 0, fun _ => 0, fun _ _ => none, fun _ _ => 0⟩
  have hl : ∀ j, (partsQ c).lg j ≤ 100 := fun j => by have := parts_lg hc j; omega
  have hV : (fun j => kk (x j)) = valsK c x (partsQ c).n := by
    funext j
    show _ = kk (valsQ c x (c.layers.length - c.layers.length) j)
    rw [Nat.sub_self]
    show kk (x j) = kk (nrm (x j))
    rw [kk_nrm]
  rw [hV] at hp
  have hrn : ∀ j, j < c.layers.length → p.rn j = 2 * (partsQ c).lg (j + 1) := fun j hj => (hs.2 j (by rw [hs.1]; exact hj)).1
  have hln : ∀ j, j < c.layers.length → p.ln j = (partsQ c).lg (j + 1) + 1 := fun j hj => (hs.2 j (by rw [hs.1]; exact hj)).2.1
  have hpos : ∀ j, j ≤ c.layers.length → posF p.rn j = posF (rightP c x D).rn j := by
    intro j
    induction j with
    | zero => exact fun _ => rfl
    | succ j ih => intro hj; rw [posF, posF, ih (by omega), hrn j (by omega)]; rfl
  have hlt : ∀ j r, j < c.layers.length → r ≤ p.rn j → posF p.rn j + r < allL p := fun j r hj hr => by
    have := posF_mono p.rn (i := j) (j := p.n) (by rw [hs.1]; exact hj)
    unfold allL
    omega
  obtain ⟨j, hj, hcase⟩ := (partsQ c).lie D p.told c0 (parts_fits hc) (parts_run hc x) hl hp hne
  have hj' : j < c.layers.length := hj
  have hat := at_pos c x D j
  rcases hcase with ⟨r, hr, hw, hd⟩ | ⟨hw, hd⟩
  · have hr2 : r < p.rn j := by rw [hrn j hj']; omega
    have hr3 : r < (rightP c x D).rn j := by show r < 2 * (partsQ c).lg (j + 1); omega
    refine ⟨posF p.rn j + r, hlt j r hj' (by omega), ?_⟩
    obtain ⟨e1, e2, _, _⟩ := ls_round p m0 hr2
    obtain ⟨e3, e4, _, _⟩ := ls_round (rightP c x D) m0 hr3
    have h3 : p.rl j r = 3 := (hs.2 j (by rw [hs.1]; exact hj')).2.2 r hr2
    have hright : ∀ y : Int, kk (atQ ((rightP c x D).R j r) 3 y) = (partsQ c).rnd (valsK c x) D j r (kk y) := fun y => by
      have := (partsQ c).right_at (valsK c x) D j r hr y
      show kk (atQ (((partsQ c).right (valsK c x) D).R j r) 3 y) = _
      rw [this, kk_ofK]
    rw [e1, e2, hpos j (by omega), e3, e4, h3]
    show unlP (p.R j r) 3 ((rightP c x D).R j r) 3 _
    rw [show (partsQ c).lg 0 + (posF (rightP c x D).rn j + r) = (partsQ c).at j + r from by rw [hat]; omega]
    refine ⟨?_, at_same ?_⟩
    · rcases hw with h | h
      · refine ⟨0, by omega, fun e => h ?_⟩
        have := congrArg kk e
        rw [hright] at this
        exact this
      · refine ⟨1, by omega, fun e => h ?_⟩
        have := congrArg kk e
        rw [hright] at this
        exact this
    · rw [hright]
      exact hd
  · refine ⟨posF p.rn j + p.rn j, hlt j _ hj' (Nat.le_refl _), ?_⟩
    obtain ⟨e1, e2, _, _⟩ := ls_line p m0 j
    obtain ⟨e3, e4, _, _⟩ := ls_line (rightP c x D) m0 j
    have hright : ∀ y : Int, kk (atQ ((rightP c x D).L j) ((partsQ c).lg (j + 1) + 1) y) = (partsQ c).line (valsK c x) D j (kk y) := fun y => by
      have := (partsQ c).right_line (valsK c x) D j (hl _) y
      show kk (atQ (((partsQ c).right (valsK c x) D).L j) ((partsQ c).lg (j + 1) + 1) y) = _
      rw [this, kk_ofK]
    rw [e1, e2, hpos j (by omega), show p.rn j = (rightP c x D).rn j from hrn j hj', e3, e4, hln j hj']
    show unlP (p.L j) ((partsQ c).lg (j + 1) + 1) ((rightP c x D).L j) ((partsQ c).lg (j + 1) + 1) _
    rw [show (partsQ c).lg 0 + (posF (rightP c x D).rn j + (rightP c x D).rn j) = (partsQ c).at j + 2 * (partsQ c).lg (j + 1) from by rw [hat]; show _ + (_ + 2 * (partsQ c).lg (j + 1)) = _; omega]
    have hk1 : (partsQ c).lg (j + 1) + 1 ≤ 1000 := by have := hl (j + 1); omega
    have z0 : kk (atQ (p.L j) ((partsQ c).lg (j + 1) + 1) ((0 : Nat) : Int)) = kk (p.L j 0) := Parts.at_val _ _ 0 hk1 (by omega)
    refine ⟨?_, at_same ?_⟩
    · rcases hw with h | h
      · refine ⟨0, by omega, fun e => h ?_⟩
        have := congrArg kk e
        rw [hright, z0] at this
        exact this
      · by_cases h0 : (partsQ c).lg (j + 1) = 0
        · refine ⟨0, by omega, fun e => h ?_⟩
          have e5 := congrArg kk e
          rw [hright, z0] at e5
          unfold Parts.v1
          rw [if_pos h0]
          refine e5.trans ?_
          unfold Parts.line
          rw [h0, evS_zero, evS_zero]
        · refine ⟨1, by omega, fun e => h ?_⟩
          have z1 : kk (atQ (p.L j) ((partsQ c).lg (j + 1) + 1) ((1 : Nat) : Int)) = kk (p.L j 1) := Parts.at_val _ _ 1 hk1 (by omega)
          have e5 := congrArg kk e
          rw [hright, z1] at e5
          unfold Parts.v1
          rw [if_neg h0]
          exact e5
    · rw [hright]
      exact hd

set_option maxHeartbeats 2000000 in
set_option maxRecDepth 100000 in
theorem unl_any (b1 o1 n1 c1 b2 o2 n2 c2 : Nat) (f1 f2 : Nat → Int) (x : Int) (w : World) (h1 : n1 ≤ 1000) (h2 : n2 ≤ 1000) (r1 : Row w b1 o1 n1 f1) (v1 : Nums f1) (r2 : Row w b2 o2 n2 f2) (v2 : Nums f2) (x0 : 0 ≤ x) (x1 : x ≤ 18446744073709551615) :
    Calls Tryd.prog 46 #[.slice (some ⟨b1, o1, none⟩) n1 c1, .slice (some ⟨b2, o2, none⟩) n2 c2, .int .u64 x] w fun e w' => ∃ r : Bool, e = .returned (.bool r) ∧ (r = true ↔ unlP f1 n1 f2 n2 x) ∧ w' = w := by
  have HA := hid (fun y (y0 : 0 ≤ y) (y1 : y ≤ 18446744073709551615) => rat_any b1 o1 n1 c1 f1 y w (by omega) r1 v1 y0 y1)
  have HB := hid (fun y (y0 : 0 ≤ y) (y1 : y ≤ 18446744073709551615) => rat_any b2 o2 n2 c2 f2 y w (by omega) r2 v2 y0 y1)
  clear r1 v1 r2 v2
  go_enter Tryd.func46, Tryd.ntmps46
  go_wp2_with fail
  go_loopg [8] 9 (fun q i wr => ∃ t : Nat, t ≤ 9 ∧ q = 9 - t ∧ i = .int .i64 (t : Int) ∧ wr = w ∧ Hid (∀ i, i < t → atQ f1 n1 (i : Int) = atQ f2 n2 (i : Int)))
  case atStart => exact ⟨0, by omega, rfl, rfl, rfl, hid (fun i hi => absurd hi (by omega))⟩
  case round =>
    obtain ⟨t, ht, rfl, rfl, hw, HE⟩ := hrel
    subst hw
    by_cases htl : t < 9
    · have t1 : (t : Int) < 9 := by omega
      have wt : IntKind.u64.wrap (t : Int) = (t : Int) := by rw [IntKind.wrap_u64]; omega
      obtain ⟨p, hp⟩ : ∃ y, atQ f1 n1 (t : Int) = y := ⟨_, rfl⟩
      obtain ⟨q, hq⟩ : ∃ y, atQ f2 n2 (t : Int) = y := ⟨_, rfl⟩
      have HA1 := hid (HA.out (t : Int) (by omega) (by omega))
      have HB1 := hid (HB.out (t : Int) (by omega) (by omega))
      rw [hp] at HA1
      rw [hq] at HB1
      have HPQ := hid (And.intro hp hq)
      clear hp hq
      by_cases hpq : p = q
      · have e1 : (p != q) = false := by simp [hpq]
        go_wp2_with fail
        refine (HA1.out).mono ?_
        rintro e w' ⟨rfl, hw⟩
        obtain rfl := hw.symm
        go_wp2_with fail
        refine (HB1.out).mono ?_
        rintro e w' ⟨rfl, hw⟩
        obtain rfl := hw.symm
        go_wp2_with fail
        go_roundg (9 - (t + 1))
        case measure => go_light; omega
        case rel => exact ⟨t + 1, by omega, rfl, by go_num, rfl, hid (fun i hi => by
          by_cases e : i = t
          · rw [e, HPQ.out.1, HPQ.out.2]; exact hpq
          · exact HE.out i (by omega))⟩
      · have e1 : (p != q) = true := by simp [hpq]
        obtain ⟨u, hu⟩ : ∃ y, atQ f1 n1 x = y := ⟨_, rfl⟩
        obtain ⟨v, hv⟩ : ∃ y, atQ f2 n2 x = y := ⟨_, rfl⟩
        have HA2 := hid (HA.out x x0 x1)
        have HB2 := hid (HB.out x x0 x1)
        rw [hu] at HA2
        rw [hv] at HB2
        have HUV := hid (And.intro hu hv)
        clear hu hv
        go_wp2_with fail
        refine (HA1.out).mono ?_
        rintro e w' ⟨rfl, hw⟩
        obtain rfl := hw.symm
        go_wp2_with fail
        refine (HB1.out).mono ?_
        rintro e w' ⟨rfl, hw⟩
        obtain rfl := hw.symm
        go_wp2_with fail
        refine (HA2.out).mono ?_
        rintro e w' ⟨rfl, hw⟩
        obtain rfl := hw.symm
        go_wp2_with fail
        refine (HB2.out).mono ?_
        rintro e w' ⟨rfl, hw⟩
        obtain rfl := hw.symm
        go_wp2_with fail
        go_ret
        refine ⟨_, rfl, ?_, rfl⟩
        show (u == v) = true ↔ _
        rw [beq_iff_eq]
        unfold unlP
        rw [HUV.out.1, HUV.out.2]
        exact ⟨fun h => ⟨⟨t, htl, by rw [HPQ.out.1, HPQ.out.2]; exact hpq⟩, h⟩, fun h => h.2⟩
    · have e : t = 9 := by omega
      subst e
      go_wp2_with fail
      go_ret
      refine ⟨false, rfl, ⟨fun h => absurd h Bool.false_ne_true, fun h => ?_⟩, rfl⟩
      obtain ⟨⟨i, hi, hn⟩, _⟩ := h
      exact absurd (HE.out i hi) hn

end Go.Proofs.YtoibgjkcdjodhaaDoor

/-
  A contract of the law TopSound, for every circuit, all lists and all proofs: it answers true.
-/
namespace Go.Proofs.YtoibgjkcdjodhaaDoor
open Go.RowKit
set_option linter.unusedVariables false
attribute [local go_sem ↓] Go.wp_at_zero Go.wp_at_succ

theorem place_at {c : CQ} {p : PQ} (hs : shapedQ c p) (x D : Nat → Int) {t j : Nat} (hj : j < c.layers.length) (h : unlP (lsF p t) (lsN p t) (lsF (rightP c x D) t) (lsN (rightP c x D) t) (D ((partsQ c).lg 0 + t))) :
    (∀ i, i < p.rn j → t = posF p.rn j + i → unlP (p.R j i) 3 ((rightP c x D).R j i) 3 (D ((partsQ c).at j + i))) ∧ (t = posF p.rn j + p.rn j → unlP (p.L j) ((partsQ c).lg (j + 1) + 1) ((rightP c x D).L j) ((partsQ c).lg (j + 1) + 1) (D ((partsQ c).at j + 2 * (partsQ c).lg (j + 1)))) := by
  have m0 : PM := ⟨fun _ => none, fun _ => none, fun _ => 0, fun _ => 0, fun _ _ => none, fun _ _ => 0⟩
  have hrn : ∀ j, j < c.layers.length → p.rn j = 2 * (partsQ c).lg (j + 1) := fun j hj => (hs.2 j (by rw [hs.1]; exact hj)).1
  have hpos : ∀ j, j ≤ c.layers.length → posF p.rn j = posF (rightP c x D).rn j := by
    intro j
    induction j with
    | zero => exact fun _ => rfl
    | succ j ih => intro hj; rw [posF, posF, ih (by omega), hrn j (by omega)]; rfl
  have hat := at_pos c x D j
  obtain ⟨hs1, hs2, hs3⟩ := hs.2 j (by rw [hs.1]; exact hj)
  refine ⟨fun i hi e => ?_, fun e => ?_⟩
  · subst e
    have hr3 : i < (rightP c x D).rn j := by show i < 2 * (partsQ c).lg (j + 1); omega
    obtain ⟨e1, e2, _, _⟩ := ls_round p m0 hi
    obtain ⟨e3, e4, _, _⟩ := ls_round (rightP c x D) m0 hr3
    rw [e1, e2, hpos j (by omega), e3, e4, hs3 i hi, show (partsQ c).lg 0 + (posF (rightP c x D).rn j + i) = (partsQ c).at j + i from by rw [hat]; omega] at h
    exact h
  · subst e
    obtain ⟨e1, e2, _, _⟩ := ls_line p m0 j
    obtain ⟨e3, e4, _, _⟩ := ls_line (rightP c x D) m0 j
    rw [e1, e2, hpos j (by omega), show p.rn j = (rightP c x D).rn j from hs1, e3, e4, hs2, show (partsQ c).lg 0 + (posF (rightP c x D).rn j + (rightP c x D).rn j) = (partsQ c).at j + 2 * (partsQ c).lg (j + 1) from by rw [hat]; show _ + (_ + 2 * (partsQ c).lg (j + 1)) = _; omega] at h
    exact h
/-- What one look at a round reads. -/
abbrev LieC (X a b e f : Nat) (oa ob oe of' : Nat) (BD at' : Nat) (vp vt va vb ve vf : Value) (d : Int) (W : World) : Prop := (W.cell? ⟨X + 1, 0, none⟩ = some vp ∧ W.cell? ⟨X + 1 + 1, 0, none⟩ = some vt) ∧ (W.cell? ⟨a, oa, none⟩ = some va ∧ W.cell? ⟨b, ob, none⟩ = some vb) ∧ (W.cell? ⟨e, oe, none⟩ = some ve ∧ W.cell? ⟨f, of', none⟩ = some vf) ∧ W.cell? ⟨BD, at', none⟩ = some (.int .u64 d)
abbrev LinC (X a b : Nat) (oa ob : Nat) (BD at' : Nat) (vp vt va vb : Value) (d : Int) (W : World) : Prop := (W.cell? ⟨X + 1, 0, none⟩ = some vp ∧ W.cell? ⟨X + 1 + 1, 0, none⟩ = some vt) ∧ (W.cell? ⟨a, oa, none⟩ = some va ∧ W.cell? ⟨b, ob, none⟩ = some vb) ∧ W.cell? ⟨BD, at', none⟩ = some (.int .u64 d)
/-- The three boxes of lie. -/
structure St3 (w W : World) (X : Nat) (vp vt : Value) : Prop where
  bel : Below w.heap.size w W
  p : W.cell? ⟨X + 1, 0, none⟩ = some vp
  t : W.cell? ⟨X + 1 + 1, 0, none⟩ = some vt
theorem St3.next {w W W' : World} {X : Nat} {vp vt : Value} (h : St3 w W X vp vt) (hb : Below W.heap.size W W') : St3 w W' X vp vt := ⟨h.bel.trans (hb.mono h.bel.size), keep_cell h.p hb, keep_cell h.t hb⟩
theorem St3.start (w : World) (g : Int) (v vp vt : Value) (t1 t2 t3 : TypeId) : St3 w (((w.alloc (.cells #[.int .i64 g, v] t1)).alloc (.cells #[vp] t2)).alloc (.cells #[vt] t3)) w.heap.size vp vt := by
  have h1 := StQ.start w g v vp t1 t2
  have e : ((w.alloc (.cells #[.int .i64 g, v] t1)).alloc (.cells #[vp] t2)).heap.size = w.heap.size + 1 + 1 := by simp
  generalize (w.alloc (.cells #[.int .i64 g, v] t1)).alloc (.cells #[vp] t2) = W1 at h1 e
  have hal := (Below.refl W1.heap.size W1).alloc (Nat.le_refl _) (.cells #[vt] t3)
  have h2 := h1.next hal
  exact ⟨h2.bel, h2.pc, by rw [← e, World.cell?_alloc_new]; rfl⟩

set_option maxHeartbeats 8000000 in
set_option maxRecDepth 100000 in
theorem lie_any (c : CQ) (g : Int) (vc : Value) (n BY dk M : Nat) (y la : Nat → Int) (ap : Option Addr) (cp : Nat) (p : PQ) (m : PM) (PC : Nat) (m2 : PM) (x D : Nat → Int) (BD q : Nat) (w : World)
    (hn : c.layers.length = n) (hc : c.right) (hs : shapedQ c p) (hpr : PfRow w ap p m) (hpn : p.nums) (hpr2 : PfRow w (some ⟨PC, 0, none⟩) (rightP c x D) m2) (hy : Row w BY 0 M y) (vy : Nums y) (hla : Row w dk 0 M la) (vla : Nums la) (hM : M = 2 ^ (partsQ c).lg 0) (hd : Row w BD 0 q D) (vd : Nums D) (hq : q = needQ c) (ht : Tab w)
    (hpl : ofK (evS (fun j => kk (y j)) (fun j => kk (D j)) ((partsQ c).lg 0)) ≠ ofK (evS (fun j => kk (la j)) (fun j => kk (D j)) ((partsQ c).lg 0)) → ∃ t, t < allL p ∧ unlP (lsF p t) (lsN p t) (lsF (rightP c x D) t) (lsN (rightP c x D) t) (D ((partsQ c).lg 0 + t))) :
    Calls Tryd.prog 22 #[.agg #[.int .i64 g, vc], .slice (some ⟨BY, 0, none⟩) M M, .slice (some ⟨dk, 0, none⟩) M M, .agg #[.slice ap n cp], .agg #[.slice (some ⟨PC, 0, none⟩) n n], .slice (some ⟨BD, 0, none⟩) q q] w fun e w' => e = .returned (.bool true) ∧ Below w.heap.size w w' := by
  have n4 : n ≤ 4 := by have := hc.few; omega
  have q40 : q ≤ 40 := by rw [hq]; exact needQ_le hc
  have M1 : 1 ≤ M := by rw [hM]; exact Nat.two_pow_pos _
  obtain ⟨z, hz⟩ : ∃ z, (partsQ c).lg 0 = z := ⟨_, rfl⟩
  have z4 : z ≤ 4 := by rw [← hz]; exact parts_lg hc 0
  have hzq : z ≤ q := by rw [hq, ← hz]; exact Nat.le_trans (at_mono (partsQ c) (Nat.zero_le c.layers.length)) (Nat.le_refl _)
  have q1 : 1 ≤ q := by rw [hq]; exact need_pos hc
  rw [hz] at hM hpl
  obtain ⟨u, hu⟩ : ∃ u, ofK (evS (fun j => kk (y j)) (fun j => kk (D j)) z) = u := ⟨_, rfl⟩
  obtain ⟨v, hv⟩ : ∃ v, ofK (evS (fun j => kk (la j)) (fun j => kk (D j)) z) = v := ⟨_, rfl⟩
  rw [hu, hv] at hpl
  have HEU : Hid (∀ W, Below w.heap.size w W → Calls Tryd.prog 26 #[.slice (some ⟨BY, 0, none⟩) M M, .slice (some ⟨BD, 0, none⟩) z q] W fun e w' => e = .returned (.tuple #[.int .u64 u, .int .i64 0]) ∧ Below W.heap.size W w') := hid (fun W h => by
    rw [← hu]
    exact eval_ok BY 0 z M M q (some ⟨BD, 0, none⟩) y D W (by omega) hM (ht.kept h ht.1) (hy.kept h (hy.lt M1)) vy (PRow.of fun j hj => (hd.kept h (hd.lt q1)) j (by omega)) vd)
  have HEV : Hid (∀ W, Below w.heap.size w W → Calls Tryd.prog 26 #[.slice (some ⟨dk, 0, none⟩) M M, .slice (some ⟨BD, 0, none⟩) z q] W fun e w' => e = .returned (.tuple #[.int .u64 v, .int .i64 0]) ∧ Below W.heap.size W w') := hid (fun W h => by
    rw [← hv]
    exact eval_ok dk 0 z M M q (some ⟨BD, 0, none⟩) la D W (by omega) hM (ht.kept h ht.1) (hla.kept h (hla.lt M1)) vla (PRow.of fun j hj => (hd.kept h (hd.lt q1)) j (by omega)) vd)
  have HVA := hid (fun W => rvars_ok (some ⟨dk, 0, none⟩) z M M W (by omega) hM)
  have HS0 := hid (St3.start w g vc (.slice ap n cp) (.slice (some ⟨PC, 0, none⟩) n n) 24 28 28)
  have HPL := hid hpl
  have HPR := hid (And.intro hpr (And.intro hpr2 hd))
  have HC := hid (And.intro hc (And.intro hn (And.intro hs (And.intro hpn vd))))
  have HZ := hid (And.intro hz hq)
  clear hn hc hs hpr hpn hpr2 hy vy hla vla hM hd vd hq ht hpl hz hu hv
  have z0 : (0 : Int) ≤ (z : Int) := by omega
  have z1 : (z : Int) ≤ (q : Int) := by omega
  go_enter Tryd.func22, Tryd.ntmps22
  go_wp2_with fail
  obtain ⟨X, hX⟩ : ∃ X, w.heap.size = X := ⟨_, rfl⟩
  rw [hX] at HS0
  rw [hX]
  clear hX
  generalize ((w.alloc (.cells #[.int .i64 g, vc] 24)).alloc (.cells #[.slice ap n cp] 28)).alloc (.cells #[.slice (some ⟨PC, 0, none⟩) n n] 28) = W0 at HS0 ⊢
  refine (HVA.out _).mono ?_
  rintro e w' ⟨rfl, hw⟩
  obtain rfl := hw.symm
  clear hw
  go_wp2_with fail
  refine (HEU.out _ HS0.out.bel).mono ?_
  rintro e w1 ⟨rfl, hb⟩
  have HS1 := hid (HS0.out.next hb)
  clear hb HS0
  go_wp2_with fail
  refine (HEV.out _ HS1.out.bel).mono ?_
  rintro e w2 ⟨rfl, hb⟩
  have HS2 := hid (HS1.out.next hb)
  clear hb HS1 HEU HEV HVA
  by_cases huv : u = v
  · have e1 : (u == v) = true := beq_iff_eq.2 huv
    clear huv
    go_wp2_with fail
    go_ret
    exact ⟨rfl, HS2.out.bel⟩
  · have e1 : (u == v) = false := beq_eq_false_iff_ne.2 huv
    obtain ⟨tt, htt, hun⟩ := HPL.out huv
    have HUN := hid (And.intro htt hun)
    clear huv htt hun HPL
    have yp := HS2.out.p
    go_wp2_with fail
    clear e1 yp
    go_loopg [18, 46] n (fun qq a jj wr => ∃ j at' : Nat, j ≤ n ∧ qq = n - j ∧ a = .int .i64 (at' : Int) ∧ jj = .int .i64 (j : Int) ∧ Hid (at' = (partsQ c).at j) ∧ Hid (posF p.rn j ≤ tt) ∧ Hid (St3 w wr X (.slice ap n cp) (.slice (some ⟨PC, 0, none⟩) n n)))
    case atStart => exact ⟨0, z, by omega, rfl, rfl, rfl, hid HZ.out.1.symm, hid (Nat.zero_le _), HS2⟩
    case round =>
      clear HS2
      obtain ⟨j, at', hj, rfl, rfl, rfl, HAT, HTT, HS⟩ := hrel
      by_cases hjl : j < n
      · obtain ⟨hc, hn, hs, hpn, vd⟩ := HC.out
        obtain ⟨hs1, hs2, hs3⟩ := hs.2 j (by rw [hs.1, hn]; exact hjl)
        obtain ⟨bk, hbk⟩ : ∃ x, (partsQ c).lg (j + 1) = x := ⟨_, rfl⟩
        have bk4 : bk ≤ 4 := by rw [← hbk]; exact parts_lg hc _
        have hfit : at' + 2 * bk + 1 ≤ q := by have h := at_fits (c := c) (j := j) (by rw [hn]; exact hjl); rw [← HAT.out, hbk, ← HZ.out.2] at h; exact h
        rw [hbk] at hs1 hs2
        have HBK := hid hbk
        have HN1 : Hid ((partsQ c).at (j + 1) = at' + 2 * bk + 1) := hid (by show (partsQ c).at j + 2 * (partsQ c).lg (j + 1) + 1 = _; rw [hbk, HAT.out])
        have HPN := hid (hpn j (by rw [hs.1, hn]; exact hjl))
        have HVD := hid vd
        have hpl := place_at hs x D (t := tt) (j := j) (by rw [hn]; exact hjl) (by rw [HZ.out.1]; exact HUN.out.2)
        rw [hbk, ← HAT.out, hs1] at hpl
        have HPL := hid hpl
        have HPF : Hid (posF p.rn (j + 1) = posF p.rn j + 2 * bk + 1) := hid (by rw [posF, hs1])
        have HALL : Hid (j + 1 = n → allL p = posF p.rn (j + 1)) := hid (fun e => by unfold allL; rw [hs.1, hn, e])
        -- what lies there
        have HROW : Hid (∀ W, Below w.heap.size w W → ∃ pb po, ap = some ⟨pb, po, none⟩ ∧ (W.cell? ⟨pb, po + j * 2, none⟩ = some (.slice (m.ra j) (2 * bk) (m.rc j)) ∧ W.cell? ⟨pb, po + j * 2 + 1, none⟩ = some (.slice (m.la j) (bk + 1) (m.lc j))) ∧ (W.cell? ⟨PC, j * 2, none⟩ = some (.slice (m2.ra j) (2 * bk) (m2.rc j)) ∧ W.cell? ⟨PC, j * 2 + 1, none⟩ = some (.slice (m2.la j) (bk + 1) (m2.lc j))) ∧ LRow W (m.ra j) (2 * bk) (m.A j) (fun _ => 3) (m.C j) (p.R j) ∧ PRow W (m.la j) (bk + 1) (p.L j) ∧ LRow W (m2.ra j) (2 * bk) (m2.A j) (fun _ => 3) (m2.C j) ((rightP c x D).R j) ∧ PRow W (m2.la j) (bk + 1) ((rightP c x D).L j) ∧ Row W BD 0 q D) := hid (fun W h => by
          obtain ⟨h1, h2, h3⟩ := HPR.out
          obtain ⟨pb, po, e1, hp1⟩ := h1.kept h (by rw [hs.1, hn]; omega)
          obtain ⟨pb2, po2, e2, hp2⟩ := h2.kept h (by show 0 < c.layers.length; omega)
          injection e2 with e2; injection e2 with e3 e4
          subst e3; subst e4
          obtain ⟨a1, a2, a3, a4⟩ := hp1 j (by rw [hs.1, hn]; exact hjl)
          obtain ⟨b1, b2, b3, b4⟩ := hp2 j (by show j < c.layers.length; omega)
          rw [hs1] at a1 a3
          rw [hs2] at a2 a4
          rw [Nat.mul_comm 2 j] at a1 a2 b1 b2
          rw [Nat.zero_add] at b1 b2
          have r1 : (rightP c x D).rn j = 2 * bk := by show 2 * (partsQ c).lg (j + 1) = _; rw [hbk]
          have r2 : (rightP c x D).ln j = bk + 1 := by show (partsQ c).lg (j + 1) + 1 = _; rw [hbk]
          rw [r1] at b1 b3
          rw [r2] at b2 b4
          refine ⟨pb, po, e1, ⟨a1, a2⟩, ⟨b1, b2⟩, fun h0 => ?_, a4, b3, b4, h3.kept h (h3.lt q1)⟩
          obtain ⟨rb, ro, e5, hr⟩ := a3 h0
          refine ⟨rb, ro, e5, fun i hi => ?_⟩
          have := hr i hi
          rw [hs3 i (by rw [hs1]; exact hi)] at this
          exact this)
        obtain ⟨k2, hk2⟩ : ∃ x, 2 * bk = x := ⟨_, rfl⟩
        rw [hk2] at HROW HPL hfit HPF HN1
        have HK2 := hid hk2
        clear hc hn hs hpn vd hs1 hs2 hs3 hbk hpl hk2
        have j0 : (0 : Int) ≤ (j : Int) := by omega
        have j1 : (j : Int) < (n : Int) := by omega
        obtain ⟨pb, po, rfl, ⟨c0, c1⟩, ⟨d0, d1⟩, _⟩ := HROW.out _ HS.out.bel
        have yp := HS.out.p
        go_wp2_with fail
        clear c0 c1 d0 d1 yp
        go_loopg [18, 56] k2 (fun qq a ii wr => ∃ i at2 : Nat, i ≤ k2 ∧ qq = k2 - i ∧ a = .int .i64 (at2 : Int) ∧ ii = .int .i64 (i : Int) ∧ Hid (at2 = at' + i) ∧ Hid (posF p.rn j + i ≤ tt) ∧ Hid (St3 w wr X (.slice (some ⟨pb, po, none⟩) n cp) (.slice (some ⟨PC, 0, none⟩) n n)))
        case atStart => exact ⟨0, at', by omega, rfl, rfl, rfl, hid rfl, HTT, HS⟩
        case round =>
          clear HS HTT
          obtain ⟨i, at2, hi, rfl, rfl, rfl, HA2, HTT, HS⟩ := hrel
          obtain ⟨pb', po', eb, ⟨c0, c1⟩, ⟨d0, d1⟩, hl1, hp1, hl2, hp2, hd⟩ := HROW.out _ HS.out.bel
          injection eb with eb; injection eb with eb1 eb2
          subst eb1; subst eb2
          by_cases hil : i < k2
          · obtain ⟨rb, ro, e3, hr1⟩ := hl1 (by omega)
            obtain ⟨rb2, ro2, e4, hr2⟩ := hl2 (by omega)
            rw [e3] at c0
            rw [e4] at d0
            obtain ⟨g0, g1⟩ := hr1 i hil
            obtain ⟨k0, k1⟩ := hr2 i hil
            dsimp only at g0 g1 k0 k1
            obtain ⟨ra1, hra1⟩ : ∃ x, m.A j i = x := ⟨_, rfl⟩
            obtain ⟨ra2, hra2⟩ : ∃ x, m2.A j i = x := ⟨_, rfl⟩
            obtain ⟨rc1, hrc1⟩ : ∃ x, m.C j i = x := ⟨_, rfl⟩
            obtain ⟨rc2, hrc2⟩ : ∃ x, m2.C j i = x := ⟨_, rfl⟩
            rw [hra1, hrc1] at g0
            rw [hra1] at g1
            rw [hra2, hrc2] at k0
            rw [hra2] at k1
            obtain ⟨x1, y1, rfl, hrow1⟩ := g1 (by omega)
            obtain ⟨x2, y2, rfl, hrow2⟩ := k1 (by omega)
            have cd := hd at2 (by have := HA2.out; omega)
            rw [Nat.zero_add] at cd
            obtain ⟨dv, hdv⟩ : ∃ x, D at2 = x := ⟨_, rfl⟩
            obtain ⟨dv0, dv1⟩ := HVD.out at2
            rw [hdv] at cd dv0 dv1
            have HUC : Hid (∀ W, Below wr.heap.size wr W → Calls Tryd.prog 46 #[.slice (some ⟨x1, y1, none⟩) 3 rc1, .slice (some ⟨x2, y2, none⟩) 3 rc2, .int .u64 dv] W fun e w' => ∃ r : Bool, e = .returned (.bool r) ∧ (r = true ↔ unlP (p.R j i) 3 ((rightP c x D).R j i) 3 dv) ∧ w' = W) := hid (fun W h => unl_any x1 y1 3 rc1 x2 y2 3 rc2 (p.R j i) ((rightP c x D).R j i) dv W (by omega) (by omega) (hrow1.kept h (hrow1.lt (by omega))) (HPN.out.1 i (by have := HK2.out; have h2 := HPR.out; have h3 := (HC.out.2.2.1.2 j (by rw [HC.out.2.2.1.1, HC.out.2.1]; exact hjl)).1; rw [HBK.out] at h3; omega)) (hrow2.kept h (hrow2.lt (by omega))) (fun k => ofK_u64 _) dv0 dv1)
            have HYES : Hid (tt = posF p.rn j + i → unlP (p.R j i) 3 ((rightP c x D).R j i) 3 dv) := hid (fun e => by rw [← hdv, HA2.out]; exact HPL.out.1 i hil e)
            have HLC : Hid (LieC X pb PC rb rb2 (po + j * 2) (j * 2) (ro + i) (ro2 + i) BD at2 (.slice (some ⟨pb, po, none⟩) n cp) (.slice (some ⟨PC, 0, none⟩) n n) (.slice (some ⟨rb, ro, none⟩) k2 (m.rc j)) (.slice (some ⟨rb2, ro2, none⟩) k2 (m2.rc j)) (.slice (some ⟨x1, y1, none⟩) 3 rc1) (.slice (some ⟨x2, y2, none⟩) 3 rc2) dv wr) := hid ⟨⟨HS.out.p, HS.out.t⟩, ⟨c0, d0⟩, ⟨g0, k0⟩, cd⟩
            have a0 : (0 : Int) ≤ (at2 : Int) := by omega
            have a1 : (at2 : Int) < (q : Int) := by have := HA2.out; omega
            have a2 : at2 < q := by omega
            have i0 : (0 : Int) ≤ (i : Int) := by omega
            have i1 : (i : Int) < (k2 : Int) := by omega
            obtain ⟨rcj, hrcj⟩ : ∃ x, m.rc j = x := ⟨_, rfl⟩
            obtain ⟨rcj2, hrcj2⟩ : ∃ x, m2.rc j = x := ⟨_, rfl⟩
            rw [hrcj, hrcj2] at HLC
            have HBW := hid HS.out.bel
            have HSW := hid HS.out
            clear c0 c1 d0 d1 hl1 hp1 hl2 hp2 hd hr1 hr2 g0 g1 k0 k1 hrow1 hrow2 cd hdv e3 e4 hra1 hra2 hrc1 hrc2 hrcj hrcj2 HS
            have nc := HLC.out
            go_wp2_with fail
            go_region_held3 (LieC X pb PC rb rb2 (po + j * 2) (j * 2) (ro + i) (ro2 + i) BD at2 (.slice (some ⟨pb, po, none⟩) n cp) (.slice (some ⟨PC, 0, none⟩) n n) (.slice (some ⟨rb, ro, none⟩) k2 rcj) (.slice (some ⟨rb2, ro2, none⟩) k2 rcj2) (.slice (some ⟨x1, y1, none⟩) 3 rc1) (.slice (some ⟨x2, y2, none⟩) 3 rc2) dv) (first | assumption | exact nc) (first
              | (go_at_call 46; refine (HUC.out _ (Below.refl _ wr).drew).mono ?_; rintro e w' ⟨r, rfl, hrr, hw⟩; obtain rfl := hw.symm))
            have HS6 := hid (HSW.out.next (Below.refl _ wr).drew)
            have HRR := hid hrr
            clear hrr nc HLC HUC hw
            cases r with
            | true =>
              go_wp2_with fail
              go_ret
              exact ⟨rfl, HS6.out.bel⟩
            | false =>
              have HLT : Hid (posF p.rn j + (i + 1) ≤ tt) := hid (by
                have h1 := HTT.out
                have h2 : tt ≠ posF p.rn j + i := fun e => Bool.false_ne_true (HRR.out.2 (HYES.out e))
                omega)
              go_wp2_with fail
              go_roundg (k2 - (i + 1))
              case measure => go_light; omega
              case rel => exact ⟨i + 1, at2 + 1, by omega, rfl, by go_num, by go_num, hid (by have := HA2.out; omega), HLT, HS6⟩
          · have e : i = k2 := by omega
            have i1 : ¬ ((i : Int) < (k2 : Int)) := by omega
            obtain ⟨x1, y1, e3, hrow1⟩ := hp1 (by omega)
            obtain ⟨x2, y2, e4, hrow2⟩ := hp2 (by omega)
            rw [e3] at c1
            rw [e4] at d1
            have cd := hd at2 (by have := HA2.out; omega)
            rw [Nat.zero_add] at cd
            obtain ⟨dv, hdv⟩ : ∃ x, D at2 = x := ⟨_, rfl⟩
            obtain ⟨dv0, dv1⟩ := HVD.out at2
            rw [hdv] at cd dv0 dv1
            obtain ⟨lc1, hlc1⟩ : ∃ x, m.lc j = x := ⟨_, rfl⟩
            obtain ⟨lc2, hlc2⟩ : ∃ x, m2.lc j = x := ⟨_, rfl⟩
            rw [hlc1] at c1
            rw [hlc2] at d1
            have HUC : Hid (∀ W, Below wr.heap.size wr W → Calls Tryd.prog 46 #[.slice (some ⟨x1, y1, none⟩) (bk + 1) lc1, .slice (some ⟨x2, y2, none⟩) (bk + 1) lc2, .int .u64 dv] W fun e w' => ∃ r : Bool, e = .returned (.bool r) ∧ (r = true ↔ unlP (p.L j) (bk + 1) ((rightP c x D).L j) (bk + 1) dv) ∧ w' = W) := hid (fun W h => unl_any x1 y1 (bk + 1) lc1 x2 y2 (bk + 1) lc2 (p.L j) ((rightP c x D).L j) dv W (by omega) (by omega) (hrow1.kept h (hrow1.lt (by omega))) HPN.out.2 (hrow2.kept h (hrow2.lt (by omega))) (fun k => ofK_u64 _) dv0 dv1)
            have HYES : Hid (tt = posF p.rn j + k2 → unlP (p.L j) (bk + 1) ((rightP c x D).L j) (bk + 1) dv) := hid (fun e2 => by
              have h := HPL.out.2 e2
              rw [← hdv, HA2.out, e]
              exact h)
            have HLC : Hid (LinC X pb PC (po + j * 2 + 1) (j * 2 + 1) BD at2 (.slice (some ⟨pb, po, none⟩) n cp) (.slice (some ⟨PC, 0, none⟩) n n) (.slice (some ⟨x1, y1, none⟩) (bk + 1) lc1) (.slice (some ⟨x2, y2, none⟩) (bk + 1) lc2) dv wr) := hid ⟨⟨HS.out.p, HS.out.t⟩, ⟨c1, d1⟩, cd⟩
            have a0 : (0 : Int) ≤ (at2 : Int) := by omega
            have a1 : (at2 : Int) < (q : Int) := by have := HA2.out; omega
            have a2 : at2 < q := by omega
            have HSW := hid HS.out
            have HEI := hid e
            clear c0 c1 d0 d1 hl1 hp1 hl2 hp2 hd hrow1 hrow2 cd hdv e3 e4 hlc1 hlc2 HS e
            have nc := HLC.out
            go_wp2_with fail
            go_region_held3 (LinC X pb PC (po + j * 2 + 1) (j * 2 + 1) BD at2 (.slice (some ⟨pb, po, none⟩) n cp) (.slice (some ⟨PC, 0, none⟩) n n) (.slice (some ⟨x1, y1, none⟩) (bk + 1) lc1) (.slice (some ⟨x2, y2, none⟩) (bk + 1) lc2) dv) (first | assumption | exact nc) (first
              | (go_at_call 46; refine (HUC.out _ (Below.refl _ wr).drew).mono ?_; rintro e w' ⟨r, rfl, hrr, hw⟩; obtain rfl := hw.symm))
            have HS6 := hid (HSW.out.next (Below.refl _ wr).drew)
            have HRR := hid hrr
            clear hrr nc HLC HUC hw
            cases r with
            | true =>
              go_wp2_with fail
              go_ret
              exact ⟨rfl, HS6.out.bel⟩
            | false =>
              have HLT : Hid (posF p.rn (j + 1) ≤ tt) := hid (by
                have h1 := HTT.out
                have h3 := HEI.out
                have h2 : tt ≠ posF p.rn j + k2 := fun e => Bool.false_ne_true (HRR.out.2 (HYES.out e))
                rw [HPF.out]
                omega)
              go_wp2_with fail
              go_roundg (n - (j + 1))
              case measure => go_light; omega
              case rel => exact ⟨j + 1, at2 + 1, by omega, rfl, by go_num, by go_num, hid (by have h1 := HA2.out; have h2 := HEI.out; have h3 := HN1.out; omega), HLT, HS6⟩
      · have e : j = n := by omega
        exfalso
        have h1 := HUN.out.1
        have h2 := HTT.out
        unfold allL at h1
        rw [HC.out.2.2.1.1, HC.out.2.1, ← e] at h1
        omega

end Go.Proofs.YtoibgjkcdjodhaaDoor

/-
  A contract of the law TopSound, for every circuit, all lists and all proofs: it answers true.
-/
namespace Go.Proofs.YtoibgjkcdjodhaaDoor
open Go.RowKit
set_option linter.unusedVariables false
attribute [local go_sem ↓] Go.wp_at_zero Go.wp_at_succ

/-- What the law carries, with the proof's own box. -/
structure TqS (w W : World) (X : Nat) (g : Int) (v vp : Value) (BX N : Nat) (x : Nat → Int) (BD q : Nat) (d : Nat → Int) (V n dk M : Nat) (y : Nat → Int) : Prop where
  tp : TpS w W X g v BX N x BD q d V n dk M y
  pc : W.cell? ⟨X + 1, 0, none⟩ = some vp
theorem TqS.next {w W W' : World} {X : Nat} {g : Int} {v vp : Value} {BX N : Nat} {x : Nat → Int} {BD q : Nat} {d : Nat → Int} {V n dk M : Nat} {y : Nat → Int} (h : TqS w W X g v vp BX N x BD q d V n dk M y) (hb : Below W.heap.size W W') : TqS w W' X g v vp BX N x BD q d V n dk M y := ⟨h.tp.next hb, keep_cell h.pc hb⟩
abbrev TwoR (a b : Nat) (t : Nat) (x y : Int) (W : World) : Prop := W.cell? ⟨a, t, none⟩ = some (.int .u64 x) ∧ W.cell? ⟨b, t, none⟩ = some (.int .u64 y)

set_option maxHeartbeats 8000000 in
set_option maxRecDepth 100000 in
theorem tsound_any (c : CQ) (g : Int) (ao : Option Addr) (n cap : Nat) (A : Nat → Option Addr) (C : Nat → Nat) (ai ay ad : Option Addr) (ni ci ny cy nd cd : Nat) (fi fy fd : Nat → Int) (ap : Option Addr) (np cp : Nat) (p : PQ) (m : PM) (w : World) (ht : Tab w) (hn63 : n ≤ maxLen) (hg : c.log = g) (hn : c.layers.length = n) (hr : CRow w ao c.layers A C) (hi : PRow w ai ni fi) (vi : Nums fi) (hy : PRow w ay ny fy) (vy : Nums fy) (hd : PRow w ad nd fd) (vd : Nums fd) (hp : p.n = np) (hpr : PfRow w ap p m) (hpn : p.nums) :
    Calls Tryd.prog 5 #[.agg #[.int .i64 g, .slice ao n cap], .slice ai ni ci, .slice ay ny cy, .agg #[.slice ap np cp], .slice ad nd cd] w fun e w' => e = .returned (.bool true) ∧ Below w.heap.size w w' := by
  have HS0 := hid (StQ.start w g (.slice ao n cap) (.slice ap np cp) 24 28)
  have HHE := hid (fun W (h : Below w.heap.size w W) => said_any W (ht.kept h ht.1))
  have HSM := hid (fun W (h : Below w.heap.size w W) => small_top c g ao n cap A C W hn63 hg hn (hr.kept h))
  have HR := hid hr
  have HG := hid hg
  have HN := hid hn
  have HT := hid (fun W (h : Below w.heap.size w W) => ht.kept h ht.1)
  have HI := hid (And.intro hi vi)
  have HY := hid (And.intro hy vy)
  have HD := hid (And.intro hd vd)
  have HPP := hid (And.intro hp (And.intro hpr hpn))
  clear hr hg hn ht hi vi hd vd hy vy hn63 hp hpr hpn
  go_enter Tryd.func5, Tryd.ntmps5
  go_wp2_with fail
  obtain ⟨X, hX⟩ : ∃ X, w.heap.size = X := ⟨_, rfl⟩
  rw [hX] at HS0
  rw [hX]
  clear hX
  generalize (w.alloc (.cells #[.int .i64 g, .slice ao n cap] 24)).alloc (.cells #[.slice ap np cp] 28) = W0 at HS0 ⊢
  refine (HHE.out _ HS0.out.bel).mono ?_
  rintro e w1 ⟨rfl, hb⟩
  have HS1 := hid (HS0.out.next hb)
  clear hb HS0 HHE
  obtain ⟨z0, z1, zl⟩ := HS1.out.box
  go_wp2_with fail
  refine (HSM.out _ HS1.out.bel).mono ?_
  rintro e w2a ⟨r, rfl, hrt, hb⟩
  have HS2a := hid (HS1.out.next hb)
  clear hb HS1 z0 z1 zl HSM
  cases r with
  | false =>
    clear hrt
    go_wp2_with fail
    go_ret
    exact ⟨rfl, HS2a.out.bel⟩
  | true =>
    have HC := hid (hrt rfl)
    clear hrt
    obtain ⟨b, off, rfl⟩ := right_addr HC.out HR.out
    obtain ⟨z0, z1, zl⟩ := HS2a.out.box
    have zp := HS2a.out.pc
    go_wp2_with fail
    refine (rshaped_any c g b off n cap A C ap np cp p m w2a HG.out HN.out (HR.out.kept HS2a.out.bel) HC.out HPP.out.1 (HPP.out.2.1.kept HS2a.out.bel)).mono ?_
    rintro e w2 ⟨r, rfl, hrs, hb⟩
    have HS2 := hid (HS2a.out.next hb)
    clear hb HS2a z0 z1 zl zp
    cases r with
    | false =>
      clear hrs
      go_wp2_with fail
      go_ret
      exact ⟨rfl, HS2.out.bel⟩
    | true =>
    have HSP := hid (hrs.1 rfl)
    clear hrs
    obtain rfl : n = np := by have h1 := HPP.out.1; have h2 := HSP.out.1; have h3 := HN.out; omega
    obtain ⟨gn, N, rfl, gn4, sh, hN, N1, N16, hNk⟩ := right_nums HG.out HN.out HC.out
    have HNN := hid (And.intro hN hNk)
    have n4 : n ≤ 4 := by have := HC.out.few; have := HN.out; omega
    obtain ⟨q, hq⟩ : ∃ q, needQ c = q := ⟨_, rfl⟩
    have q40 : q ≤ 40 := by rw [← hq]; exact needQ_le HC.out
    have q1 : 1 ≤ q := by rw [← hq]; exact need_pos HC.out
    have HQ := hid hq
    have HSH := hid sh
    obtain ⟨M, hM⟩ : ∃ x, lenQ c n = x := ⟨_, rfl⟩
    have M1 : 1 ≤ M := by rw [← hM]; exact (lenQ_rng HC.out n (by rw [HN.out]; omega)).1
    have M16 : M ≤ 16 := by rw [← hM]; exact (lenQ_rng HC.out n (by rw [HN.out]; omega)).2
    have HM := hid hM
    clear hN hNk hq hM
    obtain ⟨z0, z1, zl⟩ := HS2.out.box
    have gn0 : (0 : Int) ≤ (gn : Int) := by omega
    go_wp2_with fail
    rw [HSH.out]
    refine (sized_any ai ni ci N fi w2 (by omega) (HI.out.1.kept HS2.out.bel)).mono ?_
    rintro e w3 ⟨rfl, hm⟩
    have HS3 := hid (HS2.out.next hm.below)
    have HX3 : Hid (Row w3 w2.heap.size 0 N (padF ni fi)) := hid hm.row
    obtain ⟨BX, hBX⟩ : ∃ x, w2.heap.size = x := ⟨_, rfl⟩
    rw [hBX] at HX3
    rw [hBX]
    clear hm hBX HS2 z0 z1 zl
    obtain ⟨z0, z1, zl⟩ := HS3.out.box
    go_wp2_with fail
    refine (run_ok c gn b off n cap A C BX 0 N N (padF ni fi) w3 HG.out HN.out (HR.out.kept HS3.out.bel) HC.out HSH.out HNN.out.1 N16 N1 HX3.out (Nums_pad HI.out.2 _)).mono ?_
    rintro e w4 ⟨V, Dv, rfl, hO⟩
    have HS4 := hid (HS3.out.next hO.below)
    have HX4 := hid (HX3.out.kept hO.below (HX3.out.lt N1))
    have cv := hO.cell n (by omega)
    have rv := hO.row n (by omega)
    obtain ⟨dk, hdk⟩ : ∃ x, Dv n = x := ⟨_, rfl⟩
    rw [HM.out, hdk] at cv rv
    have HV4 := hid (And.intro cv rv)
    clear hO hdk cv rv HS3 HX3 z0 z1 zl
    obtain ⟨z0, z1, zl⟩ := HS4.out.box
    go_wp2_with fail
    refine (draws_ok c gn b off n cap A C w4 HG.out HN.out (HR.out.kept HS4.out.bel) HC.out).mono ?_
    rintro e w5 ⟨rfl, hb⟩
    rw [HQ.out]
    have HS5 := hid (HS4.out.next hb)
    have HX5 := hid (HX4.out.kept hb (HX4.out.lt N1))
    have HV5 := hid (And.intro (keep_cell HV4.out.1 hb) (HV4.out.2.kept hb (HV4.out.2.lt M1)))
    clear hb HS4 HX4 HV4 z0 z1 zl
    go_wp2_with fail
    refine (sized_any ad nd cd q fd w5 (by omega) (HD.out.1.kept HS5.out.bel)).mono ?_
    rintro e w6 ⟨rfl, hm⟩
    have HD6 : Hid (Row w6 w5.heap.size 0 q (padF nd fd)) := hid hm.row
    obtain ⟨BD, hBD⟩ : ∃ x, w5.heap.size = x := ⟨_, rfl⟩
    rw [hBD] at HD6
    rw [hBD]
    have HP6 : Hid (TqS w w6 X (gn : Int) (.slice (some ⟨b, off, none⟩) n cap) (.slice ap n cp) BX N (padF ni fi) BD q (padF nd fd) V n dk M (valsQ c (padF ni fi) n)) := hid ⟨⟨⟨(HS5.out.next hm.below).bel, (HS5.out.next hm.below).box⟩, HX5.out.kept hm.below (HX5.out.lt N1), HD6.out, keep_cell HV5.out.1 hm.below, HV5.out.2.kept hm.below (HV5.out.2.lt M1), N1, q1, M1⟩, (HS5.out.next hm.below).pc⟩
    clear hm hBD HS5 HX5 HV5 HD6
    have n0 : (0 : Int) ≤ (n : Int) := by omega
    have n1 : (n : Int) < (n : Int) + 1 := by omega
    have n5 : n < n + 1 := by omega
    have cv := HP6.out.tp.cv
    go_wp2_with fail
    refine (sized_any ay ny cy M fy w6 (by omega) (HY.out.1.kept HP6.out.tp.st.bel)).mono ?_
    rintro e w7 ⟨rfl, hm⟩
    have HP7 := hid (HP6.out.next hm.below)
    have HY7 : Hid (Row w7 w6.heap.size 0 M (padF ny fy)) := hid hm.row
    obtain ⟨BY, hBY⟩ : ∃ x, w6.heap.size = x := ⟨_, rfl⟩
    rw [hBY] at HY7
    rw [hBY]
    clear hm hBY HP6 cv n0 n1 n5
    have HEN : Hid (endsQ c N M) := hid ⟨by rw [HN.out]; exact HNN.out.2, by rw [← HM.out]; exact top_len HN.out⟩
    obtain ⟨z0, z1, zl⟩ := HP7.out.tp.st.box
    have zp := HP7.out.pc
    go_wp2_with fail
    refine (vf_ok c (gn : Int) b off n cap A C BX 0 N N BY 0 M M (padF ni fi) (padF ny fy) ap n cp p m BD 0 q q (padF nd fd) w7 HG.out HN.out (HR.out.kept HP7.out.tp.st.bel) HC.out HPP.out.1 (HPP.out.2.1.kept HP7.out.tp.st.bel) HPP.out.2.2 HSP.out HEN.out HP7.out.tp.x (Nums_pad HI.out.2 _) HY7.out (Nums_pad HY.out.2 _) HP7.out.tp.d (Nums_pad HD.out.2 _) HQ.out.symm (Nat.le_refl _) (Nat.le_trans q40 (by decide)) (HT.out _ HP7.out.tp.st.bel)).mono ?_
    rintro e w8 ⟨r, rfl, hrr, hb⟩
    have HP8 := hid (HP7.out.next hb)
    have HY8 := hid (HY7.out.kept hb (HY7.out.lt M1))
    have HRR := hid hrr
    clear hb hrr HP7 HY7 z0 z1 zl zp
    go_wp2_with fail
    go_loopg [20, 82] M (fun qq s i wr => ∃ (t : Nat) (bb : Bool), t ≤ M ∧ qq = M - t ∧ s = .bool bb ∧ i = .int .i64 (t : Int) ∧ Hid (TqS w wr X (gn : Int) (.slice (some ⟨b, off, none⟩) n cap) (.slice ap n cp) BX N (padF ni fi) BD q (padF nd fd) V n dk M (valsQ c (padF ni fi) n)) ∧ Hid (Row wr BY 0 M (padF ny fy)))
    case atStart => exact ⟨0, true, by omega, rfl, rfl, rfl, HP8, HY8⟩
    case round =>
      clear HP8 HY8
      obtain ⟨t, bb, ht, rfl, rfl, rfl, HP9, HY9⟩ := hrel
      by_cases htl : t < M
      · have t0 : (0 : Int) ≤ (t : Int) := by omega
        have t1 : (t : Int) < (M : Int) := by omega
        have c1 := HY9.out t htl
        have c2 := HP9.out.tp.y t htl
        rw [Nat.zero_add] at c1 c2
        obtain ⟨xa, hxa⟩ : ∃ x, padF ny fy t = x := ⟨_, rfl⟩
        obtain ⟨xb, hxb⟩ : ∃ x, valsQ c (padF ni fi) n t = x := ⟨_, rfl⟩
        obtain ⟨a0, a1⟩ := Nums_pad HY.out.2 ny t
        rw [hxa] at c1 a0 a1
        rw [hxb] at c2
        clear hxa hxb
        cases bb with
        | true =>
          have nc : TwoR BY dk t xa xb wr := ⟨c1, c2⟩
          go_wp2_with fail
          go_region_held3 (TwoR BY dk t xa xb) (first | assumption | exact nc) (first
            | (go_at_call 21; refine (norm_any xa _ a0 a1).mono ?_; rintro e w' ⟨rfl, hw⟩; obtain rfl := hw.symm))
          have HPA := hid (HP9.out.next (Below.refl _ wr).drew)
          have HYA := hid HY9.out.drew
          go_wp2_with fail
          go_roundg (M - (t + 1))
          case measure => go_light; omega
          case rel => exact ⟨t + 1, _, by omega, rfl, rfl, by go_num, HPA, HYA⟩
        | false =>
          clear c1 c2
          go_wp2_with fail
          go_quiet (fail)
          have HPA : Hid (TqS w (wr.drewN nq) X (gn : Int) (.slice (some ⟨b, off, none⟩) n cap) (.slice ap n cp) BX N (padF ni fi) BD q (padF nd fd) V n dk M (valsQ c (padF ni fi) n)) := hid (HP9.out.next ⟨rfl, rfl, rfl, Nat.le_refl _, fun _ _ => rfl⟩)
          have HYA : Hid (Row (wr.drewN nq) BY 0 M (padF ny fy)) := hid HY9.out
          generalize wr.drewN nq = wq at HPA HYA ⊢
          go_wp2_with fail
          go_roundg (M - (t + 1))
          case measure => go_light; omega
          case rel => exact ⟨t + 1, false, by omega, rfl, rfl, by go_num, HPA, HYA⟩
      · have t1 : ¬ ((t : Int) < (M : Int)) := by omega
        cases r with
        | false =>
          go_wp2_with fail
          go_ret
          exact ⟨rfl, HP9.out.tp.st.bel⟩
        | true =>
          cases bb with
          | true =>
            go_wp2_with fail
            go_ret
            exact ⟨rfl, HP9.out.tp.st.bel⟩
          | false =>
            obtain ⟨z0, z1, zl⟩ := HP9.out.tp.st.box
            go_wp2_with fail
            refine (pv_ok c gn b off n cap A C BX 0 N N (padF ni fi) BD 0 q q (padF nd fd) wr HG.out HN.out (HR.out.kept HP9.out.tp.st.bel) HC.out HSH.out HNN.out.1 HP9.out.tp.x (Nums_pad HI.out.2 _) HP9.out.tp.d (Nums_pad HD.out.2 _) HQ.out.symm (Nat.le_refl _) (Nat.le_trans q40 (by decide)) (HT.out _ HP9.out.tp.st.bel)).mono ?_
            rintro e wa ⟨PC, m2, rfl, hpf, hlow, hb⟩
            have hal := (Below.refl wa.heap.size wa).alloc (Nat.le_refl _) (.cells #[.slice (some ⟨PC, 0, none⟩) n n] 28)
            have HPA := hid ((HP9.out.next hb).next hal)
            have HYA := hid ((HY9.out.kept hb (HY9.out.lt M1)).kept hal (Nat.lt_of_lt_of_le (HY9.out.lt M1) hb.size))
            have HFA := hid (hpf.kept hal)
            have cq : (wa.alloc (.cells #[.slice (some ⟨PC, 0, none⟩) n n] 28)).cell? ⟨wa.heap.size, 0, none⟩ = some (.slice (some ⟨PC, 0, none⟩) n n) := by rw [World.cell?_alloc_new]; rfl
            clear hpf hlow hb hal HP9 HY9 z0 z1 zl
            obtain ⟨z0, z1, zl⟩ := HPA.out.tp.st.box
            have zp := HPA.out.pc
            have HLI : Hid (Calls Tryd.prog 22 #[.agg #[.int .i64 (gn : Int), .slice (some ⟨b, off, none⟩) n cap], .slice (some ⟨BY, 0, none⟩) M M, .slice (some ⟨dk, 0, none⟩) M M, .agg #[.slice ap n cp], .agg #[.slice (some ⟨PC, 0, none⟩) n n], .slice (some ⟨BD, 0, none⟩) q q] (wa.alloc (.cells #[.slice (some ⟨PC, 0, none⟩) n n] 28)) fun e w' => e = .returned (.bool true) ∧ Below (wa.alloc (.cells #[.slice (some ⟨PC, 0, none⟩) n n] 28)).heap.size (wa.alloc (.cells #[.slice (some ⟨PC, 0, none⟩) n n] 28)) w') := hid (by
              refine lie_any c (gn : Int) (.slice (some ⟨b, off, none⟩) n cap) n BY dk M (padF ny fy) (valsQ c (padF ni fi) n) ap cp p m PC m2 (padF ni fi) (padF nd fd) BD q _ HN.out HC.out HSP.out (HPP.out.2.1.kept HPA.out.tp.st.bel) HPP.out.2.2 HFA.out HYA.out (Nums_pad HY.out.2 _) HPA.out.tp.y (Nums_vals c _ n) HEN.out.2 HPA.out.tp.d (Nums_pad HD.out.2 _) HQ.out.symm (HT.out _ HPA.out.tp.st.bel) (fun hne => ?_)
              refine lie_place HC.out (padF ni fi) (padF nd fd) p _ HSP.out (HRR.out.1 (by first | rfl | trivial)) (fun e => hne ?_)
              rw [kk_ofK] at e
              rw [e]
              show ofK (evS (fun j => kk (valsQ c (padF ni fi) (c.layers.length - 0) j)) _ _) = _
              rw [Nat.sub_zero, HN.out]
              rfl)
            have HBL := hid HPA.out.tp.st.bel
            clear HPA HYA HFA
            go_wp2_with (go_at_call 22; refine (HLI.out).mono ?_; rintro e wb ⟨rfl, hbl⟩)
            go_ret
            exact ⟨rfl, bel_trans hbl HBL.out⟩

end Go.Proofs.YtoibgjkcdjodhaaDoor

/-
  What a list of lists of numbers that came in gives the walk.
-/
namespace Go.Proofs.YtoibgjkcdjodhaaDoor
open Go.ChangeShapes Go.WideShapes Go.RowKit
set_option linter.unusedVariables false

/-- A list of lists of numbers of 64 bits that came in. -/
def IsLists (w : World) (a : Option Addr) (len cap : Nat) (A : Nat → Option Addr) (L C : Nat → Nat) (F : Nat → Nat → Int) : Prop :=
  LRow w a len A L C F ∧ len ≤ maxLen ∧ (∀ i, i < len → Nums (F i) ∧ L i ≤ maxLen) ∧ len ≤ cap
theorem u64_of_wf {a : Int} (h : (Lit.int .u64 a).wf = true) : 0 ≤ a ∧ a ≤ 18446744073709551615 := by
  simp [Lit.wf, IntKind.min, IntKind.max, IntKind.signed, IntKind.bits] at h
  omega
theorem nums_of_wf {zs : List Int} (h : ∀ n ∈ zs, (Lit.int .u64 n).wf = true) : Nums (fun j => zs.getD j 0) := fun j => by
  dsimp only
  by_cases hj : j < zs.length
  · have : zs.getD j 0 = zs[j] := by simp [List.getD, hj]
    rw [this]
    exact u64_of_wf (h _ (List.getElem_mem hj))
  · have : zs.getD j 0 = 0 := by simp [List.getD, hj]
    rw [this]; omega
theorem cell_at {w : World} {a : Addr} {u : Value} (h : w.cell? (a.add 0) = some u) : ∃ b off, a = ⟨b, off, none⟩ := by
  obtain ⟨b, off, spot⟩ := a
  have hspot : spot = none := by simpa [Addr.add] using World.cell?_spot h
  subst hspot
  exact ⟨b, off, rfl⟩
theorem lists_of {H : Type} {enc : TypeId × Value → H} {W : World} {base : Nat} {held : Bool} {fuel : Nat} {a : Option Addr} {len cap : Nat} {x : DataW H × List MemPlace}
    (h : DataW.trod enc Tryd.prog W base (fun _ => true) held fuel 39 (Value.slice a len cap).cells.toList = some x) : ∃ A L C F, IsLists W a len cap A L C F := by
  rcases Deep.open_int_rows Tryd.underlying39 Tryd.underlying25 Tryd.underlying33 (by kernel_rfl) (by kernel_rfl) h with ⟨hcs, _⟩ | ⟨a', len', cap', A, L, C, Z, hcs, _, hl, hm, _, hr⟩
  · simp [Value.cells] at hcs
    obtain ⟨rfl, rfl, rfl⟩ := hcs
    exact ⟨fun _ => none, fun _ => 0, fun _ => 0, fun _ _ => 0, fun h0 => absurd h0 (by omega), Nat.zero_le _, fun i hi => absurd hi (by omega), Nat.zero_le _⟩
  · simp [Value.cells] at hcs
    obtain ⟨rfl, rfl, rfl⟩ := hcs
    refine ⟨A, L, C, fun i j => (Z i).getD j 0, fun h0 => ?_, Nat.le_trans hl hm, fun i hi => ?_, hl⟩
    · obtain ⟨b, off, rfl⟩ := cell_at (hr 0 (by omega)).1
      refine ⟨b, off, rfl, fun i hi => ?_⟩
      obtain ⟨h1, h2, h3, h4, h5, h6, h7⟩ := hr i (by omega)
      refine ⟨by rw [← add_plain]; exact h1, fun hp => ?_⟩
      cases hA : A i with
      | none => exact absurd (h6 hA) (by omega)
      | some a2 =>
        obtain ⟨_, hc⟩ := h7 a2 hA
        obtain ⟨b2, off2, rfl⟩ := cell_at (hc 0 (by omega))
        exact ⟨b2, off2, rfl, fun j hj => by rw [← add_plain]; exact hc j (by omega)⟩
    · obtain ⟨h1, h2, h3, h4, h5, h6, h7⟩ := hr i (by omega)
      exact ⟨nums_of_wf h5, Nat.le_trans h2 h3⟩

end Go.Proofs.YtoibgjkcdjodhaaDoor

/-
  What a proof (api.Proof) that came in gives the walk.
-/
namespace Go.Proofs.YtoibgjkcdjodhaaDoor
open Go.ChangeShapes Go.WideShapes Go.RowKit Go.Deep
set_option linter.unusedVariables false

theorem part_cells : Tryd.prog.cellsOf 82 = 2 := by kernel_rfl
theorem proof_cells : Tryd.prog.cellsOf 28 = 1 := by kernel_rfl
theorem parts_cells : Tryd.prog.cellsOf 26 = 1 := by kernel_rfl
theorem rows_cells : Tryd.prog.cellsOf 39 = 1 := by kernel_rfl
theorem row_cells1 : Tryd.prog.cellsOf 25 = 1 := by kernel_rfl
section
variable {H : Type} {enc : TypeId × Value → H} {W : World} {base : Nat} {held : Bool}
/-- A list of numbers that came in. -/
theorem nums_of {fuel : Nat} {cs : List Value} {x : DataW H × List MemPlace} (h : DataW.trod enc Tryd.prog W base (fun _ => true) held fuel 25 cs = some x) :
    ∃ a len cap f, cs = [.slice a len cap] ∧ PRow W a len f ∧ Nums f ∧ len ≤ cap ∧ cap ≤ maxLen := by
  rcases open_ints Tryd.underlying25 Tryd.underlying33 (by kernel_rfl) h with ⟨hcs, _⟩ | ⟨a, len, cap, zs, hcs, _, hl, hm, hz, _, hc, hw⟩
  · exact ⟨none, 0, 0, fun _ => 0, hcs, fun h0 => absurd h0 (by omega), fun _ => by dsimp only; omega, Nat.le_refl _, Nat.zero_le _⟩
  · simp only [if_true] at hz
    refine ⟨some a, len, cap, fun j => zs.getD j 0, hcs, fun h0 => ?_, nums_of_wf hw, hl, hm⟩
    obtain ⟨b, off, rfl⟩ := cell_at (hc 0 (by omega))
    exact ⟨b, off, rfl, fun j hj => by rw [← add_plain]; exact hc j (by omega)⟩
set_option maxRecDepth 100000 in
theorem part_of {fuel : Nat} {v0 v1 : Value} {x : DataW H × List MemPlace} (h : DataW.trod enc Tryd.prog W base (fun _ => true) held fuel 82 [v0, v1] = some x) :
    ∃ ra rn rc la ln lc A L C F G, v0 = .slice ra rn rc ∧ v1 = .slice la ln lc ∧ LRow W ra rn A L C F ∧ PRow W la ln G ∧ (∀ i, i < rn → Nums (F i) ∧ L i ≤ maxLen) ∧ Nums G ∧ rn ≤ maxLen ∧ ln ≤ maxLen := by
  obtain ⟨y0, y1, k, _, _, g0, g1⟩ := trod_struct2 Tryd.underlying82 h
  simp [rows_cells, row_cells1] at g0 g1
  obtain ⟨la, ln, lc, G, e1, h1, h2, h3, h4⟩ := nums_of g1
  simp at e1
  subst e1
  obtain ⟨ra, rn, rc, rfl⟩ : ∃ ra rn rc, v0 = .slice ra rn rc := by
    rcases open_slice Tryd.underlying39 g0 with ⟨e, _⟩ | ⟨_, _, _, _, _, _, _, e, _⟩
    · simp at e; exact ⟨_, _, _, e⟩
    · simp at e; exact ⟨_, _, _, e⟩
  obtain ⟨A, L, C, F, hL⟩ := lists_of (a := ra) (len := rn) (cap := rc) (by simpa [Value.cells] using g0)
  exact ⟨ra, rn, rc, la, ln, lc, A, L, C, F, G, rfl, rfl, hL.1, h1, hL.2.2.1, h2, hL.2.1, Nat.le_trans h3 h4⟩
set_option maxRecDepth 100000 in
theorem parts_of {fuel : Nat} {a : Option Addr} {len cap : Nat} {x : DataW H × List MemPlace}
    (h : DataW.trod enc Tryd.prog W base (fun _ => true) held fuel 26 [Value.slice a len cap] = some x) : ∃ (p : PQ) (m : PM), IsPrf W a len cap p m := by
  rcases open_slice Tryd.underlying26 h with ⟨hcs, _⟩ | ⟨a', len', cap', mm, n, D, Pl, hcs, _, hl, hm, hmm, _, hx⟩
  · simp at hcs
    obtain ⟨rfl, rfl, rfl⟩ := hcs
    exact ⟨⟨0, fun _ => 0, fun _ => 0, fun _ _ => 0, fun _ _ _ => 0, fun _ _ => 0⟩, ⟨fun _ => none, fun _ => none, fun _ => 0, fun _ => 0, fun _ _ => none, fun _ _ => 0⟩, rfl, Nat.le_refl _, Nat.zero_le _, fun h => absurd h (Nat.lt_irrefl 0), fun j hj => absurd hj (Nat.not_lt_zero j), fun j hj => absurd hj (Nat.not_lt_zero j)⟩
  · simp at hcs
    obtain ⟨rfl, rfl, rfl⟩ := hcs
    simp only [if_true] at hmm
    have each : ∀ i, i < len → ∃ y : (Option Addr × Nat × Nat) × (Option Addr × Nat × Nat) × ((Nat → Option Addr) × (Nat → Nat) × (Nat → Nat)) × (Nat → Nat → Int) × (Nat → Int),
        W.cell? (a'.add (2 * i)) = some (.slice y.1.1 y.1.2.1 y.1.2.2) ∧ W.cell? (a'.add (2 * i + 1)) = some (.slice y.2.1.1 y.2.1.2.1 y.2.1.2.2) ∧
        LRow W y.1.1 y.1.2.1 y.2.2.1.1 y.2.2.1.2.1 y.2.2.1.2.2 y.2.2.2.1 ∧ PRow W y.2.1.1 y.2.1.2.1 y.2.2.2.2 ∧ (∀ k, k < y.1.2.1 → Nums (y.2.2.2.1 k) ∧ y.2.2.1.2.1 k ≤ maxLen) ∧ Nums y.2.2.2.2 ∧ y.1.2.1 ≤ maxLen ∧ y.2.1.2.1 ≤ maxLen := by
      intro i hi
      obtain ⟨cs', h1, h2⟩ := hx i (by omega)
      rw [part_cells] at h1
      obtain ⟨_, hlen, hcell⟩ := World.cells?_some h1
      match cs', hlen with
      | [v0, v1], _ =>
        obtain ⟨ra, rn, rc, la, ln, lc, A, L, C, F, G, e0, e1, p1, p2, p3, p4, p5, p6⟩ := part_of h2
        subst e0
        subst e1
        have c0 := hcell 0 (by omega)
        have c1 := hcell 1 (by omega)
        rw [add_two] at c0 c1
        exact ⟨((ra, rn, rc), (la, ln, lc), (A, L, C), F, G), by simpa using c0, by simpa using c1, p1, p2, p3, p4, p5, p6⟩
    haveI : Inhabited ((Option Addr × Nat × Nat) × (Option Addr × Nat × Nat) × ((Nat → Option Addr) × (Nat → Nat) × (Nat → Nat)) × (Nat → Nat → Int) × (Nat → Int)) := ⟨((none, 0, 0), (none, 0, 0), (fun _ => none, fun _ => 0, fun _ => 0), fun _ _ => 0, fun _ => 0)⟩
    obtain ⟨f, hf⟩ := choose_lt each
    refine ⟨⟨len, fun j => (f j).1.2.1, fun j => (f j).2.1.2.1, fun j => (f j).2.2.1.2.1, fun j => (f j).2.2.2.1, fun j => (f j).2.2.2.2⟩, ⟨fun j => (f j).1.1, fun j => (f j).2.1.1, fun j => (f j).1.2.2, fun j => (f j).2.1.2.2, fun j => (f j).2.2.1.1, fun j => (f j).2.2.1.2.2⟩, rfl, hl, hm, fun h0 => ?_, fun j hj => ?_, fun j hj => ?_⟩
    · obtain ⟨b, off, rfl⟩ := cell_spot (by simpa using (hf 0 h0).1)
      refine ⟨b, off, rfl, fun j hj => ?_⟩
      obtain ⟨c0, c1, c2, c3, _⟩ := hf j hj
      rw [Addr.add_lit] at c0 c1
      exact ⟨c0, c1, c2, c3⟩
    · obtain ⟨_, _, _, _, c4, c5, _⟩ := hf j hj
      exact ⟨fun i hi => (c4 i hi).1, c5⟩
    · obtain ⟨_, _, _, _, c4, _, c6, c7⟩ := hf j hj
      exact ⟨c6, c7, fun i hi => (c4 i hi).2⟩
set_option maxRecDepth 100000 in
theorem prf_val {v : Value} {d : DataW H} {p : List MemPlace} (hv : Value.okWide Tryd.prog W .any base 28 v) (h : DataW.Trod enc Tryd.prog W 0 (fun _ => true) true 28 v d p) :
    ∃ a len cap, v = .agg #[.slice a len cap] := by
  obtain ⟨cs, rfl, hs⟩ := okWide_struct Tryd.underlying28 hv
  obtain ⟨fuel, hf⟩ := h
  obtain ⟨y0, k, _, _, g0⟩ := trod_struct1 Tryd.underlying28 hf
  rw [proof_cells] at hs
  obtain ⟨l⟩ := cs
  match l, hs with
  | [v0], _ =>
    simp [Value.cells, parts_cells] at g0
    rcases open_slice Tryd.underlying26 g0 with ⟨e, _⟩ | ⟨_, _, _, _, _, _, _, e, _⟩
    · simp at e; exact ⟨_, _, _, by rw [e]⟩
    · simp at e; exact ⟨_, _, _, by rw [e]⟩
set_option maxRecDepth 100000 in
theorem prf_of {a : Option Addr} {len cap : Nat} {d : DataW H} {p : List MemPlace} (h : DataW.Trod enc Tryd.prog W 0 (fun _ => true) true 28 (.agg #[.slice a len cap]) d p) :
    ∃ q m, IsPrf W a len cap q m := by
  obtain ⟨fuel, hf⟩ := h
  obtain ⟨y0, k, _, _, g0⟩ := trod_struct1 Tryd.underlying28 hf
  simp [Value.cells, parts_cells] at g0
  exact parts_of g0
end

end Go.Proofs.YtoibgjkcdjodhaaDoor
